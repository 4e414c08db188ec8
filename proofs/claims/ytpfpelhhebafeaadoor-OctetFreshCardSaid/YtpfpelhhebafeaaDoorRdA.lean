/- What a reader answers, plainly; the program's reader with all its errors. -/
import Derived.Test.YtpfpelhhebafeaaDoorRefRd
import Derived.BigQuiet
namespace Go.Proofs.YtpfpelhhebafeaaDoor
open Go.RowKit Go.Lib
set_option linter.unusedVariables false
set_option linter.unusedSimpArgs false
/-- Bytes are bytes. -/
def Byt (bs : List Int) : Prop := ∀ x ∈ bs, 0 ≤ x ∧ x < 256
def nats (bs : List Int) : List Nat := bs.map Int.toNat
theorem nats_cast {bs : List Int} (h : Byt bs) : bs = (nats bs).map (fun (n : Nat) => (n : Int)) := by
  unfold nats
  rw [List.map_map]
  refine (List.map_id bs).symm.trans (List.map_congr_left fun x hx => ?_)
  have := (h x hx).1
  simp; omega
theorem nats_lt {bs : List Int} (h : Byt bs) : ∀ b ∈ nats bs, b < 256 := by
  intro b hb
  obtain ⟨x, hx, rfl⟩ := List.mem_map.1 hb
  have := h x hx
  omega
theorem Byt.sub {bs : List Int} (h : Byt bs) (a b : Nat) : Byt ((bs.drop a).take b) := fun x hx => h x (List.mem_of_mem_drop (List.mem_of_mem_take hx))
/-- Word: the number, the error, the place behind. -/
def wordA (bs : List Int) (p : Nat) (s : Int) : Nat × Int × Nat :=
  if ¬ (1 ≤ s ∧ s ≤ 8) then (0, 4, p) else if bs.length < p + s.toNat then (0, 1, p) else (vals8 (nats ((bs.drop p).take s.toNat)), 0, p + s.toNat)
def bytA (bs : List Int) (p : Nat) (n : Int) : List Int × Int × Nat :=
  if n < 0 then ([], 4, p) else if bs.length < p + n.toNat then ([], 1, p) else ((bs.take (p + n.toNat)).drop p, 0, p + n.toNat)
def sealA (bs : List Int) (p : Nat) (f : Int) : Int × Nat :=
  if ¬ (0 ≤ f ∧ f ≤ (p : Int)) then (6, p) else if bs.length < p + 4 then (1, p) else if vals8 (nats ((bs.drop p).take 4)) = crc ((bs.take p).drop f.toNat) then (0, p + 4) else (43, p)
def seekA (bs : List Int) (p : Nat) (q : Int) : Int × Nat := if 0 ≤ q ∧ q ≤ (bs.length : Int) then (0, q.toNat) else (6, p)
/-- A number in groups: its value, the error, how many bytes it has. -/
def vr : List Int → Nat → Nat → Nat × Int × Nat
  | [], _, _ => (0, 1, 0)
  | c :: t, i, a => if i = 9 ∧ 1 < c.toNat then (0, 2, 0) else if c.toNat < 128 then (if c.toNat = 0 ∧ 0 < i then (0, 3, 0) else (a + c.toNat % 128 * 2 ^ (7 * i), 0, i + 1)) else vr t (i + 1) (a + c.toNat % 128 * 2 ^ (7 * i))
def varA (bs : List Int) (p : Nat) : Nat × Int × Nat := let a := vr (bs.drop p) 0 0; (a.1, a.2.1, p + a.2.2)
theorem vr_count : ∀ (l : List Int) (i a : Nat), (vr l i a).2.2 ≤ i + l.length
  | [], i, a => by simp [vr]
  | c :: t, i, a => by
    unfold vr
    split
    · simp
    · split
      · split
        · simp
        · simp
      · have := vr_count t (i + 1) (a + c.toNat % 128 * 2 ^ (7 * i))
        simp only [List.length_cons]
        omega
theorem varA_le {bs : List Int} {p : Nat} (hp : p ≤ bs.length) : (varA bs p).2.2 ≤ bs.length := by
  have := vr_count (bs.drop p) 0 0
  rw [List.length_drop] at this
  show p + (vr (bs.drop p) 0 0).2.2 ≤ bs.length
  omega
theorem wordA_le {bs : List Int} {p : Nat} {s : Int} (hp : p ≤ bs.length) : (wordA bs p s).2.2 ≤ bs.length := by
  unfold wordA; repeat' split
  all_goals simp only; omega
theorem bytA_le {bs : List Int} {p : Nat} {s : Int} (hp : p ≤ bs.length) : (bytA bs p s).2.2 ≤ bs.length := by
  unfold bytA; repeat' split
  all_goals simp only; omega
theorem sealA_le {bs : List Int} {p : Nat} {s : Int} (hp : p ≤ bs.length) : (sealA bs p s).2 ≤ bs.length := by
  unfold sealA; repeat' split
  all_goals simp only; omega
theorem seekA_le {bs : List Int} {p : Nat} {s : Int} (hp : p ≤ bs.length) : (seekA bs p s).2 ≤ bs.length := by
  unfold seekA; split
  all_goals simp only; omega
theorem RowAt.nil (k : IntKind) (w : World) : RowAt k w (.slice none 0 0) [] := ⟨none, 0, rfl, Nat.le_refl _, by omega, fun _ => rfl, fun a ha => by cases ha⟩
set_option maxRecDepth 100000 in
theorem prd_word (w : World) (r p : Nat) (s : Int) (bs : List Int) (h : RdIs w r bs p) (hp : p ≤ bs.length) (hby : Byt bs) (hbig : bs.length ≤ 175921860444160) :
    Calls Tryd.prog 39 #[.pointer (some ⟨r, 0, none⟩), .int .i64 s] w fun e w' => e = .returned (.tuple #[.int .u64 ((wordA bs p s).1 : Nat), .int .i64 (wordA bs p s).2.1]) ∧ RdIs w' r bs (wordA bs p s).2.2 ∧ But r w w' := by
  by_cases hs : 1 ≤ s ∧ s ≤ 8
  · obtain ⟨k, rfl⟩ : ∃ k : Nat, s = (k : Int) := ⟨s.toNat, by omega⟩
    have hk1 : 1 ≤ k := by omega
    have hk8 : k ≤ 8 := by omega
    by_cases hl : bs.length < p + k
    · have e : wordA bs p (k : Int) = (0, 1, p) := by unfold wordA; rw [if_neg (fun h => h hs), if_pos (by simpa using hl)]
      rw [e]
      have HLF := hide (left_any w r bs p h hp hbig)
      have HWD := hide (width_any k w hk1 hk8)
      have H := hide h
      obtain ⟨L, hL⟩ : ∃ L, L = bs.length := ⟨_, rfl⟩
      rw [← hL] at HLF hl
      have hlt : (L : Int) - (p : Int) < (k : Int) := by omega
      clear h hs hL e hl hp hbig hby
      go_enter Tryd.func39, Tryd.ntmps39
      go_wp2_with (first
        | (go_at_call 40; refine HWD.out.mono ?_; rintro e w1 ⟨rfl, rfl⟩)
        | (go_at_call 22; refine HLF.out.mono ?_; rintro e w2 ⟨rfl, hb2⟩; have HB := hide hb2; clear hb2)
        | fail)
      go_ret2
      exact ⟨rfl, H.out.below HB.out, But.of_below HB.out⟩
    · have e : wordA bs p (k : Int) = (vals8 (nats ((bs.drop p).take k)), 0, p + k) := by unfold wordA; rw [if_neg (fun h => h hs), if_neg (by simpa using hl)]; simp
      rw [e]
      refine rword_any w r p k bs (nats ((bs.drop p).take k)) h (nats_cast (hby.sub p k)) ?_ (nats_lt (hby.sub p k)) hk1 hk8 (by omega) hbig
      simp [nats]; omega
  · have e : wordA bs p s = (0, 4, p) := by unfold wordA; rw [if_pos hs]
    rw [e]
    have HWD := hide (width_bad s w hs)
    have H := hide h
    clear h hs e hp hbig hby
    go_enter Tryd.func39, Tryd.ntmps39
    go_wp2_with (go_at_call 40; refine HWD.out.mono ?_; rintro e w1 ⟨rfl, rfl⟩)
    go_ret2
    exact ⟨rfl, H.out, But.refl _ _⟩
set_option maxRecDepth 100000 in
theorem prd_bytes (w : World) (r p : Nat) (n : Int) (bs : List Int) (h : RdIs w r bs p) (hp : p ≤ bs.length) (hbig : bs.length ≤ 175921860444160) :
    Calls Tryd.prog 21 #[.pointer (some ⟨r, 0, none⟩), .int .i64 n] w fun e w' => ∃ v, e = .returned (.tuple #[v, .int .i64 (bytA bs p n).2.1]) ∧ RowAt .u8 w' v (bytA bs p n).1 ∧ RdIs w' r bs (bytA bs p n).2.2 ∧ But r w w' := by
  by_cases hn : n < 0
  · have e : bytA bs p n = ([], 4, p) := by unfold bytA; rw [if_pos hn]
    rw [e]
    have H := hide h
    clear h e hp hbig
    go_enter Tryd.func21, Tryd.ntmps21
    go_wp2
    go_ret2
    exact ⟨_, rfl, RowAt.nil _ _, H.out, But.refl _ _⟩
  · obtain ⟨k, rfl⟩ : ∃ k : Nat, n = (k : Int) := ⟨n.toNat, by omega⟩
    by_cases hl : bs.length < p + k
    · have e : bytA bs p (k : Int) = ([], 1, p) := by unfold bytA; rw [if_neg hn, if_pos (by simpa using hl)]
      rw [e]
      have HLF := hide (left_any w r bs p h hp hbig)
      have H := hide h
      obtain ⟨L, hL⟩ : ∃ L, L = bs.length := ⟨_, rfl⟩
      rw [← hL] at HLF hl
      have hlt : (L : Int) - (p : Int) < (k : Int) := by omega
      clear h hL e hl hp hbig
      go_enter Tryd.func21, Tryd.ntmps21
      go_wp2_with (first
        | (go_at_call 22; refine HLF.out.mono ?_; rintro e w2 ⟨rfl, hb2⟩; have HB := hide hb2; clear hb2)
        | fail)
      go_ret2
      exact ⟨_, rfl, RowAt.nil _ _, H.out.below HB.out, But.of_below HB.out⟩
    · have e : bytA bs p (k : Int) = ((bs.take (p + k)).drop p, 0, p + k) := by unfold bytA; rw [if_neg hn, if_neg (by simpa using hl)]; simp
      rw [e]
      by_cases hpe : p < bs.length
      · refine (rbytes_any w r p k bs h (by omega) hpe hbig).mono ?_
        rintro e w' ⟨ao, c, rfl, hown, hrd, hbut⟩
        refine ⟨_, rfl, ?_, hrd, hbut⟩
        have hlen : ((bs.take (p + k)).drop p).length = k := by simp; omega
        refine RowAt.of_owns (base := w.heap.size) (e := 5) ?_
        rw [hlen]; exact hown
      · obtain rfl : k = 0 := by omega
        refine (rbytes_zero w r p bs h hp hbig).mono ?_
        rintro e w' ⟨ao, c, rfl, hrow, hrd, hbut⟩
        have hz : (bs.take (p + 0)).drop p = [] := by simp
        rw [hz]
        exact ⟨_, rfl, hrow, hrd, hbut⟩
set_option maxRecDepth 100000 in
theorem prd_seek (w : World) (r p : Nat) (q : Int) (bs : List Int) (h : RdIs w r bs p) (hbig : bs.length ≤ 175921860444160) :
    Calls Tryd.prog 18 #[.pointer (some ⟨r, 0, none⟩), .int .i64 q] w fun e w' => e = .returned (.int .i64 (seekA bs p q).1) ∧ RdIs w' r bs (seekA bs p q).2 ∧ But r w w' := by
  by_cases hq : 0 ≤ q ∧ q ≤ (bs.length : Int)
  · obtain ⟨k, rfl⟩ : ∃ k : Nat, q = (k : Int) := ⟨q.toNat, by omega⟩
    have e : seekA bs p (k : Int) = (0, k) := by unfold seekA; rw [if_pos hq]; simp
    rw [e]
    exact seek_any w r p k bs h (by omega) hbig
  · have e : seekA bs p q = (6, p) := by unfold seekA; rw [if_neg hq]
    rw [e]
    have H := hide h
    obtain ⟨ao, c, hh, _⟩ := h
    have c0 := cell_of hh (i := 0) rfl
    have hh2 : q < 0 ∨ (bs.length : Int) < q := by omega
    clear hh hq e hbig
    go_enter Tryd.func18, Tryd.ntmps18
    go_wp2
    all_goals first
      | (exfalso; omega)
      | (go_ret; exact ⟨rfl, H.out, But.refl _ _⟩)
set_option maxRecDepth 100000 in
theorem prd_sealed (w : World) (r p : Nat) (f : Int) (bs : List Int) (h : RdIs w r bs p) (hp : p ≤ bs.length) (hby : Byt bs) (hbig : bs.length ≤ 175921860444160) (hs : SumsAt w) (hr0 : 0 < r) :
    Calls Tryd.prog 19 #[.pointer (some ⟨r, 0, none⟩), .int .i64 f] w fun e w' => e = .returned (.int .i64 (sealA bs p f).1) ∧ RdIs w' r bs (sealA bs p f).2 ∧ But r w w' := by
  by_cases hf : 0 ≤ f ∧ f ≤ (p : Int)
  · obtain ⟨k, rfl⟩ : ∃ k : Nat, f = (k : Int) := ⟨f.toNat, by omega⟩
    by_cases hl : bs.length < p + 4
    · have e : sealA bs p (k : Int) = (1, p) := by unfold sealA; rw [if_neg (fun h => h hf), if_pos hl]
      rw [e]
      have HW := hide (prd_word w r p 4 bs h hp hby hbig)
      have e2 : wordA bs p 4 = (0, 1, p) := by unfold wordA; rw [if_neg (by decide), if_pos (by simpa using hl)]
      rw [e2] at HW
      obtain ⟨ao, c, hh, _⟩ := h
      have c1 := cell_of hh (i := 1) rfl
      have hkp : ¬ (p : Int) < (k : Int) := by omega
      clear hh e e2 hl hp hby hbig hs hf
      go_enter Tryd.func19, Tryd.ntmps19
      go_wp2_with (first
        | (go_at_call 39; refine HW.out.mono ?_; rintro e w1 ⟨rfl, hrd, hbut⟩; have HX := hide (And.intro hrd hbut); clear hrd hbut)
        | fail)
      go_ret
      exact ⟨rfl, HX.out⟩
    · have hbb : ∀ x ∈ bs, 0 ≤ x ∧ x < 256 := hby
      have hls : (nats ((bs.drop p).take 4)).length = 4 := by simp [nats]; omega
      by_cases hv : vals8 (nats ((bs.drop p).take 4)) = crc ((bs.take p).drop k)
      · have e : sealA bs p (k : Int) = (0, p + 4) := by unfold sealA; rw [if_neg (fun h => h hf), if_neg hl, if_pos (by simpa using hv)]
        rw [e]
        exact sealed_right w r p k bs _ h (nats_cast (hby.sub p 4)) hls (nats_lt (hby.sub p 4)) (by omega) hbig (by omega) hs hr0 hbb hv
      · have e : sealA bs p (k : Int) = (43, p) := by unfold sealA; rw [if_neg (fun h => h hf), if_neg hl, if_neg (by simpa using hv)]
        rw [e]
        exact sealed_wrong w r p k bs _ h (nats_cast (hby.sub p 4)) hls (nats_lt (hby.sub p 4)) (by omega) hbig (by omega) hs hr0 hbb hv
  · have e : sealA bs p f = (6, p) := by unfold sealA; rw [if_pos hf]
    rw [e]
    have H := hide h
    obtain ⟨ao, c, hh, _⟩ := h
    have c1 := cell_of hh (i := 1) rfl
    have hh2 : f < 0 ∨ (p : Int) < f := by omega
    clear hh e hp hby hbig hs hf
    go_enter Tryd.func19, Tryd.ntmps19
    go_wp2
    all_goals first
      | (exfalso; omega)
      | (go_ret; exact ⟨rfl, H.out, But.refl _ _⟩)
end Go.Proofs.YtpfpelhhebafeaaDoor
