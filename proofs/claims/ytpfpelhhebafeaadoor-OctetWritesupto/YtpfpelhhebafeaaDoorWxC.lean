/- writes: one call of both writers. -/
import Derived.Test.YtpfpelhhebafeaaDoorWxB
import Derived.Test.YtpfpelhhebafeaaDoorRdC
namespace Go.Proofs.YtpfpelhhebafeaaDoor
open Go.RowKit Go.Lib Go.Maps
set_option linter.unusedVariables false
set_option linter.unusedSimpArgs false
/-- One writer of four. -/
structure WR where
  t : TypeId
  b : Nat
  v : Value
  bs : List Int
def wup (f : Nat → WR) (i : Nat) (x : WR) : Nat → WR := fun j => if j = i then x else f j
theorem wup_same (f : Nat → WR) (i : Nat) (x : WR) : wup f i x i = x := by simp [wup]
theorem wup_other {f : Nat → WR} {i j : Nat} {x : WR} (h : j ≠ i) : wup f i x j = f j := by simp [wup, h]
/-- Four writers in one memory, each with a row of its own, all newer than w. -/
structure WS (w X : World) (f : Nat → WR) : Prop where
  x : ∀ i, i < 4 → WX X (f i).t (f i).b (f i).v (f i).bs
  t : ∀ i, i < 4 → (f i).t ≠ 5
  ne : ∀ i j, i < 4 → j < 4 → i ≠ j → (f i).b ≠ (f j).b
  ow : ∀ i j k, i < 4 → j < 4 → i ≠ j → (f i).v.ownBlock = some k → (f j).v.ownBlock ≠ some k
  lo : ∀ i, i < 4 → w.heap.size ≤ (f i).b ∧ ∀ k, (f i).v.ownBlock = some k → w.heap.size ≤ k
  by' : ∀ i, i < 4 → Byt (f i).bs
  bel : Below w.heap.size w X
theorem WS.below {w X Y : World} {f : Nat → WR} (h : WS w X f) (hb : Below X.heap.size X Y) : WS w Y f :=
  ⟨fun i hi => (h.x i hi).below hb, h.t, h.ne, h.ow, h.lo, h.by', below_alloc_on h.bel hb⟩
theorem WX.far {X Y : World} {t t' : TypeId} {a b : Nat} {v v' u : Value} {bs cs : List Int} (h : WX X t b u bs) (k : WX X t' a v cs) (ht : t ≠ 5) (ht' : t' ≠ 5) (hw : WT a v v' X Y) (hne : b ≠ a) (hd : ∀ k, u.ownBlock = some k → v.ownBlock ≠ some k) : WX Y t b u bs := by
  have h1 : v.ownBlock ≠ some b := by
    intro e
    obtain ⟨c5, h5⟩ := k.row5 b e
    rw [h.hb] at h5
    simp only [Option.some.injEq, Obj.cells.injEq] at h5
    exact ht h5.2.1
  refine ⟨(hw.blk b (lt_of_heap h.hb) hne h1).trans h.hb, ?_⟩
  obtain ⟨h2, h3 | ⟨g, cap, cur, he, hg, hh, hr⟩⟩ := h.own
  · exact ⟨h2, .inl h3⟩
  · refine ⟨h2, .inr ⟨g, cap, cur, he, hg, (hw.blk g (lt_of_heap hh) ?_ ?_).trans hh, hr⟩⟩
    · intro e
      rw [e, k.hb] at hh
      simp only [Option.some.injEq, Obj.cells.injEq] at hh
      exact ht' hh.2.1
    · exact hd g (by rw [he]; rfl)
theorem WS.step {w X Y : World} {f : Nat → WR} {i : Nat} {v' : Value} {bs' : List Int} (h : WS w X f) (hi : i < 4) (hx : WX Y (f i).t (f i).b v' bs') (hw : WT (f i).b (f i).v v' X Y) (hby : Byt bs') : WS w Y (wup f i ⟨(f i).t, (f i).b, v', bs'⟩) := by
  have hsz := h.bel.size
  have hold : ∀ j, j < 4 → ∀ k, (f j).v.ownBlock = some k → k < X.heap.size := fun j hj k e => (h.x j hj).lt k e
  refine ⟨fun j hj => ?_, fun j hj => ?_, fun j k hj hk hne => ?_, fun j k n hj hk hne e => ?_, fun j hj => ?_, fun j hj => ?_, ?_⟩
  · by_cases e : j = i
    · subst e; rw [wup_same]; exact hx
    · rw [wup_other e]
      exact (h.x j hj).far (h.x i hi) (h.t j hj) (h.t i hi) hw (h.ne j i hj hi e) (fun k hk => h.ow j i k hj hi e hk)
  · by_cases e : j = i
    · subst e; rw [wup_same]; exact h.t j hj
    · rw [wup_other e]; exact h.t j hj
  · by_cases e : j = i
    · subst e
      rw [wup_same, wup_other (fun e => hne e.symm)]
      exact h.ne j k hj hk hne
    · rw [wup_other e]
      by_cases e2 : k = i
      · subst e2; rw [wup_same]; exact h.ne j k hj hk hne
      · rw [wup_other e2]; exact h.ne j k hj hk hne
  · by_cases e1 : j = i
    · subst e1
      rw [wup_same] at e
      rw [wup_other (fun e => hne e.symm)]
      rcases hw.own n e with h1 | h1
      · exact h.ow j k n hj hk hne h1
      · intro e3; have := hold k hk n e3; omega
    · rw [wup_other e1] at e
      by_cases e2 : k = i
      · subst e2
        rw [wup_same]
        intro e3
        rcases hw.own n e3 with h1 | h1
        · exact h.ow j k n hj hk hne e h1
        · have := hold j hj n e; omega
      · rw [wup_other e2]; exact h.ow j k n hj hk hne e
  · by_cases e : j = i
    · subst e
      rw [wup_same]
      refine ⟨(h.lo j hj).1, fun k hk => ?_⟩
      rcases hw.own k hk with h1 | h1
      · exact (h.lo j hj).2 k h1
      · omega
    · rw [wup_other e]; exact h.lo j hj
  · by_cases e : j = i
    · subst e; rw [wup_same]; exact hby
    · rw [wup_other e]; exact h.by' j hj
  · refine h.bel.trans ⟨hw.os, hw.tape, hw.output, hw.size, fun k hk => hw.blk k (by omega) ?_ ?_⟩
    · have := (h.lo i hi).1; omega
    · intro e; have := (h.lo i hi).2 k e; omega
/-- What Word and Seal write. -/
def wordS (x : Nat) (s : Int) : Int × List Int := if 1 ≤ s ∧ s ≤ 8 ∧ x / 2 ^ (8 * s.toNat) = 0 then (0, le x s.toNat) else (4, [])
def sealS (bs : List Int) (f : Int) : Int × List Int := if 0 ≤ f ∧ f ≤ (bs.length : Int) then (0, le (crc (bs.drop f.toNat)) 4) else (6, [])
theorem wordS_by (x : Nat) (s : Int) : Byt (wordS x s).2 ∧ (wordS x s).2.length ≤ 8 := by
  unfold wordS
  split
  · exact ⟨le_bytes _ _, by simp [le_length]; omega⟩
  · exact ⟨fun x hx => by simp at hx, by simp⟩
theorem sealS_by (bs : List Int) (f : Int) : Byt (sealS bs f).2 ∧ (sealS bs f).2.length ≤ 8 := by
  unfold sealS
  split
  · exact ⟨le_bytes _ _, by simp [le_length]⟩
  · exact ⟨fun x hx => by simp at hx, by simp⟩
theorem Byt.app {a b : List Int} (h : Byt a) (k : Byt b) : Byt (a ++ b) := fun x hx => by
  rcases List.mem_append.1 hx with h1 | h1
  · exact h x h1
  · exact k x h1
/-- What a call on one writer has made. -/
def WP (t : TypeId) (X : World) (b : Nat) (v : Value) (bs : List Int) (er : Int) (e : Ending) (X' : World) : Prop :=
  e = .returned (.int .i64 er) ∧ ∃ v', WX X' t b v' bs ∧ WT b v v' X X'
theorem WP.none {t : TypeId} {X : World} {b : Nat} {v : Value} {bs : List Int} {er : Int} (h : WX X t b v bs) : WP t X b v (bs ++ []) er (.returned (.int .i64 er)) X := ⟨rfl, v, by rw [List.append_nil]; exact h, WT.refl _ _ _⟩
theorem pw_word (w : World) (b : Nat) (v : Value) (bs : List Int) (x : Nat) (s : Int) (h : WX w 69 b v bs) (hx : x < 18446744073709551616) (hlen : bs.length ≤ 100000000000000) :
    Calls Tryd.prog 24 #[.pointer (some ⟨b, 0, none⟩), .int .u64 x, .int .i64 s] w (WP 69 w b v (bs ++ (wordS x s).2) (wordS x s).1) := by
  by_cases hs : 1 ≤ s ∧ s ≤ 8
  · obtain ⟨k, rfl⟩ : ∃ k : Nat, s = (k : Int) := ⟨s.toNat, by omega⟩
    have hk1 : 1 ≤ k := by omega
    have hk8 : k ≤ 8 := by omega
    by_cases hx0 : x / 2 ^ (8 * k) = 0
    · have e : wordS x (k : Int) = (0, le x k) := by unfold wordS; rw [if_pos ⟨hs.1, hs.2, by simpa using hx0⟩]; simp
      rw [e]
      exact word_x w b v bs x k h hx hx0 hk1 hk8 hlen
    · have e : wordS x (k : Int) = (4, []) := by unfold wordS; rw [if_neg (fun h => hx0 (by simpa using h.2.2))]
      rw [e]
      refine (word_big w b x k hk1 hk8 hx0).mono ?_
      rintro e w' ⟨rfl, rfl⟩
      exact WP.none h
  · have e : wordS x s = (4, []) := by unfold wordS; rw [if_neg (fun h => hs ⟨h.1, h.2.1⟩)]
    rw [e]
    refine (word_narrow w b x s hs).mono ?_
    rintro e w' ⟨rfl, rfl⟩
    exact WP.none h
theorem pr_word (w : World) (b : Nat) (v : Value) (bs : List Int) (x : Nat) (s : Int) (h : WX w 54 b v bs) (hx : x < 18446744073709551616) (hlen : bs.length ≤ 100000000000000) :
    Calls Tryd.prog 42 #[.pointer (some ⟨b, 0, none⟩), .int .u64 x, .int .i64 s] w (WP 54 w b v (bs ++ (wordS x s).2) (wordS x s).1) := by
  by_cases hs : 1 ≤ s ∧ s ≤ 8
  · obtain ⟨k, rfl⟩ : ∃ k : Nat, s = (k : Int) := ⟨s.toNat, by omega⟩
    have hk1 : 1 ≤ k := by omega
    have hk8 : k ≤ 8 := by omega
    by_cases hx0 : x / 2 ^ (8 * k) = 0
    · have e : wordS x (k : Int) = (0, le x k) := by unfold wordS; rw [if_pos ⟨hs.1, hs.2, by simpa using hx0⟩]; simp
      rw [e]
      exact rword_ok w b v bs x k h hx hx0 hk1 hk8 hlen
    · have e : wordS x (k : Int) = (4, []) := by unfold wordS; rw [if_neg (fun h => hx0 (by simpa using h.2.2))]
      rw [e]
      refine (rword_big w b x k hk1 hk8 hx hx0).mono ?_
      rintro e w' ⟨rfl, rfl⟩
      exact WP.none h
  · have e : wordS x s = (4, []) := by unfold wordS; rw [if_neg (fun h => hs ⟨h.1, h.2.1⟩)]
    rw [e]
    refine (rword_narrow w b x s hs).mono ?_
    rintro e w' ⟨rfl, rfl⟩
    exact WP.none h
theorem pw_seal (w : World) (b : Nat) (v : Value) (bs : List Int) (f : Int) (h : WX w 69 b v bs) (hby : Byt bs) (hlen : bs.length ≤ 100000000000000) (hs : SumsAt w) :
    Calls Tryd.prog 14 #[.pointer (some ⟨b, 0, none⟩), .int .i64 f] w (WP 69 w b v (bs ++ (sealS bs f).2) (sealS bs f).1) := by
  by_cases hf : 0 ≤ f ∧ f ≤ (bs.length : Int)
  · obtain ⟨k, rfl⟩ : ∃ k : Nat, f = (k : Int) := ⟨f.toNat, by omega⟩
    have e : sealS bs (k : Int) = (0, le (crc (bs.drop k)) 4) := by unfold sealS; rw [if_pos hf]; simp
    rw [e]
    exact seal_x w b k v bs h hs hby hlen (by omega)
  · have e : sealS bs f = (6, []) := by unfold sealS; rw [if_neg hf]
    rw [e]
    refine (seal_bad w 0 b v bs f h.prog hf).mono ?_
    rintro e w' ⟨rfl, rfl⟩
    exact WP.none h
theorem pr_seal (w : World) (b : Nat) (v : Value) (bs : List Int) (f : Int) (h : WX w 54 b v bs) (hby : Byt bs) (hlen : bs.length ≤ 100000000000000) :
    Calls Tryd.prog 45 #[.pointer (some ⟨b, 0, none⟩), .int .i64 f] w (WP 54 w b v (bs ++ (sealS bs f).2) (sealS bs f).1) := by
  by_cases hf : 0 ≤ f ∧ f ≤ (bs.length : Int)
  · obtain ⟨k, rfl⟩ : ∃ k : Nat, f = (k : Int) := ⟨f.toNat, by omega⟩
    have e : sealS bs (k : Int) = (0, le (crc (bs.drop k)) 4) := by unfold sealS; rw [if_pos hf]; simp
    rw [e]
    exact rseal_ok w b k v bs h hby hlen (by omega)
  · have e : sealS bs f = (6, []) := by unfold sealS; rw [if_neg hf]
    rw [e]
    refine (rseal_bad w b v bs f h hf).mono ?_
    rintro e w' ⟨rfl, rfl⟩
    exact WP.none h
/-- What writes has made. -/
def RW (w X : World) (f : Nat → WR) (p r : Nat) (bs : List Int) (lim : Nat) (e : Ending) (X' : World) : Prop :=
  e = .returned (.bool true) ∧ ∃ v1 v2 bs', WS w X' (wup (wup f p ⟨69, (f p).b, v1, bs'⟩) r ⟨54, (f r).b, v2, bs'⟩) ∧ bs'.length ≤ bs.length + lim
section
variable (w X : World) (f : Nat → WR) (p r : Nat) (bs : List Int) (sec : Bool) (x : Nat) (n : Int) (bv : Value) (b : List Int)
/-- Two of the four: the program's and the document's, of the same bytes. -/
structure Two (f : Nat → WR) (p r : Nat) (bs : List Int) : Prop where
  p4 : p < 4
  r4 : r < 4
  ne : p ≠ r
  tp : (f p).t = 69
  tr : (f r).t = 54
  bp : (f p).bs = bs
  br : (f r).bs = bs
end
end Go.Proofs.YtpfpelhhebafeaaDoor
