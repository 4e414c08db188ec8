/- Seek, Word and Sealed of the reader. -/
import Derived.Test.YtahhlmmdmjocdaaDoorWord
import Derived.Deep.QuietTactic
namespace Go.Proofs.YtahhlmmdmjocdaaDoor
open Go.RowKit Go.Lib
set_option linter.unusedVariables false

theorem RdIs.below {w w' : World} {r p : Nat} {bs : List Int} (h : RdIs w r bs p) (hb : Below w.heap.size w w') : RdIs w' r bs p := by
  obtain ⟨ao, c, hh, hr, ha⟩ := h
  exact ⟨ao, c, (hb.block r (lt_of_heap hh)).trans hh, hr.below hb, ha⟩
theorem rd_set {w : World} {r p q : Nat} {bs : List Int} (h : RdIs w r bs p) (z : Int) (hz : z = (q : Int)) : RdIs (w.setCell ⟨r, 1, none⟩ (.int .i64 z)) r bs q ∧ But r w (w.setCell ⟨r, 1, none⟩ (.int .i64 z)) := by
  subst hz
  obtain ⟨ao, c, hh, hrow, ha⟩ := h
  refine ⟨⟨ao, c, by rw [heap_set hh]; simp, ?_, ha⟩, But.setCell _ ⟨r, 1, none⟩ _⟩
  rcases ha with rfl | ⟨g, rfl, hg⟩
  · obtain ⟨ao', c', he, h1, h2, h3, h4⟩ := hrow
    simp only [Value.slice.injEq] at he
    obtain ⟨rfl, _, rfl⟩ := he
    exact ⟨none, c, rfl, h1, h2, h3, fun a ha => by cases ha⟩
  · obtain ⟨ao', c', he, h1, h2, h3, h4⟩ := hrow
    simp only [Value.slice.injEq] at he
    obtain ⟨rfl, _, rfl⟩ := he
    refine ⟨_, c, rfl, h1, h2, h3, fun a ha j hj => ?_⟩
    rw [← h4 a ha j hj]
    cases ha
    unfold World.cell?
    rw [Below.heap_setCell]
    rw [Addr.add_lit]
    exact hg

set_option maxRecDepth 100000 in
theorem seek_any (w : World) (r p q : Nat) (bs : List Int) (h : RdIs w r bs p) (hq : q ≤ bs.length) (hbig : bs.length ≤ 175921860444160) :
    Calls Tryd.prog 16 #[.pointer (some ⟨r, 0, none⟩), .int .i64 q] w fun e w' => e = .returned (.int .i64 0) ∧ RdIs w' r bs q ∧ But r w w' := by
  have H := hide h
  obtain ⟨ao, c, hh, _⟩ := h
  have c0 := cell_of hh (i := 0) rfl
  have c1 := cell_of hh (i := 1) rfl
  have f1 := free_of hh 1
  clear hh
  go_enter Tryd.func16, Tryd.ntmps16
  go_wp2
  go_ret
  exact ⟨rfl, rd_set H.out _ rfl⟩

def vals8 : List Nat → Nat
  | [] => 0
  | b :: r => b + 256 * vals8 r
theorem vals8_lt (l : List Nat) (h : ∀ b ∈ l, b < 256) : vals8 l < 2 ^ (8 * l.length) := by
  induction l with
  | nil => simp [vals8]
  | cons b r ih =>
    rw [List.length_cons, show 8 * (r.length + 1) = 8 + 8 * r.length by omega, Nat.pow_add, show (2 : Nat) ^ 8 = 256 by decide, vals8]
    have h1 := ih (fun x hx => h x (by simp [hx]))
    have h2 := h b (by simp)
    omega
theorem vals8_append (l : List Nat) (b : Nat) : vals8 (l ++ [b]) = vals8 l + b * 2 ^ (8 * l.length) := by
  induction l with
  | nil => simp [vals8]
  | cons a r ih =>
    rw [List.cons_append, vals8, ih, vals8, List.length_cons, show 8 * (r.length + 1) = 8 + 8 * r.length by omega, Nat.pow_add, show (2 : Nat) ^ 8 = 256 by decide, Nat.mul_add, Nat.mul_left_comm]
    omega
theorem or8 (acc b i : Nat) (ha : acc < 2 ^ (8 * i)) (hs : acc + b * 2 ^ (8 * i) < 18446744073709551616) :
    bits .or .u64 (acc : Int) (IntKind.u64.wrap ((b : Int) * 2 ^ (8 * i))) = ((acc + b * 2 ^ (8 * i) : Nat) : Int) := by
  have e2 : (b : Int) * 2 ^ (8 * i) = ((b * 2 ^ (8 * i) : Nat) : Int) := by push_cast; rfl
  rw [e2]
  have e3 : IntKind.u64.wrap ((b * 2 ^ (8 * i) : Nat) : Int) = ((b * 2 ^ (8 * i) : Nat) : Int) := by rw [IntKind.wrap_u64]; omega
  rw [e3, bits_or_u64_nat acc _ (by omega) (by omega), or_add _ _ _ ha]

set_option maxRecDepth 100000 in
set_option maxHeartbeats 2000000 in
theorem rword_any (w : World) (r p s : Nat) (bs : List Int) (l : List Nat) (h : RdIs w r bs p) (hl : (bs.drop p).take s = l.map (fun (n : Nat) => (n : Int))) (hls : l.length = s) (hby : ∀ b ∈ l, b < 256) (h1 : 1 ≤ s) (h8 : s ≤ 8) (hps : p + s ≤ bs.length) (hbig : bs.length ≤ 175921860444160) :
    Calls Tryd.prog 24 #[.pointer (some ⟨r, 0, none⟩), .int .i64 s] w fun e w' => e = .returned (.tuple #[.int .u64 ((vals8 l : Nat) : Int), .int .i64 0]) ∧ RdIs w' r bs (p + s) ∧ But r w w' := by
  have HLF := hide (left_any w r bs p h (by omega) hbig)
  have HWD := hide (width_any s w h1 h8)
  have H := hide h
  obtain ⟨ao, c, hh, hrow, hao⟩ := h
  obtain ⟨g, rfl, hgr⟩ : ∃ g, ao = some ⟨g, 0, none⟩ ∧ g ≠ r := by
    rcases hao with rfl | hg
    · obtain ⟨ao', c', he, k1, _, k3, _⟩ := hrow
      simp only [Value.slice.injEq] at he
      obtain ⟨rfl, _, rfl⟩ := he
      have := k3 rfl
      omega
    · exact hg
  have HH := hide hh
  have hcl : bs.length ≤ c := by
    obtain ⟨ao', c', he, k1, _⟩ := hrow
    simp only [Value.slice.injEq] at he
    obtain ⟨_, _, rfl⟩ := he
    exact k1
  have HC : Hid (∀ i, i < s → w.cell? ⟨g, p + i, none⟩ = some (.int .u8 ((l[i]?.getD 0 : Nat) : Int))) := fun i hi => by
    obtain ⟨ao', c', he, _, _, _, h4⟩ := hrow
    simp only [Value.slice.injEq] at he
    obtain ⟨rfl, _, rfl⟩ := he
    have h5 := h4 _ rfl (p + i) (by omega)
    rw [Addr.add_lit, Nat.zero_add] at h5
    rw [h5]
    have h6 : ((bs.drop p).take s)[i]? = (l.map (fun (n : Nat) => (n : Int)))[i]? := by rw [hl]
    rw [List.getElem?_take_of_lt hi, List.getElem?_drop] at h6
    have h7 : i < l.length := by omega
    rw [List.getElem?_map, List.getElem?_eq_getElem h7] at h6
    simp [List.getD, h6, List.getElem?_eq_getElem h7]
  obtain ⟨L, hL⟩ : ∃ L, L = bs.length := ⟨_, rfl⟩
  rw [← hL] at HLF hcl hps hbig
  have HL := hide hL
  have HBY := hide hby; have HLS := hide hls
  have hsub : ¬ (L : Int) - (p : Int) < (s : Int) := by omega
  have c0 := cell_of hh (i := 0) rfl
  have c1 := cell_of hh (i := 1) rfl
  rw [← hL] at c0
  clear hh hrow hao hL hl hby hls
  go_enter Tryd.func24, Tryd.ntmps24
  go_wp2_with fail
  refine HWD.out.mono ?_
  rintro e w1 ⟨rfl, rfl⟩
  go_wp2_with fail
  refine HLF.out.mono ?_
  rintro e w2 ⟨rfl, hb2⟩
  have hh2 := (hb2.block r (lt_of_heap HH.out)).trans HH.out
  rw [← HL.out] at hh2
  have c0' := cell_of hh2 (i := 0) rfl
  have c1' := cell_of hh2 (i := 1) rfl
  have HC2 : Hid (∀ i, i < s → w2.cell? ⟨g, p + i, none⟩ = some (.int .u8 ((l[i]?.getD 0 : Nat) : Int))) := fun i hi => by
    have h5 := HC.out i hi
    exact (below_cell hb2 (block_of_cell h5)).trans h5
  have HR2 := hide (H.out.below hb2)
  have HB2 := hide hb2
  have HH2 := hide hh2
  clear hb2 hh2 c0 c1 HC HLF HWD
  go_wp2
  go_loopw [16, 6] (fun t a wr => ∃ i : Nat, i ≤ s ∧ t = .int .i64 i ∧ a = .int .u64 ((vals8 (l.take i) : Nat) : Int) ∧ ∃ k, wr = w2.drewN k) (fun t _ _ => s - (RowKit.intOf t).toNat)
  case atStart => exact ⟨0, by omega, rfl, by simp [vals8], 0, rfl⟩
  case round =>
    obtain ⟨i, his, rfl, rfl, k, rfl⟩ := hrel
    by_cases hlt : i < s
    · have d := HC2.out i hlt
      have hil : i < l.length := by rw [HLS.out]; exact hlt
      have hb := HBY.out (l[i]) (List.getElem_mem hil)
      have e0 : l[i]?.getD 0 = l[i] := by rw [List.getElem?_eq_getElem hil]; rfl
      rw [e0] at d
      obtain ⟨b, hbv⟩ : ∃ b, b = l[i] := ⟨_, rfl⟩
      rw [← hbv] at d hb
      have hta : l.take (i + 1) = l.take i ++ [b] := by rw [List.take_add_one, List.getElem?_eq_getElem hil, hbv]; rfl
      have hlt8 : vals8 (l.take i) < 2 ^ (8 * i) := by
        have h3 := vals8_lt (l.take i) (fun x hx => HBY.out x (List.mem_of_mem_take hx))
        rw [List.length_take, Nat.min_eq_left (by omega)] at h3
        exact h3
      have hnx : vals8 (l.take (i + 1)) = vals8 (l.take i) + b * 2 ^ (8 * i) := by
        rw [hta, vals8_append, List.length_take, Nat.min_eq_left (by omega)]
      have h64 : vals8 (l.take (i + 1)) < 18446744073709551616 := by
        have h3 := vals8_lt (l.take (i + 1)) (fun x hx => HBY.out x (List.mem_of_mem_take hx))
        rw [List.length_take, Nat.min_eq_left (by omega)] at h3
        have h4 : 2 ^ (8 * (i + 1)) ≤ 2 ^ 64 := Nat.pow_le_pow_right (by decide) (by omega)
        have h5 : (2 : Nat) ^ 64 = 18446744073709551616 := by decide
        omega
      have HV := hide (or8 (vals8 (l.take i)) b i hlt8 (by rw [← hnx]; exact h64))
      rw [← hnx] at HV
      obtain ⟨A, hA⟩ : ∃ A, A = vals8 (l.take i) := ⟨_, rfl⟩
      rw [← hA] at HV ⊢
      have hpi : (p : Int) + (i : Int) < (L : Int) := by omega
      have hpi0 : 0 ≤ (p : Int) + (i : Int) := by omega
      have hwr : IntKind.i64.wrap ((p : Int) + (i : Int)) = (p : Int) + (i : Int) := IntWalk.i64_in _ ⟨by omega, by omega⟩
      have hwm : IntKind.i64.wrap (8 * (i : Int)) = 8 * (i : Int) := IntWalk.i64_in _ ⟨by omega, by omega⟩
      clear hbv hta hlt8 hnx h64 hA e0
      go_wp2
      go_region
      go_wp2
      go_roundw
      case rel => exact ⟨i + 1, by omega, by simp, by rw [HV.out], _, rfl⟩
      case measure => simp [RowKit.intOf]; omega
    · have hi2 : i = s := by omega
      have hta : vals8 (l.take i) = vals8 l := by rw [hi2, ← HLS.out, List.take_length]
      rw [hta]
      have f1 := free_of HH2.out 1
      clear hta
      go_wp2
      go_ret2
      have hz := rd_set (HR2.out.below (below_drewN (Below.refl _ _) k)) (q := p + s) ((p : Int) + (s : Int)) (by push_cast; rfl)
      exact ⟨rfl, hz.1, ((But.of_below HB2.out).trans (But.of_below (below_drewN (Below.refl _ _) k))).trans hz.2⟩
end Go.Proofs.YtahhlmmdmjocdaaDoor
