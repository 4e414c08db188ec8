/- dice.Skip; the statements' own helpers: zero, xor, behind. -/
import Derived.Test.YtglgflibpgmilaaLeaps
import Derived.Deep.QuietTactic
import Derived.BigQuiet
namespace Go.Proofs.Ytglgflibpgmilaa
open Go.RowKit Go.Lib

theorem RowAt.nil (k : IntKind) (w : World) : RowAt k w (.slice none 0 0) [] :=
  ⟨none, 0, rfl, by simp, by omega, (fun _ => rfl), (fun a ha => by cases ha)⟩

set_option maxRecDepth 100000 in
theorem skip_any (w : World) (b n : Nat) (ws : List Int) (s : St) (u : Int) (hd : DiceIs w b ws s u) (hs : s.Ok) (hn : n < 18446744073709551616) :
    Calls Try.prog 36 #[.pointer (some ⟨b, 0, none⟩), .int .u64 n] w fun e w' => e = .returned (.tuple #[]) ∧ DiceIs w' b ws (Leap.it n s) u ∧ But b w w' := by
  obtain ⟨fn, v, hh, hw, hf⟩ := hd
  have hb : b < w.heap.size := lt_of_heap hh
  have c2 : w.cell? ⟨b, 2, none⟩ = some (.int .u64 s.a) := cell_of hh rfl
  have c3 : w.cell? ⟨b, 3, none⟩ = some (.int .u64 s.b) := cell_of hh rfl
  have c4 : w.cell? ⟨b, 4, none⟩ = some (.int .u64 s.c) := cell_of hh rfl
  have c5 : w.cell? ⟨b, 5, none⟩ = some (.int .u64 s.d) := cell_of hh rfl
  have HH := hide hh; have HW := hide hw; have HF := hide hf
  clear hh hw hf
  go_enter Try.func36, Try.ntmps36
  go_wp2_with fail
  refine (leap_any s n _ hs hn).mono ?_
  rintro e w1 ⟨rfl, hb1⟩
  have hh1 : w1.heap[b]? = some (DObj fn v s u) := (hb1.block b hb).trans HH.out
  obtain ⟨t, ht⟩ : ∃ t, Leap.it n s = t := ⟨_, rfl⟩
  rw [ht]
  have HT := hide ht
  clear ht
  have d2 : w1.cell? ⟨b, 2, none⟩ = some (.int .u64 s.a) := cell_of hh1 rfl
  have d3 : w1.cell? ⟨b, 3, none⟩ = some (.int .u64 s.b) := cell_of hh1 rfl
  have d4 : w1.cell? ⟨b, 4, none⟩ = some (.int .u64 s.c) := cell_of hh1 rfl
  have d5 : w1.cell? ⟨b, 5, none⟩ = some (.int .u64 s.d) := cell_of hh1 rfl
  have f2 := free_of hh1 2; have f3 := free_of hh1 3; have f4 := free_of hh1 4; have f5 := free_of hh1 5
  have HH1 := hide hh1; have HB1 := hide hb1
  clear hh1 hb1 c2 c3 c4 c5
  unfold stAgg
  go_wp2_with fail
  go_end0
  have hbut : But b w ((((w1.setCell ⟨b, 2, none⟩ (.int .u64 t.a)).setCell ⟨b, 3, none⟩ (.int .u64 t.b)).setCell ⟨b, 4, none⟩ (.int .u64 t.c)).setCell ⟨b, 5, none⟩ (.int .u64 t.d)) :=
    ((((But.of_below HB1.out).trans (But.setCell _ ⟨b, 2, none⟩ _)).trans (But.setCell _ ⟨b, 3, none⟩ _)).trans (But.setCell _ ⟨b, 4, none⟩ _)).trans (But.setCell _ ⟨b, 5, none⟩ _)
  refine ⟨rfl, ?_, hbut⟩
  rw [HT.out]
  exact ⟨fn, v, heap_set (heap_set (heap_set (heap_set HH1.out _) _) _) _, HW.out.but hbut, HF.out⟩

set_option maxRecDepth 100000 in
theorem zero_any (s : St) (w : World) : Calls Try.prog 33 #[stAgg s] w fun e w' => e = .returned (.bool s.isZero) ∧ Below w.heap.size w w' := by
  have q := eql_arr
  unfold stAgg
  go_enter Try.func33, Try.ntmps33
  go_wp2
  go_ret
  exact ⟨rfl, (Below.refl _ _).alloc (Nat.le_refl _) _⟩

set_option maxRecDepth 100000 in
set_option maxHeartbeats 1000000 in
theorem lawXor_any (s t : St) (w : World) (hs : s.Ok) (ht : t.Ok) :
    Calls Try.prog 34 #[stAgg s, stAgg t] w fun e w' => e = .returned (stAgg (Leap.xs s t)) ∧ Below w.heap.size w w' := by
  unfold stAgg
  go_enter Try.func34, Try.ntmps34
  go_wp2
  go_loopw [5] (fun i wr => ∃ k : Nat, k ≤ 4 ∧ i = .int .i64 k ∧ St4 wr w.heap.size (xorTo s t k) ∧ St4 wr (w.heap.size + 1) t ∧ St4 wr (w.heap.size + 2) Leap.zs ∧ Below w.heap.size w wr) (fun i _ => 4 - (RowKit.intOf i).toNat)
  case atStart =>
    refine ⟨0, by omega, rfl, ?_, ?_, ?_, (((Below.refl _ w).alloc (Nat.le_refl _) _).alloc (by simp) _).alloc (by simp; omega) _⟩
    · exact three_new0 w _ _ _
    · exact three_new1 w _ _ _
    · exact three_new2 w _ _ _
  case round =>
    obtain ⟨k, hk, rfl, hA, hB, hC, hL⟩ := hrel
    by_cases hlt : k < 4
    · have c1 := hA.cell k hlt
      rw [xorTo_word s t k hlt] at c1
      have c2 := hB.cell k hlt
      have f1 := hA.free k
      have e1 : bits .xor .u64 (Leap.word s k : Int) (Leap.word t k : Int) = ((Leap.word s k ^^^ Leap.word t k : Nat) : Int) := u64_xor_nat _ _ (word_lt hs k) (word_lt ht k)
      have hR : Hid (St4 (wr.setCell ⟨w.heap.size, k, none⟩ (.int .u64 ((Leap.word s k ^^^ Leap.word t k : Nat) : Int))) w.heap.size (xorTo s t (k + 1)) ∧ St4 (wr.setCell ⟨w.heap.size, k, none⟩ (.int .u64 ((Leap.word s k ^^^ Leap.word t k : Nat) : Int))) (w.heap.size + 1) t ∧
          St4 (wr.setCell ⟨w.heap.size, k, none⟩ (.int .u64 ((Leap.word s k ^^^ Leap.word t k : Nat) : Int))) (w.heap.size + 2) Leap.zs ∧ Below w.heap.size w (wr.setCell ⟨w.heap.size, k, none⟩ (.int .u64 ((Leap.word s k ^^^ Leap.word t k : Nat) : Int)))) :=
        ⟨by rw [← xorTo_succ s t k hlt]; exact hA.set k _ hlt, hB.other (by omega) _ _, hC.other (by omega) _ _, hL.setCell (Nat.le_refl _) _⟩
      clear hA hB hC hL
      go_wp2
      go_region
      go_wp2
      go_roundw
      case rel => exact ⟨k + 1, by omega, by go_num, hR.out.1, hR.out.2.1, hR.out.2.2.1, hR.out.2.2.2.drew⟩
      case measure => simp [RowKit.intOf]; omega
    · obtain rfl : 4 = k := by omega
      have a0 := hA.cell 0 (by omega); have a1 := hA.cell 1 (by omega); have a2 := hA.cell 2 (by omega); have a3 := hA.cell 3 (by omega)
      have z0 := hC.cell 0 (by omega); have z1 := hC.cell 1 (by omega); have z2 := hC.cell 2 (by omega); have z3 := hC.cell 3 (by omega)
      have f0 := hC.free 0; have f1 := hC.free 1; have f2 := hC.free 2; have f3 := hC.free 3
      simp only [Leap.word, xorTo] at a0 a1 a2 a3
      have HC := hide hC; have HL := hide hL
      clear hA hB hC hL
      go_wp2
      have hW := four_set HC.out (s.a ^^^ t.a) (s.b ^^^ t.b) (s.c ^^^ t.c) (s.d ^^^ t.d)
      have b0 := hW.cell 0 (by omega); have b1 := hW.cell 1 (by omega); have b2 := hW.cell 2 (by omega); have b3 := hW.cell 3 (by omega)
      exact bodyPost_ret (v := stAgg (Leap.xs s t)) (by simp [results, Try.results34, go_sem, stAgg, Leap.xs, b0, b1, b2, b3, Leap.word]) rfl
        ⟨rfl, (((HL.out.setCell (by simp; omega) _).setCell (by simp; omega) _).setCell (by simp; omega) _).setCell (by simp; omega) _⟩

set_option maxRecDepth 100000 in
set_option maxHeartbeats 1000000 in
theorem lawBehind_any (s : St) (n : Nat) (w : World) (hs : s.Ok) (hz : s.isZero = false) (hn : n < 18446744073709551616) :
    Calls Try.prog 35 #[stAgg s, .int .u64 n] w fun e w' => e = .returned (stAgg (Leap.it n s)) ∧ Below w.heap.size w w' := by
  unfold stAgg
  go_enter Try.func35, Try.ntmps35
  go_wp2_with fail
  have hfr := from_any s (.slice none 0 0) [] ((w.alloc (.cells (stCells s) 41)).alloc (.cells (stCells Leap.zs) 41)) hz (RowAt.nil _ _) (by simp)
  refine hfr.mono ?_
  clear hfr
  rintro e w1 ⟨b, rfl, hb, hd, hbel⟩
  have hT := (Two.new w s Leap.zs).below hbel
  have hb2 : w.heap.size + 2 ≤ b := by simp at hb; omega
  have HT := hide hT; have HD := hide hd
  clear hT hd hbel hb
  go_wp2_with fail
  refine (skip_any _ b n _ _ _ HD.out hs hn).mono ?_
  rintro e w2 ⟨rfl, hd2, hbut⟩
  have hT2 : Two w w2 s Leap.zs := ⟨hbut.heap HT.out.c (by omega), hbut.heap HT.out.o (by omega), But.below HT.out.l hbut (by omega) HT.out.l.size⟩
  have HT2 := hide hT2; have HD2 := hide hd2
  clear hT2 hd2 hbut HT HD
  go_wp2_with fail
  refine (state_any _ b _ _ _ HD2.out).mono ?_
  rintro e w3 ⟨rfl, hb3⟩
  have hT3 := HT2.out.below hb3
  obtain ⟨t, ht⟩ : ∃ t, Leap.it n s = t := ⟨_, rfl⟩
  rw [ht]
  have HQ := hide ht
  have z0 := hT3.o.cell 0 (by omega); have z1 := hT3.o.cell 1 (by omega); have z2 := hT3.o.cell 2 (by omega); have z3 := hT3.o.cell 3 (by omega)
  have f0 := hT3.o.free 0; have f1 := hT3.o.free 1; have f2 := hT3.o.free 2; have f3 := hT3.o.free 3
  have HC := hide hT3.o; have HL := hide hT3.l
  clear hT3 hb3 HT2 HD2 ht
  unfold stAgg
  go_wp2_with fail
  have hW := four_set HC.out t.a t.b t.c t.d
  have b0 := hW.cell 0 (by omega); have b1 := hW.cell 1 (by omega); have b2 := hW.cell 2 (by omega); have b3 := hW.cell 3 (by omega)
  exact bodyPost_ret (v := stAgg t) (by simp [results, Try.results35, go_sem, stAgg, b0, b1, b2, b3, Leap.word]) rfl
    ⟨by rw [HQ.out]; rfl, (((HL.out.setCell (by simp) _).setCell (by simp) _).setCell (by simp) _).setCell (by simp) _⟩
end Go.Proofs.Ytglgflibpgmilaa
