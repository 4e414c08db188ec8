/- The reference's Xor and bit. -/
import Derived.Test.YtglgflibpgmilaaRefLeap
import Derived.Test.YtglgflibpgmilaaRef
import Derived.Test.YtglgflibpgmilaaTimes
namespace Go.Proofs.Ytglgflibpgmilaa
open Go.RowKit Go.Lib

/-- A state of the reference, in memory. -/
def Sr4 (w : World) (B : Nat) (s : St) : Prop := w.heap[B]? = some (.cells (stCells s) 44 (0, 0))
theorem Sr4.cell {w : World} {B : Nat} {s : St} (h : Sr4 w B s) (k : Nat) (hk : k < 4) : w.cell? ⟨B, k, none⟩ = some (.int .u64 (Leap.word s k : Nat)) := by
  rcases (show k = 0 ∨ k = 1 ∨ k = 2 ∨ k = 3 by omega) with rfl | rfl | rfl | rfl <;> exact cell_of h rfl
theorem Sr4.free {w : World} {B : Nat} {s : St} (h : Sr4 w B s) (k : Nat) : w.frozen? ⟨B, k, none⟩ = false := free_of h k
theorem Sr4.set {w : World} {B : Nat} {s : St} (h : Sr4 w B s) (k x : Nat) (hk : k < 4) : Sr4 (w.setCell ⟨B, k, none⟩ (.int .u64 x)) B (setW s x k) := by
  unfold Sr4
  rw [heap_set h]
  rcases (show k = 0 ∨ k = 1 ∨ k = 2 ∨ k = 3 by omega) with rfl | rfl | rfl | rfl <;> rfl
theorem Sr4.other {w : World} {B C : Nat} {s : St} (h : Sr4 w B s) (hc : B ≠ C) (o : Nat) (v : Value) : Sr4 (w.setCell ⟨C, o, none⟩ v) B s := by
  unfold Sr4
  rw [Below.heap_setCell _ _ _ _ (by show B ≠ C; exact hc)]
  exact h
theorem Sr4.drew {w : World} {B : Nat} {s : St} (h : Sr4 w B s) : Sr4 w.drew B s := h
theorem Sr4.below {w w' : World} {B : Nat} {s : St} (h : Sr4 w B s) {C : Nat} (k : Below C w w') (hb : B < C) : Sr4 w' B s := (k.block B hb).trans h
theorem Sr4.lt {w : World} {B : Nat} {s : St} (h : Sr4 w B s) : B < w.heap.size := lt_of_heap h

theorem four_setr {w : World} {C : Nat} {z : St} (h : Sr4 w C z) (x0 x1 x2 x3 : Nat) :
    Sr4 ((((w.setCell ⟨C, 0, none⟩ (.int .u64 x0)).setCell ⟨C, 1, none⟩ (.int .u64 x1)).setCell ⟨C, 2, none⟩ (.int .u64 x2)).setCell ⟨C, 3, none⟩ (.int .u64 x3)) C ⟨x0, x1, x2, x3⟩ :=
  (((h.set 0 x0 (by omega)).set 1 x1 (by omega)).set 2 x2 (by omega)).set 3 x3 (by omega)


set_option maxRecDepth 100000 in
set_option maxHeartbeats 1000000 in
theorem refXor_any (s t : St) (w : World) (hs : s.Ok) (ht : t.Ok) :
    Calls Try.prog 62 #[stAgg s, stAgg t] w fun e w' => e = .returned (stAgg (Leap.xs s t)) ∧ Below w.heap.size w w' := by
  unfold stAgg
  go_enter Try.func62, Try.ntmps62
  go_wp2
  go_loopw [5] (fun i wr => ∃ k : Nat, k ≤ 4 ∧ i = .int .i64 k ∧ Sr4 wr w.heap.size (xorTo s t k) ∧ Sr4 wr (w.heap.size + 1) t ∧ Sr4 wr (w.heap.size + 2) Leap.zs ∧ Below w.heap.size w wr) (fun i _ => 4 - (RowKit.intOf i).toNat)
  case atStart =>
    refine ⟨0, by omega, rfl, ?_, ?_, ?_, (((Below.refl _ w).alloc (Nat.le_refl _) _).alloc (by simp) _).alloc (by simp; omega) _⟩
    · exact three_new0 w _ _ _
    · exact three_new1 w _ _ _
    · exact three_new2 w _ _ _
  case round =>
    obtain ⟨k, hk, rfl, hA, hB, hC, hL⟩ := hrel
    by_cases hlt : k < 4
    · have c1 := hA.cell k hlt
      rw [xorTo_word s t k hlt] at c1
      have c2 := hB.cell k hlt
      have f1 := hA.free k
      have e1 : bits .xor .u64 (Leap.word s k : Int) (Leap.word t k : Int) = ((Leap.word s k ^^^ Leap.word t k : Nat) : Int) := u64_xor_nat _ _ (word_lt hs k) (word_lt ht k)
      have hR : Hid (Sr4 (wr.setCell ⟨w.heap.size, k, none⟩ (.int .u64 ((Leap.word s k ^^^ Leap.word t k : Nat) : Int))) w.heap.size (xorTo s t (k + 1)) ∧ Sr4 (wr.setCell ⟨w.heap.size, k, none⟩ (.int .u64 ((Leap.word s k ^^^ Leap.word t k : Nat) : Int))) (w.heap.size + 1) t ∧
          Sr4 (wr.setCell ⟨w.heap.size, k, none⟩ (.int .u64 ((Leap.word s k ^^^ Leap.word t k : Nat) : Int))) (w.heap.size + 2) Leap.zs ∧ Below w.heap.size w (wr.setCell ⟨w.heap.size, k, none⟩ (.int .u64 ((Leap.word s k ^^^ Leap.word t k : Nat) : Int)))) :=
        ⟨by rw [← xorTo_succ s t k hlt]; exact hA.set k _ hlt, hB.other (by omega) _ _, hC.other (by omega) _ _, hL.setCell (Nat.le_refl _) _⟩
      clear hA hB hC hL
      go_wp2
      go_region
      go_wp2
      go_roundw
      case rel => exact ⟨k + 1, by omega, by go_num, hR.out.1, hR.out.2.1, hR.out.2.2.1, hR.out.2.2.2.drew⟩
      case measure => simp [RowKit.intOf]; omega
    · obtain rfl : 4 = k := by omega
      have a0 := hA.cell 0 (by omega); have a1 := hA.cell 1 (by omega); have a2 := hA.cell 2 (by omega); have a3 := hA.cell 3 (by omega)
      have z0 := hC.cell 0 (by omega); have z1 := hC.cell 1 (by omega); have z2 := hC.cell 2 (by omega); have z3 := hC.cell 3 (by omega)
      have f0 := hC.free 0; have f1 := hC.free 1; have f2 := hC.free 2; have f3 := hC.free 3
      simp only [Leap.word, xorTo] at a0 a1 a2 a3
      have HC := hide hC; have HL := hide hL
      clear hA hB hC hL
      go_wp2
      have hW := four_setr HC.out (s.a ^^^ t.a) (s.b ^^^ t.b) (s.c ^^^ t.c) (s.d ^^^ t.d)
      have b0 := hW.cell 0 (by omega); have b1 := hW.cell 1 (by omega); have b2 := hW.cell 2 (by omega); have b3 := hW.cell 3 (by omega)
      exact bodyPost_ret (v := stAgg (Leap.xs s t)) (by simp [results, Try.results62, go_sem, stAgg, Leap.xs, b0, b1, b2, b3, Leap.word]) rfl
        ⟨rfl, (((HL.out.setCell (by simp; omega) _).setCell (by simp; omega) _).setCell (by simp; omega) _).setCell (by simp; omega) _⟩

theorem two_new0 (w : World) (o p : Obj) : ((w.alloc o).alloc p).heap[w.heap.size]? = some o := by
  rw [Below.heap_alloc _ _ _ (by simp)]; exact heap_new w o
theorem two_new1 (w : World) (o p : Obj) : ((w.alloc o).alloc p).heap[w.heap.size + 1]? = some p := by
  have := heap_new (w.alloc o) p
  simpa using this

set_option maxRecDepth 100000 in
set_option maxHeartbeats 1000000 in
theorem bit_any (k : Nat) (w : World) (hk : k < 256) :
    Calls Try.prog 55 #[.int .i64 k] w fun e w' => e = .returned (stAgg (Leap.bitSt k)) ∧ Below w.heap.size w w' := by
  have hw : IntKind.u64.wrap (2 ^ (k % 64)) = ((2 ^ (k % 64) : Nat) : Int) := by
    have := Leap.pow_lt64 k
    rw [IntKind.wrap_u64]
    have e : (2 : Int) ^ (k % 64) = ((2 ^ (k % 64) : Nat) : Int) := by simp
    rw [e]
    generalize (2 ^ (k % 64) : Nat) = p at this ⊢
    omega
  obtain ⟨p, hp⟩ : ∃ p : Nat, p = 2 ^ (k % 64) := ⟨_, rfl⟩
  rw [← hp] at hw
  have hS : Hid (p = 2 ^ (k % 64)) := hp
  clear hp
  have hq : k / 64 = 0 ∨ k / 64 = 1 ∨ k / 64 = 2 ∨ k / 64 = 3 := by omega
  rcases hq with hq | hq | hq | hq
  · have hE : Hid (Leap.bitSt k = ⟨p, 0, 0, 0⟩) := by show Leap.bitSt k = _; unfold Leap.bitSt; rw [hq, ← hS.out]; rfl
    have hqi : (k : Int) / 64 = 0 := by omega
    go_enter Try.func55, Try.ntmps55
    go_wp2
    refine bodyPost_ret (v := stAgg (Leap.bitSt k)) ?_ rfl ⟨rfl, ?_⟩
    · rw [hE.out]
      simp [results, Try.results55, go_sem, stAgg]
    · exact ((Below.refl _ w).alloc (Nat.le_refl _) _).alloc (by simp) _
  · have hE : Hid (Leap.bitSt k = ⟨0, p, 0, 0⟩) := by show Leap.bitSt k = _; unfold Leap.bitSt; rw [hq, ← hS.out]; rfl
    have hqi : (k : Int) / 64 = 1 := by omega
    go_enter Try.func55, Try.ntmps55
    go_wp2
    refine bodyPost_ret (v := stAgg (Leap.bitSt k)) ?_ rfl ⟨rfl, ?_⟩
    · rw [hE.out]
      simp [results, Try.results55, go_sem, stAgg]
    · exact ((Below.refl _ w).alloc (Nat.le_refl _) _).alloc (by simp) _
  · have hE : Hid (Leap.bitSt k = ⟨0, 0, p, 0⟩) := by show Leap.bitSt k = _; unfold Leap.bitSt; rw [hq, ← hS.out]; rfl
    have hqi : (k : Int) / 64 = 2 := by omega
    go_enter Try.func55, Try.ntmps55
    go_wp2
    refine bodyPost_ret (v := stAgg (Leap.bitSt k)) ?_ rfl ⟨rfl, ?_⟩
    · rw [hE.out]
      simp [results, Try.results55, go_sem, stAgg]
    · exact ((Below.refl _ w).alloc (Nat.le_refl _) _).alloc (by simp) _
  · have hE : Hid (Leap.bitSt k = ⟨0, 0, 0, p⟩) := by show Leap.bitSt k = _; unfold Leap.bitSt; rw [hq, ← hS.out]; rfl
    have hqi : (k : Int) / 64 = 3 := by omega
    go_enter Try.func55, Try.ntmps55
    go_wp2
    refine bodyPost_ret (v := stAgg (Leap.bitSt k)) ?_ rfl ⟨rfl, ?_⟩
    · rw [hE.out]
      simp [results, Try.results55, go_sem, stAgg]
    · exact ((Below.refl _ w).alloc (Nat.le_refl _) _).alloc (by simp) _
end Go.Proofs.Ytglgflibpgmilaa
