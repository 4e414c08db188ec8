/- Terms of a polynomial, its exclusive or with another. -/
import Derived.Test.YtglgflibpgmilaaLeap
import Derived.Test.YtglgflibpgmilaaFrom
import Derived.RegionTactic
import Derived.BigRegion
import Derived.Deep.Draws
import Derived.WalkSmall
namespace Go.Proofs.Ytglgflibpgmilaa
open Go.RowKit Go.Lib

theorem low_bit (x m : Nat) (hx : x < 18446744073709551616) : (bits .and .u64 ((x : Int) / 2 ^ m) 1 == 1) = x.testBit m := by
  have e : ((x : Int) / 2 ^ m) = ((x / 2 ^ m : Nat) : Int) := by rw [Int.natCast_ediv, Int.natCast_pow]; rfl
  have h := u64_and_nat (x / 2 ^ m) 1 (Nat.lt_of_le_of_lt (Nat.div_le_self _ _) hx) (by decide)
  rw [e]
  have h' : bits .and .u64 ((x / 2 ^ m : Nat) : Int) 1 = ((x / 2 ^ m &&& 1 : Nat) : Int) := h
  rw [h', Nat.and_one_is_mod, Nat.testBit_eq_decide_div_mod_eq]
  rw [Bool.eq_iff_iff, beq_iff_eq, decide_eq_true_iff]
  omega
theorem ret_bool {a b : Bool} (h : a = b) : Ending.returned (.bool a) = .returned (.bool b) := by rw [h]

set_option maxRecDepth 100000 in
theorem hasTerm_any (p : St) (i : Nat) (w : World) (hp : p.Ok) (hi : i < 256) :
    Calls Try.prog 52 #[stAgg p, .int .i64 i] w fun e w' => e = .returned (.bool (Leap.bitS p i)) ∧ Below w.heap.size w w' := by
  have h0 := hp.a; have h1 := hp.b; have h2 := hp.c; have h3 := hp.d
  unfold stAgg
  rcases (show i / 64 = 0 ∨ i / 64 = 1 ∨ i / 64 = 2 ∨ i / 64 = 3 by omega) with hk | hk | hk | hk
  · have hq : (i : Int) / 64 = 0 := by omega
    have HK := hide hk
    clear hk
    go_enter Try.func52, Try.ntmps52
    go_wp2
    go_ret
    exact ⟨ret_bool (by rw [Leap.bitS, HK.out]; exact low_bit _ _ h0), (Below.refl _ _).alloc (Nat.le_refl _) _⟩
  · have hq : (i : Int) / 64 = 1 := by omega
    have HK := hide hk
    clear hk
    go_enter Try.func52, Try.ntmps52
    go_wp2
    go_ret
    exact ⟨ret_bool (by rw [Leap.bitS, HK.out]; exact low_bit _ _ h1), (Below.refl _ _).alloc (Nat.le_refl _) _⟩
  · have hq : (i : Int) / 64 = 2 := by omega
    have HK := hide hk
    clear hk
    go_enter Try.func52, Try.ntmps52
    go_wp2
    go_ret
    exact ⟨ret_bool (by rw [Leap.bitS, HK.out]; exact low_bit _ _ h2), (Below.refl _ _).alloc (Nat.le_refl _) _⟩
  · have hq : (i : Int) / 64 = 3 := by omega
    have HK := hide hk
    clear hk
    go_enter Try.func52, Try.ntmps52
    go_wp2
    go_ret
    exact ⟨ret_bool (by rw [Leap.bitS, HK.out]; exact low_bit _ _ h3), (Below.refl _ _).alloc (Nat.le_refl _) _⟩

set_option maxRecDepth 100000 in
theorem stepPoly_any (w : World) :
    Calls Try.prog 63 #[] w fun e w' => e = .returned (stAgg Leap.poly) ∧ Below w.heap.size w w' := by
  go_enter Try.func63, Try.ntmps63
  go_wp2
  exact bodyPost_ret (v := stAgg Leap.poly) (by simp [results, Try.results63, go_sem, stAgg, Leap.poly]) rfl ⟨rfl, (Below.refl _ _).alloc (Nat.le_refl _) _⟩

theorem three_new0 (w : World) (o p q : Obj) : (((w.alloc o).alloc p).alloc q).heap[w.heap.size]? = some o := by
  rw [Below.heap_alloc _ _ _ (by simp; omega), Below.heap_alloc _ _ _ (by simp)]; exact heap_new w o
theorem three_new1 (w : World) (o p q : Obj) : (((w.alloc o).alloc p).alloc q).heap[w.heap.size + 1]? = some p := by
  rw [Below.heap_alloc _ _ _ (by simp)]
  have := heap_new (w.alloc o) p
  simpa using this
theorem three_new2 (w : World) (o p q : Obj) : (((w.alloc o).alloc p).alloc q).heap[w.heap.size + 2]? = some q := by
  have := heap_new ((w.alloc o).alloc p) q
  simpa using this
def stCells (s : St) : Array Value := #[.int .u64 s.a, .int .u64 s.b, .int .u64 s.c, .int .u64 s.d]
/-- A block of four words. -/
def St4 (w : World) (B : Nat) (s : St) : Prop := w.heap[B]? = some (.cells (stCells s) 41 (0, 0))
def setW (s : St) (x : Nat) : Nat → St
  | 0 => { s with a := x }
  | 1 => { s with b := x }
  | 2 => { s with c := x }
  | _ => { s with d := x }
theorem St4.cell {w : World} {B : Nat} {s : St} (h : St4 w B s) (k : Nat) (hk : k < 4) : w.cell? ⟨B, k, none⟩ = some (.int .u64 (Leap.word s k : Nat)) := by
  rcases (show k = 0 ∨ k = 1 ∨ k = 2 ∨ k = 3 by omega) with rfl | rfl | rfl | rfl <;> exact cell_of h rfl
theorem St4.free {w : World} {B : Nat} {s : St} (h : St4 w B s) (k : Nat) : w.frozen? ⟨B, k, none⟩ = false := free_of h k
theorem St4.set {w : World} {B : Nat} {s : St} (h : St4 w B s) (k x : Nat) (hk : k < 4) : St4 (w.setCell ⟨B, k, none⟩ (.int .u64 x)) B (setW s x k) := by
  unfold St4
  rw [heap_set h]
  rcases (show k = 0 ∨ k = 1 ∨ k = 2 ∨ k = 3 by omega) with rfl | rfl | rfl | rfl <;> rfl
theorem St4.other {w : World} {B C : Nat} {s : St} (h : St4 w B s) (hc : B ≠ C) (o : Nat) (v : Value) : St4 (w.setCell ⟨C, o, none⟩ v) B s := by
  unfold St4
  rw [Below.heap_setCell _ _ _ _ (by show B ≠ C; exact hc)]
  exact h
theorem St4.drew {w : World} {B : Nat} {s : St} (h : St4 w B s) : St4 w.drew B s := h
theorem St4.below {w w' : World} {B : Nat} {s : St} (h : St4 w B s) {C : Nat} (k : Below C w w') (hb : B < C) : St4 w' B s := (k.block B hb).trans h
theorem St4.lt {w : World} {B : Nat} {s : St} (h : St4 w B s) : B < w.heap.size := lt_of_heap h

theorem four_set {w : World} {C : Nat} {z : St} (h : St4 w C z) (x0 x1 x2 x3 : Nat) :
    St4 ((((w.setCell ⟨C, 0, none⟩ (.int .u64 x0)).setCell ⟨C, 1, none⟩ (.int .u64 x1)).setCell ⟨C, 2, none⟩ (.int .u64 x2)).setCell ⟨C, 3, none⟩ (.int .u64 x3)) C ⟨x0, x1, x2, x3⟩ :=
  (((h.set 0 x0 (by omega)).set 1 x1 (by omega)).set 2 x2 (by omega)).set 3 x3 (by omega)

/-- The first k words xored. -/
def xorTo (s t : St) (k : Nat) : St :=
  ⟨if 0 < k then s.a ^^^ t.a else s.a, if 1 < k then s.b ^^^ t.b else s.b, if 2 < k then s.c ^^^ t.c else s.c, if 3 < k then s.d ^^^ t.d else s.d⟩
theorem xorTo_word (s t : St) (k : Nat) (hk : k < 4) : Leap.word (xorTo s t k) k = Leap.word s k := by
  rcases (show k = 0 ∨ k = 1 ∨ k = 2 ∨ k = 3 by omega) with rfl | rfl | rfl | rfl <;> rfl
theorem xorTo_succ (s t : St) (k : Nat) (hk : k < 4) : setW (xorTo s t k) (Leap.word s k ^^^ Leap.word t k) k = xorTo s t (k + 1) := by
  rcases (show k = 0 ∨ k = 1 ∨ k = 2 ∨ k = 3 by omega) with rfl | rfl | rfl | rfl <;> rfl
theorem word_lt {s : St} (h : s.Ok) (k : Nat) : Leap.word s k < 18446744073709551616 := by
  unfold Leap.word; split
  · exact h.a
  · exact h.b
  · exact h.c
  · exact h.d

set_option maxRecDepth 100000 in
set_option maxHeartbeats 1000000 in
theorem xor_any (s t : St) (w : World) (hs : s.Ok) (ht : t.Ok) :
    Calls Try.prog 53 #[stAgg s, stAgg t] w fun e w' => e = .returned (stAgg (Leap.xs s t)) ∧ Below w.heap.size w w' := by
  unfold stAgg
  go_enter Try.func53, Try.ntmps53
  go_wp2
  go_loopw [6] (fun i wr => ∃ k : Nat, k ≤ 4 ∧ i = .int .i64 k ∧ St4 wr w.heap.size (xorTo s t k) ∧ St4 wr (w.heap.size + 1) t ∧ St4 wr (w.heap.size + 2) Leap.zs ∧ Below w.heap.size w wr) (fun i _ => 4 - (RowKit.intOf i).toNat)
  case atStart =>
    refine ⟨0, by omega, rfl, ?_, ?_, ?_, (((Below.refl _ w).alloc (Nat.le_refl _) _).alloc (by simp) _).alloc (by simp; omega) _⟩
    · exact three_new0 w _ _ _
    · exact three_new1 w _ _ _
    · exact three_new2 w _ _ _
  case round =>
    obtain ⟨k, hk, rfl, hA, hB, hC, hL⟩ := hrel
    by_cases hlt : k < 4
    · have c1 := hA.cell k hlt
      rw [xorTo_word s t k hlt] at c1
      have c2 := hB.cell k hlt
      have f1 := hA.free k
      have e1 : bits .xor .u64 (Leap.word s k : Int) (Leap.word t k : Int) = ((Leap.word s k ^^^ Leap.word t k : Nat) : Int) := u64_xor_nat _ _ (word_lt hs k) (word_lt ht k)
      have hR : Hid (St4 (wr.setCell ⟨w.heap.size, k, none⟩ (.int .u64 ((Leap.word s k ^^^ Leap.word t k : Nat) : Int))) w.heap.size (xorTo s t (k + 1)) ∧ St4 (wr.setCell ⟨w.heap.size, k, none⟩ (.int .u64 ((Leap.word s k ^^^ Leap.word t k : Nat) : Int))) (w.heap.size + 1) t ∧
          St4 (wr.setCell ⟨w.heap.size, k, none⟩ (.int .u64 ((Leap.word s k ^^^ Leap.word t k : Nat) : Int))) (w.heap.size + 2) Leap.zs ∧ Below w.heap.size w (wr.setCell ⟨w.heap.size, k, none⟩ (.int .u64 ((Leap.word s k ^^^ Leap.word t k : Nat) : Int)))) :=
        ⟨by rw [← xorTo_succ s t k hlt]; exact hA.set k _ hlt, hB.other (by omega) _ _, hC.other (by omega) _ _, hL.setCell (Nat.le_refl _) _⟩
      clear hA hB hC hL
      go_wp2
      go_region
      go_wp2
      go_roundw
      case rel => exact ⟨k + 1, by omega, by go_num, hR.out.1, hR.out.2.1, hR.out.2.2.1, hR.out.2.2.2.drew⟩
      case measure => simp [RowKit.intOf]; omega
    · obtain rfl : 4 = k := by omega
      have a0 := hA.cell 0 (by omega); have a1 := hA.cell 1 (by omega); have a2 := hA.cell 2 (by omega); have a3 := hA.cell 3 (by omega)
      have z0 := hC.cell 0 (by omega); have z1 := hC.cell 1 (by omega); have z2 := hC.cell 2 (by omega); have z3 := hC.cell 3 (by omega)
      have f0 := hC.free 0; have f1 := hC.free 1; have f2 := hC.free 2; have f3 := hC.free 3
      simp only [Leap.word, xorTo] at a0 a1 a2 a3
      have HC := hide hC; have HL := hide hL
      clear hA hB hC hL
      go_wp2
      have hW := four_set HC.out (s.a ^^^ t.a) (s.b ^^^ t.b) (s.c ^^^ t.c) (s.d ^^^ t.d)
      have b0 := hW.cell 0 (by omega); have b1 := hW.cell 1 (by omega); have b2 := hW.cell 2 (by omega); have b3 := hW.cell 3 (by omega)
      exact bodyPost_ret (v := stAgg (Leap.xs s t)) (by simp [results, Try.results53, go_sem, stAgg, Leap.xs, b0, b1, b2, b3, Leap.word]) rfl
        ⟨rfl, (((HL.out.setCell (by simp; omega) _).setCell (by simp; omega) _).setCell (by simp; omega) _).setCell (by simp; omega) _⟩
end Go.Proofs.Ytglgflibpgmilaa
