/- TopToken: right, which looks at a moment. -/
import Derived.Test.YtdjkidgkeekenaaRd
import Derived.Test.YtdjkidgkeekenaaPl
namespace Go.Proofs.Ytdjkidgkeekenaa
open Go.RowKit Go.Lib Go.MuLone
set_option linter.unusedVariables false
set_option linter.unusedSimpArgs false
structure SumT (n : Nat) (ds : Nat → Nd) (cs : List Int) : Prop where
  b : ∀ j, j ≤ n → -68719476800 ≤ sB ds j ∧ sB ds j ≤ 68719476800
  c : ∀ j, j ≤ n → 0 ≤ sC cs j ∧ sC cs j ≤ 4398046515200
  cj : ∀ j, j < n → 0 ≤ nth cs (4 + j) ∧ nth cs (4 + j) ≤ 68719476800
  bj : ∀ j, j < n → -1073741825 ≤ (ds j).bal ∧ (ds j).bal ≤ 1073741825
  eq : sB ds n = sC cs n
theorem Sys.sumt {n K : Nat} {ds : Nat → Nd} {cs : List Int} (h : Sys n K ds cs) (hn : n ≤ 64) (hK : K ≤ 1073741825) : SumT n ds cs := by
  have cj : ∀ j, j < n → 0 ≤ nth cs (4 + j) ∧ nth cs (4 + j) ≤ 68719476800 := fun j hj => ⟨(h.wd (4 + j) (by omega)).1, by have := h.mail hn hj; omega⟩
  have bj : ∀ j, j < n → -1073741825 ≤ (ds j).bal ∧ (ds j).bal ≤ 1073741825 := fun j hj => by have := (h.wf j hj).ba; omega
  refine ⟨fun j hj => ?_, fun j hj => ?_, cj, bj, h.sum⟩
  · have h1 := sumF_le (f := fun j => (ds j).bal) (n := j) (K := 1073741825) (fun i hi => (bj i (by omega)).2)
    have h2 := sumF_ge (f := fun j => (ds j).bal) (n := j) (K := 1073741825) (fun i hi => (bj i (by omega)).1)
    unfold sB
    have : (j : Int) * 1073741825 ≤ 64 * 1073741825 := Int.mul_le_mul_of_nonneg_right (by omega) (by omega)
    omega
  · have h1 := sumF_le (f := fun j => nth cs (4 + j)) (n := j) (K := 68719476800) (fun i hi => (cj i (by omega)).2)
    have h2 := (sumF_pos (f := fun j => nth cs (4 + j)) (n := j) (fun i hi => (cj i (by omega)).1)).1
    unfold sC
    have : (j : Int) * 68719476800 ≤ 64 * 68719476800 := Int.mul_le_mul_of_nonneg_right (by omega) (by omega)
    omega
/-- How many are active. -/
def actN (ds : Nat → Nd) : Nat → Int
  | 0 => 0
  | j + 1 => actN ds j + if (ds j).active then 1 else 0
theorem actN_range (ds : Nat → Nd) : ∀ j, 0 ≤ actN ds j ∧ actN ds j ≤ (j : Int)
  | 0 => by simp [actN]
  | j + 1 => by
    have := actN_range ds j
    simp only [actN]
    split <;> omega
theorem actN_quiet {n : Nat} {ds : Nat → Nd} {f : Nat → Int} (h : Quiet n ds f) : ∀ j, j ≤ n → actN ds j = 0
  | 0, _ => rfl
  | j + 1, hj => by
    simp only [actN]
    rw [actN_quiet h j (by omega), (h j (by omega)).1]
    rfl
theorem sC_quiet {n : Nat} {ds : Nat → Nd} {cs : List Int} (h : Quiet n ds (nth cs)) : sC cs n = 0 := sumF_zero fun j hj => (h j hj).2
section
variable {w wr wr' : World} {X b gc Y Z n lb sb K K' : Nat} {lv lv' vN : Value} {s s' : Ast} {qs rs : Nat → Nat} {sv : Nat → Value} {gs : Nat → Bool} {ds : Nat → Nd} {mv : Nat → Int}
set_option maxRecDepth 100000 in
set_option maxHeartbeats 8000000 in
theorem right_any {gN cN : Nat} (h : LMm w wr X b gc Y Z n lb sb lv s (.slice (some ⟨gN, 0, none⟩) n cN) qs rs sv gs ds mv K) (hK : K ≤ 1073741825) :
    Calls Try.prog 6 #[.pointer (some ⟨X, 0, none⟩)] wr fun r w' => r = .returned (.bool true) ∧ LMm w w' X b gc Y Z n lb sb lv s (.slice (some ⟨gN, 0, none⟩) n cN) qs rs sv gs ds mv K ∧ Kp gc wr w' := by
  have HSU := hide (h.inv.sys.sumt h.n64.2 hK)
  obtain ⟨vP, pb, vG, hx⟩ := h.x
  have HX := hide hx
  have c3 := cell_of hx (i := 3) rfl
  have c5 := cell_of hx (i := 5) rfl
  have HIM := hide (image_any _ _ _ _ _ wr h.ar)
  have hlen : s.cells.length = 4 + n := h.inv.sys.len
  have hn64 := h.n64
  have H := hide h
  clear h hx
  go_enter Try.func6, Try.ntmps6
  go_wp2_with fail
  refine HIM.out.mono ?_
  rintro e w1 ⟨vi, rfl, hown, hai, hci⟩
  have H1 := hide (H.out.look hai hci)
  have HK1 := hide (H.out.kpb hci)
  rw [hlen] at hown
  obtain ⟨gi, ci, rfl⟩ := row_ptrM hown (by omega)
  have HOW := hide hown
  have HX1 := hide (HK1.out.2 _ _ _ HX.out (.inl (by unfold mT; decide)))
  have HLEN := hide hlen
  clear hci hai hown HIM c3 c5 HX H hlen
  have x5 := cell_of HX1.out (i := 5) rfl
  have hn64i : (n : Int) ≤ 64 := by omega
  go_wp2_with fail
  go_loopw [4, 5, 6, 7] (fun a b c t wq => ∃ k : Nat, k ≤ n ∧ a = .int .i64 (sB ds k) ∧ b = .int .i64 (sC s.cells k) ∧ c = .int .i64 (actN ds k) ∧ t = .int .i64 (k : Int) ∧ Below w1.heap.size w1 wq) (fun _ _ _ t _ => n - (RowKit.intOf t).toNat)
  case atStart => exact ⟨0, Nat.zero_le _, rfl, rfl, rfl, rfl, Below.refl _ _⟩
  case round =>
    obtain ⟨k, hkn, rfl, rfl, rfl, rfl, hbq⟩ := hrel
    have HBQ := hide hbq
    have HW := hide (H1.out.below hbq)
    have HX2 := hide ((hbq.block _ (lt_of_heap HX1.out)).trans HX1.out)
    clear hbq
    have x5 := cell_of HX2.out (i := 5) rfl
    have hsb := HSU.out.b k hkn
    have hsc := HSU.out.c k hkn
    have hsa := actN_range ds k
    by_cases hlt : k < n
    · have hki : (k : Int) < (n : Int) := by omega
      have y0 := own_at (own_stayR HW.out.rn (fun _ _ => rfl)) (ptrs_get qs hlt) hlt
      have hbj := HSU.out.bj k hlt
      have HTL := hide (tell_nd (HW.out.nd k hlt).1 (HW.out.inv.sys.wf k hlt).ph (by omega))
      have HSM := hide (show sB ds (k + 1) = sB ds k + (ds k).bal from rfl)
      have HCM := hide (show sC s.cells (k + 1) = sC s.cells k + nth s.cells (4 + k) from rfl)
      have HAM := hide (show actN ds (k + 1) = actN ds k + (if (ds k).active then 1 else 0) from rfl)
      have hcj := HSU.out.cj k hlt
      have hsb2 := HSU.out.b (k + 1) (by omega)
      have hsc2 := HSU.out.c (k + 1) (by omega)
      rw [HSM.out] at hsb2
      rw [HCM.out] at hsc2
      have i4 := (below_cell HBQ.out (block_of_cell (img_at HOW.out HLEN.out.symm (i := 4 + k) (by omega)))).trans (img_at HOW.out HLEN.out.symm (i := 4 + k) (by omega))
      unfold Nd.told at HTL
      generalize sB ds k = sbk at *
      generalize sC s.cells k = sck at *
      generalize actN ds k = ack at *
      generalize (ds k).bal = bl at *
      generalize (ds k).black = bk at *
      generalize (ds k).sent = st at *
      generalize (ds k).active = ac at *
      generalize nth s.cells (4 + k) = cx at *
      generalize decide ((ds k).ph = 0) = pz at *
      obtain ⟨J, hJ⟩ : ∃ J, J = 4 + k := ⟨_, rfl⟩
      rw [← hJ] at i4
      have hw4 : IntKind.i64.wrap (4 + (k : Int)) = (J : Int) := by rw [show (4 + (k : Int)) = (J : Int) by omega]; exact IntWalk.i64_in _ (by omega)
      have hJ1 : J < 4 + n := by omega
      have hJ2 : (J : Int) < ((4 + n : Nat) : Int) := by omega
      have hJ3 : (J : Int) < 4 + (n : Int) := by omega
      clear hJ
      go_wp2_with fail
      refine HTL.out.mono ?_
      rintro e w2 ⟨rfl, hb2⟩
      obtain ⟨w3, hw3⟩ : ∃ W, W = w2.alloc (.cells #[.int .i64 bl, .bool ac, .bool bk, .int .i64 st, .bool pz] 61) := ⟨_, rfl⟩
      have hb3 : Below wr.heap.size wr w3 := by rw [hw3]; exact below_alloc hb2 _
      have hT3 : w3.heap[w2.heap.size]? = some (.cells #[.int .i64 bl, .bool ac, .bool bk, .int .i64 st, .bool pz] 61 (0, 0)) := by rw [hw3]; exact heap_new _ _
      have t0 : w3.cell? ⟨w2.heap.size, 0, none⟩ = some (.int .i64 bl) := cell_of hT3 rfl
      have t1 : w3.cell? ⟨w2.heap.size, 1, none⟩ = some (.bool ac) := cell_of hT3 rfl
      have i43 := (below_cell hb3 (block_of_cell i4)).trans i4
      have HB3 := hide (below_on HBQ.out hb3)
      clear HTL y0 x5 hT3 hb3 i4 hb2
      go_upto_region 11 with fail
      rw [← hw3]
      clear hw3
      cases ac with
      | true =>
        go_wp2_with fail
        exact ⟨⟨k + 1, hlt, by rw [HSM.out], by rw [HCM.out], by rw [HAM.out]; rfl, by simp, HB3.out⟩, by simp [RowKit.intOf]; omega⟩
      | false =>
        go_wp2_with fail
        exact ⟨⟨k + 1, hlt, by rw [HSM.out], by rw [HCM.out], by rw [HAM.out]; simp, by simp, HB3.out⟩, by simp [RowKit.intOf]; omega⟩
    · have hki : ¬ (k : Int) < (n : Int) := by omega
      obtain rfl : k = n := by omega
      have i0 := (below_cell HBQ.out (block_of_cell (img_at HOW.out HLEN.out.symm (i := 0) (by omega)))).trans (img_at HOW.out HLEN.out.symm (i := 0) (by omega))
      have heq := HSU.out.eq
      have HKE := hide (HK1.out.trans (Kp.of_below HBQ.out))
      rcases HW.out.inv.tx.c0 with h0 | h1
      · rw [h0] at i0
        rw [heq]
        clear heq
        go_wp2_with fail
        go_ret
        exact ⟨rfl, HW.out, HKE.out⟩
      · rw [h1] at i0
        have hq := HW.out.inv.tx.dq (.inl h1)
        rw [heq, sC_quiet hq, actN_quiet hq _ (Nat.le_refl _)]
        clear heq
        go_wp2_with fail
        go_ret
        exact ⟨rfl, HW.out, HKE.out⟩
end
end Go.Proofs.Ytdjkidgkeekenaa
