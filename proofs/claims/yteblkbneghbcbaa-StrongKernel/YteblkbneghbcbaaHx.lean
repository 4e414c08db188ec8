import Derived.Test.YteblkbneghbcbaaCz
import Derived.Test.YteblkbneghbcbaaCiC
import Derived.Test.YteblkbneghbcbaaPtG
import Derived.Test.YteblkbneghbcbaaRwC
/- The chapter's graph, plainly: its parts, their graph, the orders. -/
namespace Go.Proofs.Yteblkbneghbcbaa
set_option linter.unusedVariables false
def hS : List Int := [0, 1, 3, 5, 6, 6]
def hT : List Int := [1, 2, 4, 1, 4, 3]
def hW : List Int := [3, 1, 2, 4, 9, 0]
theorem h_chk : (chk 5 hS hT hW).1 = 0 := by decide +kernel
theorem h_good : Good 5 hS hT hW := by
  obtain ⟨n, hn, h⟩ := chk_good h_chk
  have : n = 5 := by omega
  subst this; exact h
/-- Which part, and what can be reached. -/
def hP (v : Nat) : Nat := [0, 1, 1, 2, 3].getD v 0
def hR (a b : Nat) : Bool := decide ((a, b) ∈ [(0, 0), (0, 1), (0, 2), (0, 4), (1, 1), (1, 2), (1, 4), (2, 1), (2, 2), (2, 4), (3, 3), (4, 4)])
theorem h_stepB : ∀ a, a < 5 → ∀ p, p < 6 → ∀ b, b < 5 → (decide (sN hS a ≤ p) && decide (p < sN hS (a + 1)) && hR (tN hT p) b) = true → hR a b = true := by decide +kernel
theorem h_step (a : Nat) (ha : a < 5) (p : Nat) (hp : p < 6) (h1 : sN hS a ≤ p) (h2 : p < sN hS (a + 1)) (b : Nat) (hb : b < 5) (h3 : hR (tN hT p) b = true) : hR a b = true := h_stepB a ha p hp b hb (by simp [h1, h2, h3])
theorem h_top : ∀ a, a < 5 → sN hS (a + 1) ≤ 6 := by decide +kernel
theorem h_vtx : ∀ p, p < 6 → tN hT p < 5 := by decide +kernel
theorem h_rc {a b : Nat} (h : Rc (EE 5 (sN hS) (tN hT)) a b) (ha : a < 5) : b < 5 ∧ hR a b = true := by
  induction h with
  | refl a => exact ⟨ha, by revert a; decide +kernel⟩
  | @head a c b e _ ih =>
    obtain ⟨h1, p, h2, h3, rfl⟩ := e
    have hp : p < 6 := by have := h_top a h1; omega
    obtain ⟨h4, h5⟩ := ih (h_vtx p hp)
    exact ⟨h4, h_step a h1 p hp h2 h3 b h4 h5⟩
theorem h_both : ∀ a, a < 5 → ∀ b, b < 5 → hR a b = true → hR b a = true → hP a = hP b := by decide +kernel
theorem h_like : ∀ a, a < 5 → ∀ b, b < 5 → hP a = hP b → a = b ∨ (a = 1 ∧ b = 2) ∨ (a = 2 ∧ b = 1) := by decide +kernel
theorem h_bg {a b : Nat} (ha : a < 5) (hb : b < 5) : BG 5 hS hT a b ↔ hP a = hP b := by
  have e12 : EE 5 (sN hS) (tN hT) 1 2 := ⟨by omega, 1, by decide +kernel, by decide +kernel, by decide +kernel⟩
  have e21 : EE 5 (sN hS) (tN hT) 2 1 := ⟨by omega, 3, by decide +kernel, by decide +kernel, by decide +kernel⟩
  constructor
  · rintro ⟨h1, h2⟩
    exact h_both a ha b hb (h_rc h1 ha).2 (h_rc h2 hb).2
  · intro h
    rcases h_like a ha b hb h with rfl | ⟨rfl, rfl⟩ | ⟨rfl, rfl⟩
    · exact Bo.refl _ _
    · exact ⟨.one e12, .one e21⟩
    · exact ⟨.one e21, .one e12⟩
def hL (v : Nat) : Nat := [0, 1, 1, 3, 4].getD v 0
theorem h_least : ∀ v, v < 5 → hL v < 5 ∧ hP (hL v) = hP v ∧ ∀ u, u < 5 → hP u = hP v → hL v ≤ u := by decide +kernel
theorem h_lea {v : Nat} (hv : v < 5) : lea (BG 5 hS hT) v = hL v := by
  obtain ⟨h1, h2, h3⟩ := lea_spec (Bo.eqv (EE 5 (sN hS) (tN hT))) v
  obtain ⟨k1, k2, k3⟩ := h_least v hv
  have hl : lea (BG 5 hS hT) v < 5 := by show lea (Bo (EE 5 (sN hS) (tN hT))) v < 5; omega
  exact Nat.le_antisymm (h3 _ ((h_bg k1 hv).2 k2)) (k3 _ hl ((h_bg hl hv).1 h2))
theorem h_cnt : cntL (BG 5 hS hT) 0 = 0 ∧ cntL (BG 5 hS hT) 1 = 1 ∧ cntL (BG 5 hS hT) 2 = 2 ∧ cntL (BG 5 hS hT) 3 = 2 ∧ cntL (BG 5 hS hT) 4 = 3 ∧ cntL (BG 5 hS hT) 5 = 4 := by
  have c0 : cntL (BG 5 hS hT) 0 = 0 := rfl
  have c1 : cntL (BG 5 hS hT) 1 = 1 := by rw [cntL_succ, c0, h_lea (by omega)]; rfl
  have c2 : cntL (BG 5 hS hT) 2 = 2 := by rw [cntL_succ, c1, h_lea (by omega)]; rfl
  have c3 : cntL (BG 5 hS hT) 3 = 2 := by rw [cntL_succ, c2, h_lea (by omega)]; rfl
  have c4 : cntL (BG 5 hS hT) 4 = 3 := by rw [cntL_succ, c3, h_lea (by omega)]; rfl
  exact ⟨c0, c1, c2, c3, c4, by rw [cntL_succ, c4, h_lea (by omega)]; rfl⟩
theorem h_numb : ∀ v, v < 5 → numb (BG 5 hS hT) v = hP v := by
  intro v hv
  unfold numb
  rw [h_lea hv]
  obtain ⟨c0, c1, c2, c3, c4, c5⟩ := h_cnt
  match v, hv with
  | 0, _ => exact c0
  | 1, _ => exact c1
  | 2, _ => exact c1
  | 3, _ => exact c3
  | 4, _ => exact c4
theorem h_parts : tab 5 (fun v => (numb (BG 5 hS hT) v : Int)) = [0, 1, 1, 2, 3] := by
  rw [tab_congr (h := fun v => (hP v : Int)) (fun v hv => by rw [h_numb v hv])]
  decide +kernel
theorem lwt_congr {F T F2 T2 : Nat → Nat} {W W2 : Nat → Int} : ∀ k, (∀ e, e < k → F e = F2 e ∧ T e = T2 e ∧ W e = W2 e) → lwt F T W k = lwt F2 T2 W2 k
  | 0, _ => rfl
  | k + 1, h => by
    obtain ⟨h1, h2, h3⟩ := h k (by omega)
    have ih := lwt_congr k (fun e he => h e (by omega))
    funext p q
    show (if F k = p ∧ T k = q ∧ p ≠ q then (match lwt F T W k p q with | none => some (W k) | some x => if W k < x then some (W k) else some x) else lwt F T W k p q) = (if F2 k = p ∧ T2 k = q ∧ p ≠ q then (match lwt F2 T2 W2 k p q with | none => some (W2 k) | some x => if W2 k < x then some (W2 k) else some x) else lwt F2 T2 W2 k p q)
    rw [ih, h1, h2, h3]
theorem h_src : ∀ e, e < 6 → src hS 5 e < 5 := by decide +kernel
theorem h_lw : lwG 5 hS hT hW = lwt (fun e => hP (src hS 5 e)) (fun e => hP (tN hT e)) (fun e => at_ hW e) 6 :=
  lwt_congr 6 (fun e he => ⟨h_numb _ (h_src e he), h_numb _ (h_vtx e he), rfl⟩)
theorem h_ed : edG 5 hS hT hW = [(0, 1, 3), (1, 3, 2)] := by
  unfold edG
  rw [h_lw, h_cnt.2.2.2.2.2]
  decide +kernel
/-- The graph of the parts. -/
theorem h_kern {a b d nx : List Int} (h1 : Summed (cntL (BG 5 hS hT) 5) (edG 5 hS hT hW).length (eFrom (edG 5 hS hT hW)) (cntL (BG 5 hS hT) 5) a) (h2 : Laying (cntL (BG 5 hS hT) 5) (edG 5 hS hT hW).length (eFrom (edG 5 hS hT hW)) (eTo (edG 5 hS hT hW)) (eWt (edG 5 hS hT hW)) (edG 5 hS hT hW).length nx b d) : a = [0, 1, 2, 2, 2] ∧ b = [1, 3] ∧ d = [3, 2] := by
  rw [h_ed, h_cnt.2.2.2.2.2] at h1 h2
  refine ⟨eq_of_at h1.1 fun i hi => ?_, eq_of_at h2.tlen fun i hi => ?_, eq_of_at h2.wlen fun i hi => ?_⟩
  · rw [h1.1] at hi
    rw [h1.2.1 i (by omega)]
    revert i; decide +kernel
  · rw [h2.tlen] at hi
    match i, hi with
    | 0, _ => exact h2.tla 0 (by decide)
    | 1, _ => exact h2.tla 1 (by decide)
  · rw [h2.wlen] at hi
    match i, hi with
    | 0, _ => exact h2.wta 0 (by decide)
    | 1, _ => exact h2.wta 1 (by decide)
/-- Which can come next, decided. -/
def rdyB (n : Nat) (st tl l : List Int) (v : Nat) : Bool := decide (v < n) && !decide ((v : Int) ∈ l) && decide (cn tl (dn n st l) (v : Int) = 0)
theorem rdyB_iff {n : Nat} {st tl l : List Int} {v : Nat} : rdyB n st tl l v = true ↔ Rdy n tl (dn n st l) l (v : Int) := by
  unfold rdyB Rdy
  simp only [Bool.and_eq_true, decide_eq_true_eq, Bool.not_eq_true', decide_eq_false_iff_not]
  constructor
  · rintro ⟨⟨h1, h2⟩, h3⟩; exact ⟨⟨by omega, by omega⟩, h2, h3⟩
  · rintro ⟨⟨h1, h2⟩, h3, h4⟩; exact ⟨⟨by omega, h3⟩, h4⟩
theorem sq_next {n : Nat} {st tl l : List Int} {u : Nat} (h : Sq n st tl l) (h1 : rdyB n st tl l u = true) (h2 : ∀ v, v < u → rdyB n st tl l v = false) : Sq n st tl (l ++ [(u : Int)]) := by
  refine .snoc h (rdyB_iff.1 h1) (fun v hv => ?_)
  obtain ⟨k, rfl⟩ : ∃ k : Nat, v = k := ⟨v.toNat, by have := hv.1.1; omega⟩
  rcases Nat.lt_or_ge k u with h3 | h3
  · have h4 := h2 k h3
    rw [rdyB_iff.2 hv] at h4; cases h4
  · omega
theorem fin_of {n : Nat} {st tl l : List Int} (h : Sq n st tl l) (h2 : ∀ v, v < n → rdyB n st tl l v = false) : Fin n st tl l := by
  refine ⟨h, fun v hv => ?_⟩
  obtain ⟨k, rfl⟩ : ∃ k : Nat, v = k := ⟨v.toNat, by have := hv.1.1; omega⟩
  have := h2 k (by have := hv.1.2; omega)
  rw [rdyB_iff.2 hv] at this
  cases this
theorem h_ord : ordA 5 hS hT hW = ([], 33) := by
  have h1 : Sq 5 hS hT ([] ++ [((0 : Nat) : Int)]) := sq_next .nil (by decide +kernel) (by decide +kernel)
  exact ordA_few (n := 5) h_chk (fin_of h1 (by decide +kernel)) (by decide)
theorem k_ord : ordA 4 [0, 1, 2, 2, 2] [1, 3] [3, 2] = ([0, 1, 2, 3], 0) := by
  have h1 : Sq 4 [0, 1, 2, 2, 2] [1, 3] ([] ++ [((0 : Nat) : Int)]) := sq_next .nil (by decide +kernel) (by decide +kernel)
  have h2 : Sq 4 [0, 1, 2, 2, 2] [1, 3] ([] ++ [((0 : Nat) : Int)] ++ [((1 : Nat) : Int)]) := sq_next h1 (by decide +kernel) (by decide +kernel)
  have h3 : Sq 4 [0, 1, 2, 2, 2] [1, 3] ([] ++ [((0 : Nat) : Int)] ++ [((1 : Nat) : Int)] ++ [((2 : Nat) : Int)]) := sq_next h2 (by decide +kernel) (by decide +kernel)
  have h4 : Sq 4 [0, 1, 2, 2, 2] [1, 3] ([] ++ [((0 : Nat) : Int)] ++ [((1 : Nat) : Int)] ++ [((2 : Nat) : Int)] ++ [((3 : Nat) : Int)]) := sq_next h3 (by decide +kernel) (by decide +kernel)
  exact ordA_all (n := 4) (by decide +kernel) (fin_of h4 (by decide +kernel)) (by decide)
end Go.Proofs.Yteblkbneghbcbaa

/- heads: what must come at any rate. -/
namespace Go.Proofs.Yteblkbneghbcbaa
open Go.RowKit Go.Lib
set_option linter.unusedVariables false
set_option linter.unusedSimpArgs false
theorem row_lit {X : World} {g : Nat} {l : List Int} (h : X.heap[g]? = some (.cells (iCells l) 3 (0, 0))) (hl : l.length ≤ 1000) : RowAt .i64 X (.slice (some ⟨g, 0, none⟩) l.length l.length) l := Arr.row h rfl (by omega)
theorem h_prt : prtA 5 hS hT hW = ([0, 1, 1, 2, 3], 0) := by
  unfold prtA
  rw [if_pos h_chk]
  exact Prod.ext h_parts rfl
theorem h_cda {C : Int} {a b d l : List Int} {E : Int} (h : CdA 5 hS hT hW C a b d l E) : C = 4 ∧ a = [0, 1, 2, 2, 2] ∧ b = [1, 3] ∧ d = [3, 2] ∧ l = [0, 1, 1, 2, 3] ∧ E = 0 := by
  rcases h with ⟨n, hn, hg, rfl, h1, ⟨nx, h2⟩, rfl, rfl⟩ | ⟨hz, _⟩
  · have : n = 5 := by omega
    subst this
    obtain ⟨e1, e2, e3⟩ := h_kern h1 h2
    exact ⟨by rw [h_cnt.2.2.2.2.2]; rfl, e1, e2, e3, h_parts, rfl⟩
  · exact absurd h_chk hz
theorem h_ca {c : List Int} {b : Bool} {E : Int} (h : CA 5 hS hT hW c b E) : b = true ∧ E = 0 := by
  unfold CA at h
  rw [h_ord] at h
  rcases h with ⟨_, h, _⟩ | ⟨h, _⟩ | ⟨_, h1, h2, _⟩
  · exact absurd rfl h
  · exact absurd h (by decide)
  · exact ⟨h2, h1⟩
set_option maxHeartbeats 8000000 in
set_option maxRecDepth 100000 in
theorem heads_any (w : World) : Calls Try.prog 26 #[] w fun e w' => e = .returned (.bool true) ∧ Below w.heap.size w w' := by
  obtain ⟨n1, n2, n3, n4, n5, n6⟩ := four_newL w (.cells #[.int .i64 0, .int .i64 1, .int .i64 3, .int .i64 5, .int .i64 6, .int .i64 6] 3) (.cells #[.int .i64 1, .int .i64 2, .int .i64 4, .int .i64 1, .int .i64 4, .int .i64 3] 3) (.cells #[.int .u64 3, .int .u64 1, .int .u64 2, .int .u64 4, .int .u64 9, .int .u64 0] 58) (.cells #[.int .i64 5, .slice (some ⟨w.heap.size, 0, none⟩) 6 6, .slice (some ⟨w.heap.size + 1, 0, none⟩) 6 6, .slice (some ⟨w.heap.size + 1 + 1, 0, none⟩) 6 6] 25)
  obtain ⟨V, hV⟩ : ∃ V, V = (((w.alloc (.cells #[.int .i64 0, .int .i64 1, .int .i64 3, .int .i64 5, .int .i64 6, .int .i64 6] 3)).alloc (.cells #[.int .i64 1, .int .i64 2, .int .i64 4, .int .i64 1, .int .i64 4, .int .i64 3] 3)).alloc (.cells #[.int .u64 3, .int .u64 1, .int .u64 2, .int .u64 4, .int .u64 9, .int .u64 0] 58)).alloc (.cells #[.int .i64 5, .slice (some ⟨w.heap.size, 0, none⟩) 6 6, .slice (some ⟨w.heap.size + 1, 0, none⟩) 6 6, .slice (some ⟨w.heap.size + 1 + 1, 0, none⟩) 6 6] 25) := ⟨_, rfl⟩
  rw [← hV] at n1 n2 n3 n4 n5 n6
  have HG : Hid (GIs V 5 (.slice (some ⟨w.heap.size, 0, none⟩) 6 6) (.slice (some ⟨w.heap.size + 1, 0, none⟩) 6 6) (.slice (some ⟨w.heap.size + 1 + 1, 0, none⟩) 6 6) hS hT hW) := ⟨Arr.row (l := hS) n1 rfl (by omega), Arr.row (l := hT) n2 rfl (by omega), ArrU.row (l := hW) n3 rfl (by omega)⟩
  obtain ⟨Gb, hGb⟩ : ∃ Gb, Gb = w.heap.size + 1 + 1 + 1 := ⟨_, rfl⟩
  rw [← hGb] at n4
  have HK : Hid (∀ X, Below V.heap.size V X → X.cell? ⟨Gb, 0, none⟩ = some (.int .i64 5) ∧ X.cell? ⟨Gb, 1, none⟩ = some (.slice (some ⟨w.heap.size, 0, none⟩) 6 6) ∧ X.cell? ⟨Gb, 2, none⟩ = some (.slice (some ⟨w.heap.size + 1, 0, none⟩) 6 6) ∧ X.cell? ⟨Gb, 3, none⟩ = some (.slice (some ⟨w.heap.size + 1 + 1, 0, none⟩) 6 6)) := fun X hX => ⟨box_keep n4 hX rfl, box_keep n4 hX rfl, box_keep n4 hX rfl, box_keep n4 hX rfl⟩
  have HBW := hide n5
  have hwn : ∀ e, 0 ≤ at_ hW e := fun e => by
    rcases Nat.lt_or_ge e 6 with h | h
    · revert e; decide +kernel
    · unfold at_; rw [List.getElem?_eq_none (by exact h)]; decide
  have HPa : Hid (∀ X, Below V.heap.size V X → Calls Try.prog 12 #[.agg #[.int .i64 5, .slice (some ⟨w.heap.size, 0, none⟩) 6 6, .slice (some ⟨w.heap.size + 1, 0, none⟩) 6 6, .slice (some ⟨w.heap.size + 1 + 1, 0, none⟩) 6 6]] X (LN X ([0, 1, 1, 2, 3], 0))) := fun X hX => by rw [← h_prt]; exact parts_any 5 _ _ _ hS hT hW X (HG.out.below hX) (by decide) (by decide) (by decide) hwn
  have HCo : Hid (∀ X, Below V.heap.size V X → Calls Try.prog 17 #[.agg #[.int .i64 5, .slice (some ⟨w.heap.size, 0, none⟩) 6 6, .slice (some ⟨w.heap.size + 1, 0, none⟩) 6 6, .slice (some ⟨w.heap.size + 1 + 1, 0, none⟩) 6 6]] X (CdW X 5 hS hT hW)) := fun X hX => condense_any 5 _ _ _ hS hT hW X (HG.out.below hX) (by decide) (by decide) (by decide) hwn
  have HOr : Hid (∀ X, Below V.heap.size V X → Calls Try.prog 20 #[.agg #[.int .i64 5, .slice (some ⟨w.heap.size, 0, none⟩) 6 6, .slice (some ⟨w.heap.size + 1, 0, none⟩) 6 6, .slice (some ⟨w.heap.size + 1 + 1, 0, none⟩) 6 6]] X (LN X ([], 33))) := fun X hX => by rw [← h_ord]; exact ord_any 5 _ _ _ hS hT hW X (HG.out.below hX) (by decide) (by decide) (by decide)
  have HCi : Hid (∀ X, Below V.heap.size V X → Calls Try.prog 24 #[.agg #[.int .i64 5, .slice (some ⟨w.heap.size, 0, none⟩) 6 6, .slice (some ⟨w.heap.size + 1, 0, none⟩) 6 6, .slice (some ⟨w.heap.size + 1 + 1, 0, none⟩) 6 6]] X fun e w' => ∃ cv c b E, e = .returned (.tuple #[cv, .bool b, .int .i64 E]) ∧ RowAt .i64 w' cv c ∧ CA 5 hS hT hW c b E ∧ Below X.heap.size X w') := fun X hX => circle_any 5 _ _ _ hS hT hW X (HG.out.below hX) (by decide) (by decide) (by decide)
  clear n1 n2 n3 n4 n5 n6 hwn
  go_enter Try.func26, Try.ntmps26
  go_upto_region 2 with fail
  rw [← hV, ← hGb]
  clear hV hGb
  have HBX : Hid (Below V.heap.size V V) := Below.refl _ _
  obtain ⟨p0, p1, p2, p3⟩ := HK.out _ HBX.out
  go_wp2_with fail
  refine (HPa.out _ HBX.out).mono ?_
  rintro e w1 ⟨v1, rfl, hr1, hb⟩
  replace HBX := hide (below_on HBX.out hb)
  have HV1 := hide hr1
  clear p0 p1 p2 p3 hb hr1
  obtain ⟨p0, p1, p2, p3⟩ := HK.out _ HBX.out
  go_wp2_with fail
  refine (HCo.out _ HBX.out).mono ?_
  intro e w2 hcd
  obtain ⟨hb, C, xa, xb, xc, a, b, d, v2, l, E, rfl, hgi, hr2, hca⟩ := hcd.num
  obtain ⟨rfl, rfl, rfl, rfl, rfl, rfl⟩ := h_cda hca
  obtain ⟨ao2, ca2, rfl⟩ := hgi.s.shape
  obtain ⟨bo2, cb2, rfl⟩ := hgi.t.shape
  obtain ⟨co2, cc2, rfl⟩ := hgi.u.shape
  unfold gAgg
  simp only [List.length_cons, List.length_nil, Nat.zero_add, Nat.reduceAdd] at hgi ⊢
  obtain ⟨V2, hV2⟩ : ∃ V2, V2 = w2.alloc (.cells #[.int .i64 4, .slice ao2 5 ca2, .slice bo2 2 cb2, .slice co2 2 cc2] 25) := ⟨_, rfl⟩
  have hbV2 : Below w2.heap.size w2 V2 := by rw [hV2]; exact below_alloc (Below.refl _ _) _
  have hA2 : V2.heap[w2.heap.size]? = some (.cells #[.int .i64 4, .slice ao2 5 ca2, .slice bo2 2 cb2, .slice co2 2 cc2] 25 (0, 0)) := by rw [hV2]; exact heap_new _ _
  replace HV1 := hide ((HV1.out.below hb).below hbV2)
  have HV2 := hide (hr2.below hbV2)
  have HG2 := hide (hgi.below hbV2)
  replace HBX := hide (below_on (below_on HBX.out hb) hbV2)
  clear p0 p1 p2 p3 hb hr2 hcd hca hgi
  go_upto_region 4 with fail
  rw [← hV2]
  obtain ⟨b2, hb2⟩ : ∃ b2, b2 = w2.heap.size := ⟨_, rfl⟩
  rw [← hb2] at hA2 ⊢
  have HK2 : Hid (∀ X, Below V2.heap.size V2 X → X.cell? ⟨b2, 0, none⟩ = some (.int .i64 4) ∧ X.cell? ⟨b2, 1, none⟩ = some (.slice ao2 5 ca2) ∧ X.cell? ⟨b2, 2, none⟩ = some (.slice bo2 2 cb2) ∧ X.cell? ⟨b2, 3, none⟩ = some (.slice co2 2 cc2)) := fun X hX => ⟨box_keep hA2 hX rfl, box_keep hA2 hX rfl, box_keep hA2 hX rfl, box_keep hA2 hX rfl⟩
  clear hV2 hbV2 hA2 hb2
  have HBY : Hid (Below V2.heap.size V2 V2) := Below.refl _ _
  have HO4 := hide (ord_any 4 _ _ _ [0, 1, 2, 2, 2] [1, 3] [3, 2] V2 HG2.out (by decide) (by decide) (by decide))
  rw [k_ord] at HO4
  unfold gAgg at HO4
  obtain ⟨q0, q1, q2, q3⟩ := HK2.out _ HBY.out
  go_wp2_with fail
  refine HO4.out.mono ?_
  rintro e w3 ⟨v3, rfl, hr3, hb⟩
  replace HBX := hide (below_on HBX.out hb)
  replace HBY := hide (below_on HBY.out hb)
  have HV3 := hide hr3
  clear q0 q1 q2 q3 hb hr3 HO4
  obtain ⟨p0, p1, p2, p3⟩ := HK.out _ HBX.out
  go_wp2_with fail
  refine (HOr.out _ HBX.out).mono ?_
  rintro e w4 ⟨v4, rfl, hr4, hb⟩
  replace HBX := hide (below_on HBX.out hb)
  replace HBY := hide (below_on HBY.out hb)
  replace HV3 := hide (HV3.out.below hb)
  clear p0 p1 p2 p3 hb hr4
  obtain ⟨p0, p1, p2, p3⟩ := HK.out _ HBX.out
  go_wp2_with fail
  refine (HCi.out _ HBX.out).mono ?_
  rintro e w5 ⟨v5, c5, b5, E5, rfl, hr5, hca5, hb⟩
  obtain ⟨rfl, rfl⟩ := h_ca hca5
  replace HBX := hide (below_on HBX.out hb)
  replace HBY := hide (below_on HBY.out hb)
  replace HV3 := hide (HV3.out.below hb)
  replace HV1 := hide (HV1.out.below HBY.out)
  replace HV2 := hide (HV2.out.below HBY.out)
  replace HG2 := hide (HG2.out.below HBY.out)
  clear p0 p1 p2 p3 hb hr5 hca5
  have HNO := hide (fun x W => no_any x W)
  obtain ⟨U, hU⟩ : ∃ U, U = w5 := ⟨_, rfl⟩
  rw [← hU] at HBX HBY HV1 HV2 HV3 HG2 ⊢
  clear hU
  go_wp2_with (first | (go_at_call 15; refine (HNO.out _ _).mono ?_; rintro e w9 ⟨rfl, hw9⟩; subst hw9) | fail)
  have step : ∀ (x : Value) (l : List Int) (g : Nat) (X : World), RowAt .i64 X x l → X.heap[g]? = some (.cells (iCells l) 3 (0, 0)) → l.length ≤ 1000 → Calls Try.prog 14 #[x, .slice (some ⟨g, 0, none⟩) l.length l.length] X fun e w' => e = .returned (.bool true) ∧ Below X.heap.size X w' := fun x l g X h1 h2 h3 => lawSame_eq x _ l X h1 (row_lit h2 h3)
  have HST := hide step
  clear step
  have hba : ∀ (X : World) (o : Obj), Below X.heap.size X (X.alloc o) := fun X o => below_alloc (Below.refl _ _) o
  have HBA := hide hba
  clear hba
  refine (HST.out v1 [0, 1, 1, 2, 3] w9.heap.size (w9.alloc (.cells #[.int .i64 0, .int .i64 1, .int .i64 1, .int .i64 2, .int .i64 3] 3)) (HV1.out.below (HBA.out _ _)) (heap_new _ _) (by decide)).mono ?_
  rintro e x1 ⟨rfl, hb⟩
  have hb1 := below_on (HBA.out w9 (.cells #[.int .i64 0, .int .i64 1, .int .i64 1, .int .i64 2, .int .i64 3] 3)) hb
  replace HBX := hide (below_on HBX.out hb1)
  replace HBY := hide (below_on HBY.out hb1)
  replace HV1 := hide (HV1.out.below hb1)
  replace HV2 := hide (HV2.out.below hb1)
  replace HV3 := hide (HV3.out.below hb1)
  replace HG2 := hide (HG2.out.below hb1)
  clear hb hb1
  go_wp2_with fail
  refine (lawSame_eq v2 v1 [0, 1, 1, 2, 3] x1 HV2.out HV1.out).mono ?_
  rintro e x2 ⟨rfl, hb1⟩
  replace HBX := hide (below_on HBX.out hb1)
  replace HBY := hide (below_on HBY.out hb1)
  replace HV3 := hide (HV3.out.below hb1)
  replace HG2 := hide (HG2.out.below hb1)
  clear hb1
  obtain ⟨q0, q1, q2, q3⟩ := HK2.out _ HBY.out
  go_wp2_with fail
  refine (HST.out (.slice ao2 5 ca2) [0, 1, 2, 2, 2] x2.heap.size (x2.alloc (.cells #[.int .i64 0, .int .i64 1, .int .i64 2, .int .i64 2, .int .i64 2] 3)) (HG2.out.s.below (HBA.out _ _)) (heap_new _ _) (by decide)).mono ?_
  rintro e x3 ⟨rfl, hb⟩
  have hb1 := below_on (HBA.out x2 (.cells #[.int .i64 0, .int .i64 1, .int .i64 2, .int .i64 2, .int .i64 2] 3)) hb
  replace HBX := hide (below_on HBX.out hb1)
  replace HBY := hide (below_on HBY.out hb1)
  replace HV3 := hide (HV3.out.below hb1)
  replace HG2 := hide (HG2.out.below hb1)
  clear hb hb1 q0 q1 q2 q3
  obtain ⟨q0, q1, q2, q3⟩ := HK2.out _ HBY.out
  go_wp2_with fail
  refine (HST.out (.slice bo2 2 cb2) [1, 3] x3.heap.size (x3.alloc (.cells #[.int .i64 1, .int .i64 3] 3)) (HG2.out.t.below (HBA.out _ _)) (heap_new _ _) (by decide)).mono ?_
  rintro e x4 ⟨rfl, hb⟩
  have hb1 := below_on (HBA.out x3 (.cells #[.int .i64 1, .int .i64 3] 3)) hb
  replace HBX := hide (below_on HBX.out hb1)
  replace HV3 := hide (HV3.out.below hb1)
  clear hb hb1 q0 q1 q2 q3
  go_wp2_with fail
  refine (HST.out v3 [0, 1, 2, 3] x4.heap.size (x4.alloc (.cells #[.int .i64 0, .int .i64 1, .int .i64 2, .int .i64 3] 3)) (HV3.out.below (HBA.out _ _)) (heap_new _ _) (by decide)).mono ?_
  rintro e x5 ⟨rfl, hb⟩
  have hb1 := below_on (HBA.out x4 (.cells #[.int .i64 0, .int .i64 1, .int .i64 2, .int .i64 3] 3)) hb
  replace HBX := hide (below_on HBX.out hb1)
  clear hb hb1
  go_wp2_with fail
  go_ret
  exact ⟨rfl, HBW.out.trans (HBX.out.mono HBW.out.size)⟩
end Go.Proofs.Yteblkbneghbcbaa

/- refused: a call on what is no graph. -/
namespace Go.Proofs.Yteblkbneghbcbaa
open Go.RowKit Go.Lib
set_option linter.unusedVariables false
set_option linter.unusedSimpArgs false
theorem ca_bad {N : Int} {st tl wt c : List Int} {b : Bool} {E : Int} (hz : (chk N st tl wt).1 ≠ 0) (h : CA N st tl wt c b E) : b = false ∧ E = (chk N st tl wt).1 ∧ c = [] := by
  unfold CA at h
  rw [ordA_bad hz] at h
  rcases h with ⟨_, _, h1, h2, h3⟩ | ⟨h, _⟩ | ⟨_, _, _, n, rfl, hg, _⟩
  · exact ⟨h2, h1, h3⟩
  · exact absurd h hz
  · exact absurd (good_chk' hg) hz
set_option maxHeartbeats 8000000 in
set_option maxRecDepth 100000 in
theorem refused_any (N : Int) (va vb vc : Value) (st tl wt : List Int) (w : World) (hg : GIs w N va vb vc st tl wt) (hst : st.length ≤ 17592186044416) (hto : tl.length ≤ 17592186044416) (hwt : wt.length ≤ 17592186044416) (hw : ∀ e, 0 ≤ at_ wt e) :
    Calls Try.prog 27 #[gAgg N va vb vc] w fun e w' => e = .returned (.tuple #[.bool (decide ((chk N st tl wt).1 ≠ 0)), .bool true]) ∧ Below w.heap.size w w' := by
  obtain ⟨W, hW⟩ : ∃ W, W = w.alloc (.cells #[.int .i64 N, va, vb, vc] 25) := ⟨_, rfl⟩
  have hbW : Below w.heap.size w W := by rw [hW]; exact below_alloc (Below.refl _ _) _
  have hA : W.heap[w.heap.size]? = some (.cells #[.int .i64 N, va, vb, vc] 25 (0, 0)) := by rw [hW]; exact heap_new _ _
  have HBW := hide hbW
  have HG := hide (hg.below hbW)
  have HK : Hid (∀ X, Below W.heap.size W X → X.cell? ⟨w.heap.size, 0, none⟩ = some (.int .i64 N) ∧ X.cell? ⟨w.heap.size, 1, none⟩ = some va ∧ X.cell? ⟨w.heap.size, 2, none⟩ = some vb ∧ X.cell? ⟨w.heap.size, 3, none⟩ = some vc) := fun X hX => ⟨box_keep hA hX rfl, box_keep hA hX rfl, box_keep hA hX rfl, box_keep hA hX rfl⟩
  have HW := hide hw
  obtain ⟨r1, r2, hr⟩ : ∃ r1 r2, (r1, r2) = chk N st tl wt := ⟨_, _, rfl⟩
  have HCk := hide (check_all N va vb vc st tl wt W HG.out hst hto hwt)
  unfold ChkPost at HCk
  rw [← hr] at HCk
  have HPa : Hid (∀ X, Below W.heap.size W X → Calls Try.prog 12 #[gAgg N va vb vc] X (LN X (prtA N st tl wt))) := fun X hX => parts_any N va vb vc st tl wt X (HG.out.below hX) hst hto hwt hw
  have HCi : Hid (∀ X, Below W.heap.size W X → Calls Try.prog 24 #[gAgg N va vb vc] X fun e w' => ∃ cv c b E, e = .returned (.tuple #[cv, .bool b, .int .i64 E]) ∧ RowAt .i64 w' cv c ∧ CA N st tl wt c b E ∧ Below X.heap.size X w') := fun X hX => circle_any N va vb vc st tl wt X (HG.out.below hX) hst hto hwt
  have HOr : Hid (∀ X, Below W.heap.size W X → Calls Try.prog 20 #[gAgg N va vb vc] X (LN X (ordA N st tl wt))) := fun X hX => ord_any N va vb vc st tl wt X (HG.out.below hX) hst hto hwt
  have HR := hide hr
  have hrr : (chk N st tl wt).1 = r1 := by rw [← hr]
  rw [hrr]
  have HRR := hide hrr
  have HNO := hide (fun x W => no_any x W)
  clear hg hA hbW hw hr hrr hst hto hwt
  unfold gAgg at *
  by_cases hz : r1 = 0
  · have HRz := HRR.out
    rw [hz] at HRz
    obtain ⟨n, rfl, hgood⟩ := chk_good HRz
    have HP2 := hide HPa.out
    rw [show prtA n st tl wt = (tab n (fun v => (numb (BG n st tl) v : Int)), 0) by unfold prtA; rw [if_pos HRz, Int.toNat_natCast]] at HP2
    subst hz
    rw [show decide ((0 : Int) ≠ 0) = false from rfl]
    clear HRz hgood HPa HCi HOr HRR HR
    go_enter Try.func27, Try.ntmps27
    go_upto_region 1 with fail
    rw [← hW]
    clear hW
    obtain ⟨p0, p1, p2, p3⟩ := HK.out _ (Below.refl _ _)
    go_wp2_with fail
    refine HCk.out.mono ?_
    rintro e w1 ⟨rfl, hb1⟩
    have HBX := hide hb1
    clear p0 p1 p2 p3 hb1
    obtain ⟨p0, p1, p2, p3⟩ := HK.out _ HBX.out
    go_wp2_with fail
    refine (HP2.out _ HBX.out).mono ?_
    rintro e w2 ⟨v2, rfl, hr2, hb⟩
    obtain ⟨vo, vk, rfl⟩ := hr2.shape
    rw [tab_length]
    replace HBX := hide (below_on HBX.out hb)
    clear p0 p1 p2 p3 hb hr2 HP2 HCk
    obtain ⟨p0, p1, p2, p3⟩ := HK.out _ HBX.out
    go_wp2_with fail
    refine (HNO.out _ _).mono ?_
    rintro e w2' ⟨rfl, hww⟩
    subst hww
    go_upto_region 4 with fail
    have hnn : ((n : Int) == (n : Int)) = true := by simp
    go_quiet ((go_at_call 15; refine Calls.quiet_of_same (HNO.out _ _)))
    go_wp2_with fail
    go_ret2
    exact ⟨rfl, below_on HBW.out (below_on HBX.out (below_drewN (Below.refl _ _) _))⟩
  · have hrb : (r1 == 0) = false := by simpa using hz
    have hd : decide (r1 ≠ 0) = true := by simpa using hz
    rw [hd]
    have HZ : Hid ((chk N st tl wt).1 ≠ 0) := by show _ ≠ _; rw [HRR.out]; exact hz
    have HP2 := hide HPa.out
    rw [show prtA N st tl wt = ([], r1) by unfold prtA; rw [if_neg HZ.out, HRR.out]] at HP2
    have HO2 := hide HOr.out
    rw [ordA_bad HZ.out, HRR.out] at HO2
    clear HPa HOr HR
    have hrr2 : (r1 == r1) = true := by simp
    clear hz hd
    go_enter Try.func27, Try.ntmps27
    go_upto_region 1 with fail
    rw [← hW]
    clear hW
    obtain ⟨p0, p1, p2, p3⟩ := HK.out _ (Below.refl _ _)
    go_wp2_with fail
    refine HCk.out.mono ?_
    rintro e w1 ⟨rfl, hb1⟩
    have HBX := hide hb1
    clear p0 p1 p2 p3 hb1
    obtain ⟨p0, p1, p2, p3⟩ := HK.out _ HBX.out
    go_wp2_with fail
    refine (HP2.out _ HBX.out).mono ?_
    rintro e w2 ⟨v2, rfl, hr2, hb⟩
    obtain ⟨vo, vk, rfl⟩ := hr2.shape
    replace HBX := hide (below_on HBX.out hb)
    clear p0 p1 p2 p3 hb hr2 HP2 HCk
    obtain ⟨p0, p1, p2, p3⟩ := HK.out _ HBX.out
    go_wp2_with fail
    refine (HNO.out _ _).mono ?_
    rintro e w2' ⟨rfl, hww⟩
    subst hww
    go_wp2_with fail
    refine (HCi.out _ HBX.out).mono ?_
    rintro e w3 ⟨v3, c3, b3, E3, rfl, hr3, hca, hb⟩
    obtain ⟨rfl, rfl, rfl⟩ := ca_bad HZ.out hca
    rw [HRR.out]
    replace HBX := hide (below_on HBX.out hb)
    clear p0 p1 p2 p3 hb hr3 hca
    obtain ⟨p0, p1, p2, p3⟩ := HK.out _ HBX.out
    go_wp2_with fail
    refine (HO2.out _ HBX.out).mono ?_
    rintro e w4 ⟨v4, rfl, hr4, hb⟩
    replace HBX := hide (below_on HBX.out hb)
    clear p0 p1 p2 p3 hb hr4
    go_wp2_with (first | (go_at_call 15; refine (HNO.out _ _).mono ?_; rintro e w9 ⟨rfl, hw9⟩; subst hw9) | fail)
    go_ret2
    exact ⟨rfl, below_on HBW.out HBX.out⟩
end Go.Proofs.Yteblkbneghbcbaa

/- The law's own reach: from each vertex, all that it reaches. -/
namespace Go.Proofs.Yteblkbneghbcbaa
open Go.RowKit Go.Lib
set_option linter.unusedVariables false
set_option linter.unusedSimpArgs false
theorem Try.info51s : (Try.prog.info? 51).map (fun i => (i.zero, i.size, i.bytes)) = some (some (.slice none 0 0), 1, 24) := by kernel_rfl
theorem rch_rc {n : Nat} {st tl wt : List Int} (hg : Good n st tl wt) {v u : Nat} : Rch n st tl [(v : Int)] u ↔ Rc (EE n (sN st) (tN tl)) v u := by
  constructor
  · intro h
    induction h with
    | start i x hi hx =>
      have : i = 0 := by simpa using hi
      subst this
      have : v = x := by simp [at_] at hx; omega
      subst this
      exact .refl _
    | edge e he h ih => exact ih.trans (.head ((ee_iff hg).2 ⟨e, he, rfl, rfl⟩) (.refl _))
  · intro h
    have key : ∀ a b, Rc (EE n (sN st) (tN tl)) a b → Rch n st tl [(v : Int)] a → Rch n st tl [(v : Int)] b := by
      intro a b h
      induction h with
      | refl => exact id
      | head e h ih =>
        intro ha
        obtain ⟨x, hx, h1, h2⟩ := (ee_iff hg).1 e
        refine ih ?_
        rw [← h2]
        refine Rch.edge x hx ?_
        rw [h1]; exact ha
    exact key _ _ h (.start 0 v (by simp) (by simp [at_]))
theorem numb_iff {B : Nat → Nat → Prop} (hE : Eqv B) {u v : Nat} : numb B u = numb B v ↔ B u v := by
  refine ⟨fun h => ?_, numb_eq hE⟩
  refine (lea_iff hE).1 ?_
  unfold numb at h
  rcases Nat.lt_trichotomy (lea B u) (lea B v) with hl | hl | hl
  · have h2 := cntL_mono (B := B) (show lea B u + 1 ≤ lea B v by omega)
    rw [cntL_succ, if_pos (lea_lea hE u)] at h2
    omega
  · exact hl
  · have h2 := cntL_mono (B := B) (show lea B v + 1 ≤ lea B u by omega)
    rw [cntL_succ, if_pos (lea_lea hE v)] at h2
    omega
def slB (n : Nat) (Rs : List Nat) : List Value := Rs.map fun R => .slice (some ⟨R, 0, none⟩) n n
structure RLw (w wr : World) (n : Nat) (st tl : List Int) (v : Value) (Rs : List Nat) : Prop where
  bel : Below w.heap.size w wr
  own : wr.ownsRow w.heap.size 51 1 v Rs.length (slB n Rs)
  row : ∀ i R, Rs[i]? = some R → ∃ B, ArrB wr R B ∧ B.length = n ∧ ∀ u, u < n → (bAt B u = true ↔ Rc (EE n (sN st) (tN tl)) i u)
section
variable {w wr X Y : World} {n : Nat} {st tl : List Int} {v : Value} {Rs : List Nat}
theorem RLw.on (h : RLw w wr n st tl v Rs) (hb : Below wr.heap.size wr X) : RLw w X n st tl v Rs :=
  ⟨below_on h.bel hb, own_chg (S := fun _ => False) h.own (Chg.of_below hb) (fun _ _ h => h), fun i R hi => by
    obtain ⟨B, h1, h2, h3⟩ := h.row i R hi
    exact ⟨B, (hb.block _ (lt_of_heap h1)).trans h1, h2, h3⟩⟩
theorem RLw.more {R g cap : Nat} {B : List Bool} (h : RLw w X n st tl v Rs) (hR : ArrB X R B) (hl : B.length = n) (hB : ∀ u, u < n → (bAt B u = true ↔ Rc (EE n (sN st) (tN tl)) Rs.length u)) (hown : Y.ownsRow w.heap.size 51 1 (.slice (some ⟨g, 0, none⟩) (Rs.length + 1) cap) (Rs.length + 1) (slB n Rs ++ [.slice (some ⟨R, 0, none⟩) n n])) (hg : X.grownBy Y v.ownBlock) : RLw w Y n st tl (.slice (some ⟨g, 0, none⟩) (Rs ++ [R]).length cap) (Rs ++ [R]) := by
  refine ⟨h.bel.grown hg h.bel.size (fun j hj => (World.ownsRow.lt h.own j hj).1), ?_, ?_⟩
  · rw [List.length_append, List.length_singleton, show slB n (Rs ++ [R]) = slB n Rs ++ [.slice (some ⟨R, 0, none⟩) n n] by simp [slB]]
    exact hown
  · intro i R' hi
    have keep : ∀ {R : Nat} {B : List Bool}, ArrB X R B → ArrB Y R B := fun {R B} h1 => (hg.block R (lt_of_heap h1) (own_block_ne h.own h1 (by decide))).trans h1
    rcases Nat.lt_or_ge i Rs.length with hlt | hge
    · rw [List.getElem?_append_left hlt] at hi
      obtain ⟨B', h1, h2, h3⟩ := h.row i R' hi
      exact ⟨B', keep h1, h2, h3⟩
    · rw [List.getElem?_append_right hge] at hi
      have h0 : i = Rs.length := by
        rcases Nat.lt_or_ge (i - Rs.length) 1 with h | h
        · omega
        · rw [List.getElem?_eq_none (by simpa using h)] at hi; cases hi
      subst h0
      simp at hi
      subst hi
      exact ⟨B, keep hR, hl, hB⟩
theorem RLw.shape (h : RLw w X n st tl v Rs) : ∃ o c, v = .slice o Rs.length c := by
  obtain ⟨_, ⟨rfl, h0⟩ | ⟨g, cap, cur, rfl, _⟩⟩ := h.own
  · exact ⟨_, _, by rw [h0]⟩
  · exact ⟨_, _, rfl⟩
end
set_option maxRecDepth 100000 in
set_option maxHeartbeats 8000000 in
theorem reachL_good (n : Nat) (va vb vc : Value) (st tl wt : List Int) (w : World) (hg : GIs w n va vb vc st tl wt) (hgd : Good n st tl wt) (hn : n ≤ 64) :
    Calls Try.prog 28 #[gAgg n va vb vc] w fun e w' => ∃ v Rs, e = .returned (.tuple #[v, .bool true]) ∧ Below w.heap.size w w' ∧ RLw w w' n st tl v Rs ∧ Rs.length = n := by
  obtain ⟨i0, hi, hz0, hz1, hz2⟩ := info_parts Try.info51s
  obtain ⟨W, hW⟩ : ∃ W, W = w.alloc (.cells #[.int .i64 n, va, vb, vc] 25) := ⟨_, rfl⟩
  have hbW : Below w.heap.size w W := by rw [hW]; exact below_alloc (Below.refl _ _) _
  have hA : W.heap[w.heap.size]? = some (.cells #[.int .i64 n, va, vb, vc] 25 (0, 0)) := by rw [hW]; exact heap_new _ _
  have HBW := hide hbW
  have HK : Hid (∀ X, Below W.heap.size W X → X.cell? ⟨w.heap.size, 0, none⟩ = some (.int .i64 n) ∧ X.cell? ⟨w.heap.size, 1, none⟩ = some va ∧ X.cell? ⟨w.heap.size, 2, none⟩ = some vb ∧ X.cell? ⟨w.heap.size, 3, none⟩ = some vc) := fun X hX => ⟨box_keep hA hX rfl, box_keep hA hX rfl, box_keep hA hX rfl, box_keep hA hX rfl⟩
  have HRe : Hid (∀ (v : Nat) X, v < n → Below W.heap.size W X → Calls Try.prog 53 #[gAgg n va vb vc, .slice (some ⟨X.heap.size, 0, none⟩) 1 1] (X.alloc (.cells #[.int .i64 (v : Int)] 3)) (ReachW (X.alloc (.cells #[.int .i64 (v : Int)] 3)) n st tl [(v : Int)])) := fun v X hv hX =>
    callsIn_wide.1 (reach_good 0 n va vb vc st tl wt _ [(v : Int)] _ ((hg.below hbW).below (below_alloc hX _)) hgd (good_chk' hgd) (Arr.row (l := [(v : Int)]) (heap_new _ _) rfl (by omega)) (by simp) (fun i hi => by
      have : i = 0 := by simpa using hi
      subst this
      simp [IsV, at_]; omega))
  have HGD := hide hgd
  have HNO := hide (fun x W => no_any x W)
  have hnn : ((n : Int) != (n : Int)) = false := by simp
  clear hg hA hbW hgd
  unfold gAgg at *
  go_enter Try.func28, Try.ntmps28
  go_upto_region 1 with fail
  rw [← hW]
  clear hW
  go_wp2_with fail
  go_loopw [4, 5, 6, 7] (fun ev t _ _ wr => ∃ Rs : List Nat, t = .int .i64 (Rs.length : Int) ∧ Rs.length ≤ n ∧ RLw W wr n st tl ev Rs) (fun _ t _ _ _ => n - (RowKit.intOf t).toNat)
  case atStart => exact ⟨[], rfl, Nat.zero_le _, Below.refl _ _, ⟨by simp [slB], .inl ⟨rfl, rfl⟩⟩, fun i R h => by simp at h⟩
  case round =>
    obtain ⟨Rs, rfl, hk, hrl⟩ := hrel
    obtain ⟨o, c, rfl⟩ := hrl.shape
    have HRL := hide hrl
    clear hrl
    obtain ⟨p0, p1, p2, p3⟩ := HK.out _ HRL.out.bel
    obtain ⟨k, hkk⟩ : ∃ k, k = Rs.length := ⟨_, rfl⟩
    rw [← hkk] at hk HRL ⊢
    have HKK := hide hkk
    clear hkk
    by_cases hlt : k < n
    · have hbx : ∀ Z o, Below Z.heap.size Z (Z.alloc o) := fun Z o => below_alloc (Below.refl _ _) _
      have HBX := hide hbx
      clear hbx
      go_wp2_with fail
      refine (HRe.out k wr hlt HRL.out.bel).mono ?_
      rintro e w1 ⟨R, B, rfl, hR, hBl, hB, hb1⟩
      have HB1 : Hid (Below wr.heap.size wr w1) := below_on (below_alloc (Below.refl _ _) _) hb1
      have HR1 := hide (HRL.out.on HB1.out)
      have HR := hide hR; have HBl := hide hBl
      have HB : Hid (∀ u, u < n → (bAt B u = true ↔ Rc (EE n (sN st) (tN tl)) k u)) := fun u hu => (hB u hu).trans (rch_rc HGD.out)
      clear p0 p1 p2 p3 hR hBl hB hb1
      obtain ⟨p0, p1, p2, p3⟩ := HK.out _ HR1.out.bel
      go_wp2_with fail
      refine (HNO.out _ _).mono ?_
      rintro e w2 ⟨rfl, hww⟩
      subst hww
      have HOA := hide (own_chg (S := fun _ => False) HR1.out.own ((Chg.refl _ w2).alloc (.cells #[.slice (some ⟨R, 0, none⟩) n n] 51)) (fun _ _ h => h))
      rw [← HKK.out] at HOA
      have HSZ : Hid (W.heap.size ≤ w2.heap.size) := HR1.out.bel.size
      have HKL := hide hlt
      go_wp2_with (first
        | (at_builtin; refine wpList_append_lies _ rfl (.tmp 31) (.tmp 33) 46 rfl W.heap.size 51 i0 (.slice none 0 0) 1 24 Try.underlying46 hi hz0 hz1 hz2 rfl (by omega) _ k (slB n Rs) rfl HOA.out ⟨w2.heap.size, 0, none⟩ 1 1 [.slice (some ⟨R, 0, none⟩) n n] rfl rfl (one_at w2 _ _) (by simp [Value.oneCell']) (by omega) (by unfold maxLen; have := HKL.out; omega) (by have := HKL.out; omega) (by have := HSZ.out; simp; omega) (w2.heap.size + 1) (by simp) ?_; intro g8 cap8 w8 hown hgrow hat hltg; have HO8 := hide hown; have HG8 := hide hgrow; clear hown hgrow hat hltg HOA)
        | fail)
      have h8 := (HR1.out.on (below_alloc (Below.refl _ w2) (.cells #[.slice (some ⟨R, 0, none⟩) n n] 51))).more (R := R) (B := B) (Y := w8) (g := g8) (cap := cap8) (((below_alloc (Below.refl _ w2) _).block _ (lt_of_heap HR.out)).trans HR.out) HBl.out (by rw [← HKK.out]; exact HB.out) (by rw [← HKK.out]; exact HO8.out) HG8.out
      refine ⟨⟨Rs ++ [R], ?_, ?_, ?_⟩, ?_⟩
      · rw [List.length_append, List.length_singleton, ← HKK.out]; rfl
      · rw [List.length_append, List.length_singleton, ← HKK.out]; omega
      · rw [List.length_append, List.length_singleton, ← HKK.out] at h8
        exact h8
      · simp [RowKit.intOf]; omega
    · have hkn : k = n := by omega
      subst hkn
      go_wp2_with fail
      go_ret2
      exact ⟨_, _, rfl, below_on HBW.out HRL.out.bel, ⟨below_on HBW.out HRL.out.bel, own_base HRL.out.own HBW.out.size, HRL.out.row⟩, HKK.out.symm⟩
end Go.Proofs.Yteblkbneghbcbaa
