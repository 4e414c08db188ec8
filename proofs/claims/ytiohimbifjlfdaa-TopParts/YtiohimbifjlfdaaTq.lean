import Derived.Test.YtiohimbifjlfdaaCz
import Derived.Test.YtiohimbifjlfdaaCiC
import Derived.Test.YtiohimbifjlfdaaPtG
import Derived.Test.YtiohimbifjlfdaaRwC
import Derived.BigRegion
import Derived.BigQuiet
import Derived.Test.YtiohimbifjlfdaaGT
import Derived.Test.YtiohimbifjlfdaaEg
import Derived.Test.YtiohimbifjlfdaaIoK
import Derived.Deep.Cut
import Derived.Deep.CutBlock
import Derived.Deep.AppendLies
import Derived.Deep.RegionHeld3
/- The chapter's graph, plainly: its parts, their graph, the orders. -/
namespace Go.Proofs.Ytiohimbifjlfdaa
set_option linter.unusedVariables false
def hS : List Int := [0, 1, 3, 5, 6, 6]
def hT : List Int := [1, 2, 4, 1, 4, 3]
def hW : List Int := [3, 1, 2, 4, 9, 0]
theorem h_chk : (chk 5 hS hT hW).1 = 0 := by decide +kernel
theorem h_good : Good 5 hS hT hW := by
  obtain ⟨n, hn, h⟩ := chk_good h_chk
  have : n = 5 := by omega
  subst this; exact h
/-- Which part, and what can be reached. -/
def hP (v : Nat) : Nat := [0, 1, 1, 2, 3].getD v 0
def hR (a b : Nat) : Bool := decide ((a, b) ∈ [(0, 0), (0, 1), (0, 2), (0, 4), (1, 1), (1, 2), (1, 4), (2, 1), (2, 2), (2, 4), (3, 3), (4, 4)])
theorem h_stepB : ∀ a, a < 5 → ∀ p, p < 6 → ∀ b, b < 5 → (decide (sN hS a ≤ p) && decide (p < sN hS (a + 1)) && hR (tN hT p) b) = true → hR a b = true := by decide +kernel
theorem h_step (a : Nat) (ha : a < 5) (p : Nat) (hp : p < 6) (h1 : sN hS a ≤ p) (h2 : p < sN hS (a + 1)) (b : Nat) (hb : b < 5) (h3 : hR (tN hT p) b = true) : hR a b = true := h_stepB a ha p hp b hb (by simp [h1, h2, h3])
theorem h_top : ∀ a, a < 5 → sN hS (a + 1) ≤ 6 := by decide +kernel
theorem h_vtx : ∀ p, p < 6 → tN hT p < 5 := by decide +kernel
theorem h_rc {a b : Nat} (h : Rc (EE 5 (sN hS) (tN hT)) a b) (ha : a < 5) : b < 5 ∧ hR a b = true := by
  induction h with
  | refl a => exact ⟨ha, by revert a; decide +kernel⟩
  | @head a c b e _ ih =>
    obtain ⟨h1, p, h2, h3, rfl⟩ := e
    have hp : p < 6 := by have := h_top a h1; omega
    obtain ⟨h4, h5⟩ := ih (h_vtx p hp)
    exact ⟨h4, h_step a h1 p hp h2 h3 b h4 h5⟩
theorem h_both : ∀ a, a < 5 → ∀ b, b < 5 → hR a b = true → hR b a = true → hP a = hP b := by decide +kernel
theorem h_like : ∀ a, a < 5 → ∀ b, b < 5 → hP a = hP b → a = b ∨ (a = 1 ∧ b = 2) ∨ (a = 2 ∧ b = 1) := by decide +kernel
theorem h_bg {a b : Nat} (ha : a < 5) (hb : b < 5) : BG 5 hS hT a b ↔ hP a = hP b := by
  have e12 : EE 5 (sN hS) (tN hT) 1 2 := ⟨by omega, 1, by decide +kernel, by decide +kernel, by decide +kernel⟩
  have e21 : EE 5 (sN hS) (tN hT) 2 1 := ⟨by omega, 3, by decide +kernel, by decide +kernel, by decide +kernel⟩
  constructor
  · rintro ⟨h1, h2⟩
    exact h_both a ha b hb (h_rc h1 ha).2 (h_rc h2 hb).2
  · intro h
    rcases h_like a ha b hb h with rfl | ⟨rfl, rfl⟩ | ⟨rfl, rfl⟩
    · exact Bo.refl _ _
    · exact ⟨.one e12, .one e21⟩
    · exact ⟨.one e21, .one e12⟩
def hL (v : Nat) : Nat := [0, 1, 1, 3, 4].getD v 0
theorem h_least : ∀ v, v < 5 → hL v < 5 ∧ hP (hL v) = hP v ∧ ∀ u, u < 5 → hP u = hP v → hL v ≤ u := by decide +kernel
theorem h_lea {v : Nat} (hv : v < 5) : lea (BG 5 hS hT) v = hL v := by
  obtain ⟨h1, h2, h3⟩ := lea_spec (Bo.eqv (EE 5 (sN hS) (tN hT))) v
  obtain ⟨k1, k2, k3⟩ := h_least v hv
  have hl : lea (BG 5 hS hT) v < 5 := by show lea (Bo (EE 5 (sN hS) (tN hT))) v < 5; omega
  exact Nat.le_antisymm (h3 _ ((h_bg k1 hv).2 k2)) (k3 _ hl ((h_bg hl hv).1 h2))
theorem h_cnt : cntL (BG 5 hS hT) 0 = 0 ∧ cntL (BG 5 hS hT) 1 = 1 ∧ cntL (BG 5 hS hT) 2 = 2 ∧ cntL (BG 5 hS hT) 3 = 2 ∧ cntL (BG 5 hS hT) 4 = 3 ∧ cntL (BG 5 hS hT) 5 = 4 := by
  have c0 : cntL (BG 5 hS hT) 0 = 0 := rfl
  have c1 : cntL (BG 5 hS hT) 1 = 1 := by rw [cntL_succ, c0, h_lea (by omega)]; rfl
  have c2 : cntL (BG 5 hS hT) 2 = 2 := by rw [cntL_succ, c1, h_lea (by omega)]; rfl
  have c3 : cntL (BG 5 hS hT) 3 = 2 := by rw [cntL_succ, c2, h_lea (by omega)]; rfl
  have c4 : cntL (BG 5 hS hT) 4 = 3 := by rw [cntL_succ, c3, h_lea (by omega)]; rfl
  exact ⟨c0, c1, c2, c3, c4, by rw [cntL_succ, c4, h_lea (by omega)]; rfl⟩
theorem h_numb : ∀ v, v < 5 → numb (BG 5 hS hT) v = hP v := by
  intro v hv
  unfold numb
  rw [h_lea hv]
  obtain ⟨c0, c1, c2, c3, c4, c5⟩ := h_cnt
  match v, hv with
  | 0, _ => exact c0
  | 1, _ => exact c1
  | 2, _ => exact c1
  | 3, _ => exact c3
  | 4, _ => exact c4
theorem h_parts : tab 5 (fun v => (numb (BG 5 hS hT) v : Int)) = [0, 1, 1, 2, 3] := by
  rw [tab_congr (h := fun v => (hP v : Int)) (fun v hv => by rw [h_numb v hv])]
  decide +kernel
theorem lwt_congr {F T F2 T2 : Nat → Nat} {W W2 : Nat → Int} : ∀ k, (∀ e, e < k → F e = F2 e ∧ T e = T2 e ∧ W e = W2 e) → lwt F T W k = lwt F2 T2 W2 k
  | 0, _ => rfl
  | k + 1, h => by
    obtain ⟨h1, h2, h3⟩ := h k (by omega)
    have ih := lwt_congr k (fun e he => h e (by omega))
    funext p q
    show (if F k = p ∧ T k = q ∧ p ≠ q then (match lwt F T W k p q with | none => some (W k) | some x => if W k < x then some (W k) else some x) else lwt F T W k p q) = (if F2 k = p ∧ T2 k = q ∧ p ≠ q then (match lwt F2 T2 W2 k p q with | none => some (W2 k) | some x => if W2 k < x then some (W2 k) else some x) else lwt F2 T2 W2 k p q)
    rw [ih, h1, h2, h3]
theorem h_src : ∀ e, e < 6 → src hS 5 e < 5 := by decide +kernel
theorem h_lw : lwG 5 hS hT hW = lwt (fun e => hP (src hS 5 e)) (fun e => hP (tN hT e)) (fun e => at_ hW e) 6 :=
  lwt_congr 6 (fun e he => ⟨h_numb _ (h_src e he), h_numb _ (h_vtx e he), rfl⟩)
theorem h_ed : edG 5 hS hT hW = [(0, 1, 3), (1, 3, 2)] := by
  unfold edG
  rw [h_lw, h_cnt.2.2.2.2.2]
  decide +kernel
/-- The graph of the parts. -/
theorem h_kern {a b d nx : List Int} (h1 : Summed (cntL (BG 5 hS hT) 5) (edG 5 hS hT hW).length (eFrom (edG 5 hS hT hW)) (cntL (BG 5 hS hT) 5) a) (h2 : Laying (cntL (BG 5 hS hT) 5) (edG 5 hS hT hW).length (eFrom (edG 5 hS hT hW)) (eTo (edG 5 hS hT hW)) (eWt (edG 5 hS hT hW)) (edG 5 hS hT hW).length nx b d) : a = [0, 1, 2, 2, 2] ∧ b = [1, 3] ∧ d = [3, 2] := by
  rw [h_ed, h_cnt.2.2.2.2.2] at h1 h2
  refine ⟨eq_of_at h1.1 fun i hi => ?_, eq_of_at h2.tlen fun i hi => ?_, eq_of_at h2.wlen fun i hi => ?_⟩
  · rw [h1.1] at hi
    rw [h1.2.1 i (by omega)]
    revert i; decide +kernel
  · rw [h2.tlen] at hi
    match i, hi with
    | 0, _ => exact h2.tla 0 (by decide)
    | 1, _ => exact h2.tla 1 (by decide)
  · rw [h2.wlen] at hi
    match i, hi with
    | 0, _ => exact h2.wta 0 (by decide)
    | 1, _ => exact h2.wta 1 (by decide)
/-- Which can come next, decided. -/
def rdyB (n : Nat) (st tl l : List Int) (v : Nat) : Bool := decide (v < n) && !decide ((v : Int) ∈ l) && decide (cn tl (dn n st l) (v : Int) = 0)
theorem rdyB_iff {n : Nat} {st tl l : List Int} {v : Nat} : rdyB n st tl l v = true ↔ Rdy n tl (dn n st l) l (v : Int) := by
  unfold rdyB Rdy
  simp only [Bool.and_eq_true, decide_eq_true_eq, Bool.not_eq_true', decide_eq_false_iff_not]
  constructor
  · rintro ⟨⟨h1, h2⟩, h3⟩; exact ⟨⟨by omega, by omega⟩, h2, h3⟩
  · rintro ⟨⟨h1, h2⟩, h3, h4⟩; exact ⟨⟨by omega, h3⟩, h4⟩
theorem sq_next {n : Nat} {st tl l : List Int} {u : Nat} (h : Sq n st tl l) (h1 : rdyB n st tl l u = true) (h2 : ∀ v, v < u → rdyB n st tl l v = false) : Sq n st tl (l ++ [(u : Int)]) := by
  refine .snoc h (rdyB_iff.1 h1) (fun v hv => ?_)
  obtain ⟨k, rfl⟩ : ∃ k : Nat, v = k := ⟨v.toNat, by have := hv.1.1; omega⟩
  rcases Nat.lt_or_ge k u with h3 | h3
  · have h4 := h2 k h3
    rw [rdyB_iff.2 hv] at h4; cases h4
  · omega
theorem fin_of {n : Nat} {st tl l : List Int} (h : Sq n st tl l) (h2 : ∀ v, v < n → rdyB n st tl l v = false) : Fin n st tl l := by
  refine ⟨h, fun v hv => ?_⟩
  obtain ⟨k, rfl⟩ : ∃ k : Nat, v = k := ⟨v.toNat, by have := hv.1.1; omega⟩
  have := h2 k (by have := hv.1.2; omega)
  rw [rdyB_iff.2 hv] at this
  cases this
theorem h_ord : ordA 5 hS hT hW = ([], 33) := by
  have h1 : Sq 5 hS hT ([] ++ [((0 : Nat) : Int)]) := sq_next .nil (by decide +kernel) (by decide +kernel)
  exact ordA_few (n := 5) h_chk (fin_of h1 (by decide +kernel)) (by decide)
theorem k_ord : ordA 4 [0, 1, 2, 2, 2] [1, 3] [3, 2] = ([0, 1, 2, 3], 0) := by
  have h1 : Sq 4 [0, 1, 2, 2, 2] [1, 3] ([] ++ [((0 : Nat) : Int)]) := sq_next .nil (by decide +kernel) (by decide +kernel)
  have h2 : Sq 4 [0, 1, 2, 2, 2] [1, 3] ([] ++ [((0 : Nat) : Int)] ++ [((1 : Nat) : Int)]) := sq_next h1 (by decide +kernel) (by decide +kernel)
  have h3 : Sq 4 [0, 1, 2, 2, 2] [1, 3] ([] ++ [((0 : Nat) : Int)] ++ [((1 : Nat) : Int)] ++ [((2 : Nat) : Int)]) := sq_next h2 (by decide +kernel) (by decide +kernel)
  have h4 : Sq 4 [0, 1, 2, 2, 2] [1, 3] ([] ++ [((0 : Nat) : Int)] ++ [((1 : Nat) : Int)] ++ [((2 : Nat) : Int)] ++ [((3 : Nat) : Int)]) := sq_next h3 (by decide +kernel) (by decide +kernel)
  exact ordA_all (n := 4) (by decide +kernel) (fin_of h4 (by decide +kernel)) (by decide)
end Go.Proofs.Ytiohimbifjlfdaa

/- heads: what must come at any rate. -/
namespace Go.Proofs.Ytiohimbifjlfdaa
open Go.RowKit Go.Lib
set_option linter.unusedVariables false
set_option linter.unusedSimpArgs false
theorem row_lit {X : World} {g : Nat} {l : List Int} (h : X.heap[g]? = some (.cells (iCells l) 3 (0, 0))) (hl : l.length ≤ 1000) : RowAt .i64 X (.slice (some ⟨g, 0, none⟩) l.length l.length) l := Arr.row h rfl (by omega)
theorem h_prt : prtA 5 hS hT hW = ([0, 1, 1, 2, 3], 0) := by
  unfold prtA
  rw [if_pos h_chk]
  exact Prod.ext h_parts rfl
theorem h_cda {C : Int} {a b d l : List Int} {E : Int} (h : CdA 5 hS hT hW C a b d l E) : C = 4 ∧ a = [0, 1, 2, 2, 2] ∧ b = [1, 3] ∧ d = [3, 2] ∧ l = [0, 1, 1, 2, 3] ∧ E = 0 := by
  rcases h with ⟨n, hn, hg, rfl, h1, ⟨nx, h2⟩, rfl, rfl⟩ | ⟨hz, _⟩
  · have : n = 5 := by omega
    subst this
    obtain ⟨e1, e2, e3⟩ := h_kern h1 h2
    exact ⟨by rw [h_cnt.2.2.2.2.2]; rfl, e1, e2, e3, h_parts, rfl⟩
  · exact absurd h_chk hz
theorem h_ca {c : List Int} {b : Bool} {E : Int} (h : CA 5 hS hT hW c b E) : b = true ∧ E = 0 := by
  unfold CA at h
  rw [h_ord] at h
  rcases h with ⟨_, h, _⟩ | ⟨h, _⟩ | ⟨_, h1, h2, _⟩
  · exact absurd rfl h
  · exact absurd h (by decide)
  · exact ⟨h2, h1⟩
end Go.Proofs.Ytiohimbifjlfdaa

/- refused: a call on what is no graph. -/
namespace Go.Proofs.Ytiohimbifjlfdaa
open Go.RowKit Go.Lib
set_option linter.unusedVariables false
set_option linter.unusedSimpArgs false
theorem ca_bad {N : Int} {st tl wt c : List Int} {b : Bool} {E : Int} (hz : (chk N st tl wt).1 ≠ 0) (h : CA N st tl wt c b E) : b = false ∧ E = (chk N st tl wt).1 ∧ c = [] := by
  unfold CA at h
  rw [ordA_bad hz] at h
  rcases h with ⟨_, _, h1, h2, h3⟩ | ⟨h, _⟩ | ⟨_, _, _, n, rfl, hg, _⟩
  · exact ⟨h2, h1, h3⟩
  · exact absurd h hz
  · exact absurd (good_chk' hg) hz
end Go.Proofs.Ytiohimbifjlfdaa

/- The law's own reach: from each vertex, all that it reaches. -/
namespace Go.Proofs.Ytiohimbifjlfdaa
open Go.RowKit Go.Lib
set_option linter.unusedVariables false
set_option linter.unusedSimpArgs false
theorem Try.info51s : (Try.prog.info? 42).map (fun i => (i.zero, i.size, i.bytes)) = some (some (.slice none 0 0), 1, 24) := by kernel_rfl
theorem rch_rc {n : Nat} {st tl wt : List Int} (hg : Good n st tl wt) {v u : Nat} : Rch n st tl [(v : Int)] u ↔ Rc (EE n (sN st) (tN tl)) v u := by
  constructor
  · intro h
    induction h with
    | start i x hi hx =>
      have : i = 0 := by simpa using hi
      subst this
      have : v = x := by simp [at_] at hx; omega
      subst this
      exact .refl _
    | edge e he h ih => exact ih.trans (.head ((ee_iff hg).2 ⟨e, he, rfl, rfl⟩) (.refl _))
  · intro h
    have key : ∀ a b, Rc (EE n (sN st) (tN tl)) a b → Rch n st tl [(v : Int)] a → Rch n st tl [(v : Int)] b := by
      intro a b h
      induction h with
      | refl => exact id
      | head e h ih =>
        intro ha
        obtain ⟨x, hx, h1, h2⟩ := (ee_iff hg).1 e
        refine ih ?_
        rw [← h2]
        refine Rch.edge x hx ?_
        rw [h1]; exact ha
    exact key _ _ h (.start 0 v (by simp) (by simp [at_]))
theorem numb_iff {B : Nat → Nat → Prop} (hE : Eqv B) {u v : Nat} : numb B u = numb B v ↔ B u v := by
  refine ⟨fun h => ?_, numb_eq hE⟩
  refine (lea_iff hE).1 ?_
  unfold numb at h
  rcases Nat.lt_trichotomy (lea B u) (lea B v) with hl | hl | hl
  · have h2 := cntL_mono (B := B) (show lea B u + 1 ≤ lea B v by omega)
    rw [cntL_succ, if_pos (lea_lea hE u)] at h2
    omega
  · exact hl
  · have h2 := cntL_mono (B := B) (show lea B v + 1 ≤ lea B u by omega)
    rw [cntL_succ, if_pos (lea_lea hE v)] at h2
    omega
def slB (n : Nat) (Rs : List Nat) : List Value := Rs.map fun R => .slice (some ⟨R, 0, none⟩) n n
structure RLw (w wr : World) (n : Nat) (st tl : List Int) (v : Value) (Rs : List Nat) : Prop where
  bel : Below w.heap.size w wr
  own : wr.ownsRow w.heap.size 42 1 v Rs.length (slB n Rs)
  row : ∀ i R, Rs[i]? = some R → ∃ B, ArrB wr R B ∧ B.length = n ∧ ∀ u, u < n → (bAt B u = true ↔ Rc (EE n (sN st) (tN tl)) i u)
section
variable {w wr X Y : World} {n : Nat} {st tl : List Int} {v : Value} {Rs : List Nat}
theorem RLw.on (h : RLw w wr n st tl v Rs) (hb : Below wr.heap.size wr X) : RLw w X n st tl v Rs :=
  ⟨below_on h.bel hb, own_chg (S := fun _ => False) h.own (Chg.of_below hb) (fun _ _ h => h), fun i R hi => by
    obtain ⟨B, h1, h2, h3⟩ := h.row i R hi
    exact ⟨B, (hb.block _ (lt_of_heap h1)).trans h1, h2, h3⟩⟩
theorem RLw.more {R g cap : Nat} {B : List Bool} (h : RLw w X n st tl v Rs) (hR : ArrB X R B) (hl : B.length = n) (hB : ∀ u, u < n → (bAt B u = true ↔ Rc (EE n (sN st) (tN tl)) Rs.length u)) (hown : Y.ownsRow w.heap.size 42 1 (.slice (some ⟨g, 0, none⟩) (Rs.length + 1) cap) (Rs.length + 1) (slB n Rs ++ [.slice (some ⟨R, 0, none⟩) n n])) (hg : X.grownBy Y v.ownBlock) : RLw w Y n st tl (.slice (some ⟨g, 0, none⟩) (Rs ++ [R]).length cap) (Rs ++ [R]) := by
  refine ⟨h.bel.grown hg h.bel.size (fun j hj => (World.ownsRow.lt h.own j hj).1), ?_, ?_⟩
  · rw [List.length_append, List.length_singleton, show slB n (Rs ++ [R]) = slB n Rs ++ [.slice (some ⟨R, 0, none⟩) n n] by simp [slB]]
    exact hown
  · intro i R' hi
    have keep : ∀ {R : Nat} {B : List Bool}, ArrB X R B → ArrB Y R B := fun {R B} h1 => (hg.block R (lt_of_heap h1) (own_block_ne h.own h1 (by decide))).trans h1
    rcases Nat.lt_or_ge i Rs.length with hlt | hge
    · rw [List.getElem?_append_left hlt] at hi
      obtain ⟨B', h1, h2, h3⟩ := h.row i R' hi
      exact ⟨B', keep h1, h2, h3⟩
    · rw [List.getElem?_append_right hge] at hi
      have h0 : i = Rs.length := by
        rcases Nat.lt_or_ge (i - Rs.length) 1 with h | h
        · omega
        · rw [List.getElem?_eq_none (by simpa using h)] at hi; cases hi
      subst h0
      simp at hi
      subst hi
      exact ⟨B, keep hR, hl, hB⟩
theorem RLw.shape (h : RLw w X n st tl v Rs) : ∃ o c, v = .slice o Rs.length c := by
  obtain ⟨_, ⟨rfl, h0⟩ | ⟨g, cap, cur, rfl, _⟩⟩ := h.own
  · exact ⟨_, _, by rw [h0]⟩
  · exact ⟨_, _, rfl⟩
end
end Go.Proofs.Ytiohimbifjlfdaa

/- TopParts: the two graphs of parted, plainly. -/
namespace Go.Proofs.Ytiohimbifjlfdaa
open Go.RowKit Go.Lib
set_option linter.unusedVariables false
def jS : List Int := [0, 1, 2, 4, 4]
def jT : List Int := [2, 3, 0, 1]
def jW : List Int := [5, 1, 2, 0]
theorem j_chk : (chk 4 jS jT jW).1 = 0 := by decide +kernel
theorem j_good : Good 4 jS jT jW := by
  obtain ⟨n, hn, h⟩ := chk_good j_chk
  have : n = 4 := by omega
  subst this; exact h
def jP (v : Nat) : Nat := [0, 1, 0, 2].getD v 0
def jR (a b : Nat) : Bool := decide ((a, b) ∈ [(0, 0), (0, 2), (0, 1), (0, 3), (1, 1), (1, 3), (2, 2), (2, 0), (2, 1), (2, 3), (3, 3)])
theorem j_stepB : ∀ a, a < 4 → ∀ p, p < 4 → ∀ b, b < 4 → (decide (sN jS a ≤ p) && decide (p < sN jS (a + 1)) && jR (tN jT p) b) = true → jR a b = true := by decide +kernel
theorem j_step (a : Nat) (ha : a < 4) (p : Nat) (hp : p < 4) (h1 : sN jS a ≤ p) (h2 : p < sN jS (a + 1)) (b : Nat) (hb : b < 4) (h3 : jR (tN jT p) b = true) : jR a b = true := j_stepB a ha p hp b hb (by simp [h1, h2, h3])
theorem j_top : ∀ a, a < 4 → sN jS (a + 1) ≤ 4 := by decide +kernel
theorem j_vtx : ∀ p, p < 4 → tN jT p < 4 := by decide +kernel
theorem j_rc {a b : Nat} (h : Rc (EE 4 (sN jS) (tN jT)) a b) (ha : a < 4) : b < 4 ∧ jR a b = true := by
  induction h with
  | refl a => exact ⟨ha, by revert a; decide +kernel⟩
  | @head a c b e _ ih =>
    obtain ⟨h1, p, h2, h3, rfl⟩ := e
    have hp : p < 4 := by have := j_top a h1; omega
    obtain ⟨h4, h5⟩ := ih (j_vtx p hp)
    exact ⟨h4, j_step a h1 p hp h2 h3 b h4 h5⟩
theorem j_both : ∀ a, a < 4 → ∀ b, b < 4 → jR a b = true → jR b a = true → jP a = jP b := by decide +kernel
theorem j_like : ∀ a, a < 4 → ∀ b, b < 4 → jP a = jP b → a = b ∨ (a = 0 ∧ b = 2) ∨ (a = 2 ∧ b = 0) := by decide +kernel
theorem j_bg {a b : Nat} (ha : a < 4) (hb : b < 4) : BG 4 jS jT a b ↔ jP a = jP b := by
  have e12 : EE 4 (sN jS) (tN jT) 0 2 := ⟨by omega, 0, by decide +kernel, by decide +kernel, by decide +kernel⟩
  have e21 : EE 4 (sN jS) (tN jT) 2 0 := ⟨by omega, 2, by decide +kernel, by decide +kernel, by decide +kernel⟩
  constructor
  · rintro ⟨h1, h2⟩
    exact j_both a ha b hb (j_rc h1 ha).2 (j_rc h2 hb).2
  · intro h
    rcases j_like a ha b hb h with rfl | ⟨rfl, rfl⟩ | ⟨rfl, rfl⟩
    · exact Bo.refl _ _
    · exact ⟨.one e12, .one e21⟩
    · exact ⟨.one e21, .one e12⟩
def jL (v : Nat) : Nat := [0, 1, 0, 3].getD v 0
theorem j_least : ∀ v, v < 4 → jL v < 4 ∧ jP (jL v) = jP v ∧ ∀ u, u < 4 → jP u = jP v → jL v ≤ u := by decide +kernel
theorem j_lea {v : Nat} (hv : v < 4) : lea (BG 4 jS jT) v = jL v := by
  obtain ⟨h1, h2, h3⟩ := lea_spec (Bo.eqv (EE 4 (sN jS) (tN jT))) v
  obtain ⟨k1, k2, k3⟩ := j_least v hv
  have hl : lea (BG 4 jS jT) v < 4 := by show lea (Bo (EE 4 (sN jS) (tN jT))) v < 4; omega
  exact Nat.le_antisymm (h3 _ ((j_bg k1 hv).2 k2)) (k3 _ hl ((j_bg hl hv).1 h2))
theorem j_cnt : cntL (BG 4 jS jT) 0 = 0 ∧ cntL (BG 4 jS jT) 1 = 1 ∧ cntL (BG 4 jS jT) 2 = 2 ∧ cntL (BG 4 jS jT) 3 = 2 := by
  have c0 : cntL (BG 4 jS jT) 0 = 0 := rfl
  have c1 : cntL (BG 4 jS jT) 1 = 1 := by rw [cntL_succ, c0, j_lea (by omega)]; rfl
  have c2 : cntL (BG 4 jS jT) 2 = 2 := by rw [cntL_succ, c1, j_lea (by omega)]; rfl
  exact ⟨c0, c1, c2, by rw [cntL_succ, c2, j_lea (by omega)]; rfl⟩
theorem j_numb : ∀ v, v < 4 → numb (BG 4 jS jT) v = jP v := by
  intro v hv
  unfold numb
  rw [j_lea hv]
  obtain ⟨c0, c1, c2, c3⟩ := j_cnt
  match v, hv with
  | 0, _ => exact c0
  | 1, _ => exact c1
  | 2, _ => exact c0
  | 3, _ => exact c3
theorem j_parts : tab 4 (fun v => (numb (BG 4 jS jT) v : Int)) = [0, 1, 0, 2] := by
  rw [tab_congr (h := fun v => (jP v : Int)) (fun v hv => by rw [j_numb v hv])]
  decide +kernel
theorem j_prt : prtA 4 jS jT jW = ([0, 1, 0, 2], 0) := by
  unfold prtA
  rw [if_pos j_chk]
  exact Prod.ext j_parts rfl
def iS : List Int := [0, 2, 2, 3]
def iT : List Int := [1, 2, 1]
def iW : List Int := [5, 1, 2]
theorem i_ord : ordA 3 iS iT iW = ([0, 2, 1], 0) := by
  have h1 : Sq 3 iS iT ([] ++ [((0 : Nat) : Int)]) := sq_next .nil (by decide +kernel) (by decide +kernel)
  have h2 : Sq 3 iS iT ([] ++ [((0 : Nat) : Int)] ++ [((2 : Nat) : Int)]) := sq_next h1 (by decide +kernel) (by decide +kernel)
  have h3 : Sq 3 iS iT ([] ++ [((0 : Nat) : Int)] ++ [((2 : Nat) : Int)] ++ [((1 : Nat) : Int)]) := sq_next h2 (by decide +kernel) (by decide +kernel)
  exact ordA_all (n := 3) (by decide +kernel) (fin_of h3 (by decide +kernel)) (by decide)
end Go.Proofs.Ytiohimbifjlfdaa

/- TopParts: sameInts, rest, parted. -/
namespace Go.Proofs.Ytiohimbifjlfdaa
open Go.RowKit Go.Lib
set_option linter.unusedVariables false
set_option linter.unusedSimpArgs false
set_option maxHeartbeats 2000000 in
set_option maxRecDepth 100000 in
theorem lawSame_any (v1 v2 : Value) (xs ys : List Int) (w : World) (h1 : RowAt .i64 w v1 xs) (h2 : RowAt .i64 w v2 ys) : Calls Try.prog 11 #[v1, v2] w fun e w' => e = .returned (.bool (decide (xs = ys))) ∧ Below w.heap.size w w' := by
  obtain ⟨a1, c1, rfl⟩ := h1.shape
  obtain ⟨a2, c2, rfl⟩ := h2.shape
  by_cases hl : xs.length = ys.length
  · have M1 : Hid (xs.length ≤ 9223372036854775807) := by
      obtain ⟨_, _, he, q1, q2, _⟩ := h1
      simp only [Value.slice.injEq] at he
      show _ ≤ _
      omega
    have H1 := hide h1; have H2 := hide h2
    obtain ⟨n, hn⟩ : ∃ n, n = ys.length := ⟨_, rfl⟩
    rw [← hn] at hl ⊢
    have HN := hide hn; have HL := hide hl
    rw [hl]
    clear h1 h2 hn hl
    go_enter Try.func11, Try.ntmps11
    go_wp2_with fail
    go_loopw [5] (fun t wr => ∃ k : Nat, k ≤ n ∧ t = .int .i64 k ∧ (∀ i, i < k → at_ xs i = at_ ys i) ∧ Below w.heap.size w wr) (fun t _ => n - (RowKit.intOf t).toNat)
    case atStart => exact ⟨0, by omega, rfl, fun i hi => by omega, Below.refl _ _⟩
    case round =>
      obtain ⟨k, hk, rfl, heq, hbel⟩ := hrel
      have HBL := hide hbel; have HEQ := hide heq
      clear heq
      by_cases hlt : k < n
      · obtain ⟨g1, o1, d1, he1, hc1, x1⟩ := (H1.out.below hbel).cellAt k (by have := HL.out; omega)
        obtain ⟨g2, o2, d2, he2, hc2, x2⟩ := (H2.out.below hbel).cellAt k (by have := HN.out; omega)
        simp only [Value.slice.injEq] at he1 he2
        obtain ⟨rfl, q1, rfl⟩ := he1
        obtain ⟨rfl, q2, rfl⟩ := he2
        have hkm : (k : Int) + 1 ≤ 9223372036854775807 := by have := M1.out; have := HL.out; omega
        have hk1 : (k : Int) < c1 := by have := HL.out; omega
        have hk2 : (k : Int) < c2 := by have := HN.out; omega
        obtain ⟨s, hs⟩ : ∃ s, s = at_ xs k := ⟨_, rfl⟩
        obtain ⟨t, ht⟩ : ∃ t, t = at_ ys k := ⟨_, rfl⟩
        rw [← hs] at x1
        rw [← ht] at x2
        have HST := hide (And.intro hs ht)
        have y1 := gw_cell x1
        have y2 := gw_cell x2
        clear hbel q1 q2 hc1 hc2 hs ht
        by_cases hst : s = t
        · subst hst
          go_wp2_with fail
          refine wp_region_gw (by kernel_rfl) (by kernel_rfl) ?_
          repeat (go_big_quiet_step (rfl))
          refine wpQuiet_nil ?_
          intro _ hw'
          obtain ⟨x, hw''⟩ := hw'
          subst hw''
          go_wp2_with fail
          go_roundw
          case rel =>
            refine ⟨k + 1, Nat.succ_le_of_lt hlt, by go_num, fun i hi => ?_, HBL.out.trans (x.bel.mono HBL.out.size)⟩
            by_cases e : i = k
            · subst e; rw [← HST.out.1, ← HST.out.2]
            · exact HEQ.out i (by omega)
          case measure => exact mdec hlt
        · have hne : (s != t) = true := by simpa using hst
          have HNE : Hid (decide (xs = ys) = false) := by
            refine decide_eq_false fun e => hst ?_
            rw [HST.out.1, HST.out.2, e]
          clear hst
          go_wp2_with fail
          refine wp_region_gw (by kernel_rfl) (by kernel_rfl) ?_
          repeat (go_big_quiet_step (rfl))
          refine wpQuiet_nil ?_
          intro _ hw'
          obtain ⟨x, hw''⟩ := hw'
          subst hw''
          go_wp2_with fail
          go_ret
          rw [HNE.out]; exact ⟨rfl, HBL.out.trans (x.bel.mono HBL.out.size)⟩
      · have HNE : Hid (decide (xs = ys) = true) := by
          refine decide_eq_true (List.ext_getElem? fun i => ?_)
          by_cases hi : i < n
          · have h3 := HEQ.out i (by omega)
            have e1 : xs[i]? = some (at_ xs i) := by simp [at_, show i < xs.length by have := HL.out; omega]
            have e2 : ys[i]? = some (at_ ys i) := by simp [at_, show i < ys.length by have := HN.out; omega]
            rw [e1, e2, h3]
          · rw [List.getElem?_eq_none (by have := HL.out; omega), List.getElem?_eq_none (by have := HN.out; omega)]
        clear hbel
        go_wp2_with fail
        go_ret
        rw [HNE.out]; exact ⟨rfl, HBL.out⟩
  · have hne : ((xs.length : Int) != (ys.length : Int)) = true := by simp; omega
    have HNE : Hid (decide (xs = ys) = false) := decide_eq_false fun e => hl (by rw [e])
    generalize xs.length = n1 at hne ⊢
    generalize ys.length = n2 at hne ⊢
    clear h1 h2 hl
    go_enter Try.func11, Try.ntmps11
    go_wp2
    go_ret
    rw [HNE.out]; exact ⟨rfl, Below.refl _ _⟩
theorem lawSame_eq (v1 v2 : Value) (xs : List Int) (w : World) (h1 : RowAt .i64 w v1 xs) (h2 : RowAt .i64 w v2 xs) : Calls Try.prog 11 #[v1, v2] w fun e w' => e = .returned (.bool true) ∧ Below w.heap.size w w' :=
  (lawSame_any v1 v2 xs xs w h1 h2).mono fun e w' ⟨h, k⟩ => ⟨by rw [h]; simp, k⟩
theorem tmod_in (x : Int) (n : Nat) (hn : 0 < n) : -(n : Int) < x.tmod n ∧ x.tmod n < n := by
  have hp : (0 : Int) < n := by omega
  have h2 := Int.tmod_lt_of_pos x hp
  refine ⟨?_, h2⟩
  rcases Int.le_total 0 x with h | h
  · have := Int.tmod_nonneg n h; omega
  · have h3 := Int.tmod_lt_of_pos (-x) hp
    rw [Int.neg_tmod] at h3
    omega
theorem rest_any (x : Int) (k : Nat) (hk : 0 < k) (hkm : k ≤ 4194304) (w : World) : Calls Try.prog 12 #[.int .i64 x, .int .i64 k] w fun e w' => (∃ r : Nat, r < k ∧ e = .returned (.int .i64 r)) ∧ w' = w := by
  have ht := tmod_in x k hk
  have hk0 : ((k : Int) == 0) = false := by simp; omega
  have hk1 : ¬ (k : Int) = 0 := by omega
  obtain ⟨m, hm⟩ : ∃ m, m = x.tmod k := ⟨_, rfl⟩
  have HM := hide hm
  by_cases h0 : m < 0
  · have HR : Hid (∃ r : Nat, r < k ∧ m + k = (r : Int)) := ⟨(m + k).toNat, by omega, by omega⟩
    go_enter Try.func12, Try.ntmps12
    go_wp2_with fail
    obtain ⟨r, h1, h2⟩ := HR.out
    rw [hm] at h2
    rw [h2]
    go_ret
    exact ⟨⟨r, h1, rfl⟩, rfl⟩
  · have HR : Hid (∃ r : Nat, r < k ∧ m = (r : Int)) := ⟨m.toNat, by omega, by omega⟩
    go_enter Try.func12, Try.ntmps12
    go_wp2_with fail
    obtain ⟨r, h1, h2⟩ := HR.out
    rw [hm] at h2
    rw [h2]
    go_ret
    exact ⟨⟨r, h1, rfl⟩, rfl⟩
theorem three_newL (w : World) (a b c : Array Value) (r s t : TypeId) : ((((w.alloc (.cells a r)).alloc (.cells b s)).alloc (.cells c t)).heap[w.heap.size]? = some (.cells a r (0, 0)) ∧ (((w.alloc (.cells a r)).alloc (.cells b s)).alloc (.cells c t)).heap[w.heap.size + 1]? = some (.cells b s (0, 0)) ∧ (((w.alloc (.cells a r)).alloc (.cells b s)).alloc (.cells c t)).heap[w.heap.size + 1 + 1]? = some (.cells c t (0, 0))) ∧ Below w.heap.size w (((w.alloc (.cells a r)).alloc (.cells b s)).alloc (.cells c t)) := by
  have h1 : (w.alloc (.cells a r)).heap.size = w.heap.size + 1 := by simp
  have h2 : ((w.alloc (.cells a r)).alloc (.cells b s)).heap.size = w.heap.size + 1 + 1 := by simp
  refine ⟨⟨?_, ?_, ?_⟩, below_alloc (below_alloc (below_alloc (Below.refl _ _) _) _) _⟩
  · exact (Below.heap_alloc _ _ _ (by rw [h2]; omega)).trans ((Below.heap_alloc _ _ _ (by rw [h1]; omega)).trans (heap_new _ _))
  · refine (Below.heap_alloc _ _ _ (by rw [h2]; omega)).trans ?_
    have := heap_new (w.alloc (.cells a r)) (.cells b s)
    rw [h1] at this; exact this
  · have := heap_new ((w.alloc (.cells a r)).alloc (.cells b s)) (.cells c t)
    rw [h2] at this; exact this
set_option maxHeartbeats 8000000 in
set_option maxRecDepth 100000 in
theorem parted_any (w : World) : Calls Try.prog 5 #[] w fun e w' => e = .returned (.bool true) ∧ Below w.heap.size w w' := by
  obtain ⟨⟨n1, n2, n3⟩, n5⟩ := three_newL w #[.int .i64 0, .int .i64 1, .int .i64 2, .int .i64 4, .int .i64 4] #[.int .i64 2, .int .i64 3, .int .i64 0, .int .i64 1] #[.int .u64 5, .int .u64 1, .int .u64 2, .int .u64 0] 3 3 46
  obtain ⟨V, hV⟩ : ∃ V, V = ((w.alloc (.cells #[.int .i64 0, .int .i64 1, .int .i64 2, .int .i64 4, .int .i64 4] 3)).alloc (.cells #[.int .i64 2, .int .i64 3, .int .i64 0, .int .i64 1] 3)).alloc (.cells #[.int .u64 5, .int .u64 1, .int .u64 2, .int .u64 0] 46) := ⟨_, rfl⟩
  rw [← hV] at n1 n2 n3 n5
  have HB0 := hide n5
  have HG : Hid (GIs V 4 (.slice (some ⟨w.heap.size, 0, none⟩) 5 5) (.slice (some ⟨w.heap.size + 1, 0, none⟩) 4 4) (.slice (some ⟨w.heap.size + 1 + 1, 0, none⟩) 4 4) jS jT jW) := ⟨Arr.row (l := jS) n1 rfl (by omega), Arr.row (l := jT) n2 rfl (by omega), ArrU.row (l := jW) n3 rfl (by omega)⟩
  have hwn : ∀ e, 0 ≤ at_ jW e := fun e => by
    rcases Nat.lt_or_ge e 4 with h | h
    · revert e; decide +kernel
    · unfold at_; rw [List.getElem?_eq_none (by exact h)]; decide
  have HPa : Hid (Calls Try.prog 6 #[.agg #[.int .i64 4, .slice (some ⟨w.heap.size, 0, none⟩) 5 5, .slice (some ⟨w.heap.size + 1, 0, none⟩) 4 4, .slice (some ⟨w.heap.size + 1 + 1, 0, none⟩) 4 4]] V (LN V ([0, 1, 0, 2], 0))) := by show Calls _ _ _ _ _; rw [← j_prt]; exact parts_any 4 _ _ _ jS jT jW V HG.out (by decide) (by decide) (by decide) hwn
  clear n1 n2 n3 n5 hwn HG
  go_enter Try.func5, Try.ntmps5
  go_wp2_with fail
  rw [← hV]
  clear hV
  refine HPa.out.mono ?_
  rintro e w1 ⟨v1, rfl, hr1, hb⟩
  have HBX := hide (below_on HB0.out hb)
  have HR1 := hide hr1
  obtain ⟨⟨n1, n2, n3⟩, n5⟩ := three_newL w1 #[.int .i64 0, .int .i64 2, .int .i64 2, .int .i64 3] #[.int .i64 1, .int .i64 2, .int .i64 1] #[.int .u64 5, .int .u64 1, .int .u64 2] 3 3 46
  obtain ⟨U, hU⟩ : ∃ U, U = ((w1.alloc (.cells #[.int .i64 0, .int .i64 2, .int .i64 2, .int .i64 3] 3)).alloc (.cells #[.int .i64 1, .int .i64 2, .int .i64 1] 3)).alloc (.cells #[.int .u64 5, .int .u64 1, .int .u64 2] 46) := ⟨_, rfl⟩
  rw [← hU] at n1 n2 n3 n5
  have HG : Hid (GIs U 3 (.slice (some ⟨w1.heap.size, 0, none⟩) 4 4) (.slice (some ⟨w1.heap.size + 1, 0, none⟩) 3 3) (.slice (some ⟨w1.heap.size + 1 + 1, 0, none⟩) 3 3) iS iT iW) := ⟨Arr.row (l := iS) n1 rfl (by omega), Arr.row (l := iT) n2 rfl (by omega), ArrU.row (l := iW) n3 rfl (by omega)⟩
  have HOr : Hid (Calls Try.prog 9 #[.agg #[.int .i64 3, .slice (some ⟨w1.heap.size, 0, none⟩) 4 4, .slice (some ⟨w1.heap.size + 1, 0, none⟩) 3 3, .slice (some ⟨w1.heap.size + 1 + 1, 0, none⟩) 3 3]] U (LN U ([0, 2, 1], 0))) := by show Calls _ _ _ _ _; rw [← i_ord]; exact ord_any 3 _ _ _ iS iT iW U HG.out (by decide) (by decide) (by decide)
  replace HBX := hide (below_on HBX.out n5)
  replace HR1 := hide (HR1.out.below n5)
  clear n1 n2 n3 n5 HG hr1 hb HPa HB0
  go_wp2_with fail
  rw [← hU]
  clear hU
  refine HOr.out.mono ?_
  rintro e w2 ⟨v2, rfl, hr2, hb⟩
  replace HBX := hide (below_on HBX.out hb)
  have hb2 := below_alloc (Below.refl w2.heap.size w2) (.cells #[.int .i64 0, .int .i64 1, .int .i64 0, .int .i64 2] 3)
  have HS1 : Hid (Calls Try.prog 11 #[v1, .slice (some ⟨w2.heap.size, 0, none⟩) 4 4] (w2.alloc (.cells #[.int .i64 0, .int .i64 1, .int .i64 0, .int .i64 2] 3)) fun e w' => e = .returned (.bool true) ∧ Below (w2.alloc (.cells #[.int .i64 0, .int .i64 1, .int .i64 0, .int .i64 2] 3)).heap.size (w2.alloc (.cells #[.int .i64 0, .int .i64 1, .int .i64 0, .int .i64 2] 3)) w') := lawSame_eq v1 _ [0, 1, 0, 2] _ ((HR1.out.below hb).below hb2) (row_lit (l := [0, 1, 0, 2]) (heap_new _ _) (by decide))
  have HR2 := hide (hr2.below hb2)
  replace HBX := hide (below_on HBX.out hb2)
  clear hb hr2 hb2 HOr HR1
  go_wp2_with fail
  refine HS1.out.mono ?_
  rintro e w3 ⟨rfl, hb⟩
  replace HBX := hide (below_on HBX.out hb)
  have hb3 := below_alloc (Below.refl w3.heap.size w3) (.cells #[.int .i64 0, .int .i64 2, .int .i64 1] 3)
  have HS2 : Hid (Calls Try.prog 11 #[v2, .slice (some ⟨w3.heap.size, 0, none⟩) 3 3] (w3.alloc (.cells #[.int .i64 0, .int .i64 2, .int .i64 1] 3)) fun e w' => e = .returned (.bool true) ∧ Below (w3.alloc (.cells #[.int .i64 0, .int .i64 2, .int .i64 1] 3)).heap.size (w3.alloc (.cells #[.int .i64 0, .int .i64 2, .int .i64 1] 3)) w') := lawSame_eq v2 _ [0, 2, 1] _ ((HR2.out.below hb).below hb3) (row_lit (l := [0, 2, 1]) (heap_new _ _) (by decide))
  replace HBX := hide (below_on HBX.out hb3)
  clear hb hb3 HS1 HR2
  go_wp2_with fail
  refine HS2.out.mono ?_
  rintro e w4 ⟨rfl, hb⟩
  go_wp2_with fail
  go_ret
  exact ⟨rfl, below_on HBX.out hb⟩
end Go.Proofs.Ytiohimbifjlfdaa

/- graph.Edges: the edges in order, listed. -/
namespace Go.Proofs.Ytiohimbifjlfdaa
open Go.RowKit Go.Lib Go.Shelf
set_option linter.unusedVariables false
attribute [local go_sem] Oper.semAt_some
/-- The e-th edge of a graph. -/
def edgeAt (n : Nat) (st tl wt : List Int) (e : Nat) : Int × Int × Int := ((src st n e : Nat), at_ tl e, at_ wt e)
theorem three_cells (w : World) (x0 x1 x2 : Value) (t : TypeId) : ∀ j u, [x0, x1, x2][j]? = some u → (w.alloc (.cells #[x0, x1, x2] t)).cell? ((⟨w.heap.size, 0, none⟩ : Addr).add j) = some u := by
  intro j u hj
  have hh : (w.alloc (.cells #[x0, x1, x2] t)).heap[w.heap.size]? = some (.cells #[x0, x1, x2] t (0, 0)) := heap_new _ _
  rw [Addr.add_lit]
  match j, hj with
  | 0, hj => simp at hj; subst hj; exact cell_of hh rfl
  | 1, hj => simp at hj; subst hj; exact cell_of hh rfl
  | 2, hj => simp at hj; subst hj; exact cell_of hh rfl
theorem info_parts3 {o : Option TypeInfo} {a : Option Value} {b c : Nat} (h : o.map (fun i => (i.zero, i.size, i.bytes)) = some (a, b, c)) : ∃ i, o = some i ∧ i.zero = a ∧ i.size = b ∧ i.bytes = c := by
  obtain ⟨i, hi, hz⟩ := Option.map_eq_some_iff.1 h
  simp only [Prod.mk.injEq] at hz
  exact ⟨i, hi, hz⟩
theorem Try.infoE : (Try.prog.info? 48).map (fun i => (i.zero, i.size, i.bytes)) = some (some (.agg #[.int .i64 0, .int .i64 0, .int .u64 0]), 3, 24) := by kernel_rfl
/-- Rows in memory abide turns of what is no cells. -/
theorem own_kept {X Y : World} {row : Option Nat} {base : Nat} {t : TypeId} {sz R k cap : Nat} {xs : List Value} (h : X.ownsRow base t sz (.slice (some ⟨R, 0, none⟩) k cap) k xs) (hg : X.grownBy Y row) (hr : ∀ r, row = some r → ∃ o : Obj, X.heap[r]? = some o ∧ o.isCells = false) : Y.ownsRow base t sz (.slice (some ⟨R, 0, none⟩) k cap) k xs := by
  obtain ⟨h1, ⟨h2, _⟩ | ⟨g, c, cur, hv, hb, hh, r1⟩⟩ := h
  · cases h2
  · cases hv
    exact ⟨h1, .inr ⟨R, cap, cur, rfl, hb, box_kept hh hg hr, r1⟩⟩
theorem own_same {X Y : World} {base : Nat} {t : TypeId} {sz R k cap : Nat} {xs : List Value} (h : X.ownsRow base t sz (.slice (some ⟨R, 0, none⟩) k cap) k xs) (hs : Y.heap[R]? = X.heap[R]?) : Y.ownsRow base t sz (.slice (some ⟨R, 0, none⟩) k cap) k xs := by
  obtain ⟨h1, ⟨h2, _⟩ | ⟨g, c, cur, hv, hb, hh, r1⟩⟩ := h
  · cases h2
  · cases hv
    exact ⟨h1, .inr ⟨R, cap, cur, rfl, hb, hs.trans hh, r1⟩⟩
theorem own_lt3 {X : World} {base : Nat} {t : TypeId} {sz R k cap : Nat} {xs : List Value} (h : X.ownsRow base t sz (.slice (some ⟨R, 0, none⟩) k cap) k xs) : R < X.heap.size ∧ base ≤ R := by
  obtain ⟨h1, ⟨h2, _⟩ | ⟨g, c, cur, hv, hb, hh, r1⟩⟩ := h
  · cases h2
  · cases hv
    exact ⟨lt_of_heap hh, hb⟩
end Go.Proofs.Ytiohimbifjlfdaa

/- graph.edges: its function goes through all edges, row by row. -/
namespace Go.Proofs.Ytiohimbifjlfdaa
open Go.RowKit Go.Lib Go.Shelf
set_option linter.unusedVariables false
attribute [local go_sem] Oper.semAt_some

end Go.Proofs.Ytiohimbifjlfdaa

/- graph.listed, graph.Edges: all edges, row by row. -/
namespace Go.Proofs.Ytiohimbifjlfdaa
open Go.RowKit Go.Lib
set_option linter.unusedVariables false

def eObj (m : Nat) : Obj := .cells (madeCells (Value.agg #[.int .i64 0, .int .i64 0, .int .u64 0]).cells (m * 3)) 48
theorem run_makeE (m : Nat) (hm : m ≤ 4194304) (w : World) :
    (Instr.makeSlice 22 (.int .i64 0) (.int .i64 m)).run Try.prog w = .ok (.slice (some ⟨w.heap.size, 0, none⟩) 0 m) (w.alloc (eObj m)) := by
  obtain ⟨i0, hi, hz0, hz1, hz2⟩ := info_parts Try.infoE
  have h := run_make (P := Try.prog) w 22 48 i0 (.agg #[.int .i64 0, .int .i64 0, .int .u64 0]) Try.underlying22 hi hz0 .i64 .i64 0 m (by omega) (by omega) (by rw [hz2]; omega) (by omega)
  rw [hz1] at h
  simp only [Int.toNat_natCast] at h
  exact h
theorem made_owns {X : World} {R m base : Nat} (h : X.heap[R]? = some (eObj m)) (hb : base ≤ R) (hm : m ≤ 4194304) : X.ownsRow base 48 3 (.slice (some ⟨R, 0, none⟩) 0 m) 0 [] :=
  ⟨by simp, .inr ⟨R, m, _, rfl, hb, h, Nat.zero_le _, by unfold maxLen; omega, by simp [madeCells], by simp⟩⟩
theorem three_new (w : World) (a b c : Array Value) (r s t : TypeId) : (((w.alloc (.cells a r)).alloc (.cells b s)).alloc (.cells c t)).drew.heap[w.heap.size]? = some (.cells a r (0, 0)) ∧ (((w.alloc (.cells a r)).alloc (.cells b s)).alloc (.cells c t)).drew.heap[w.heap.size + 1]? = some (.cells b s (0, 0)) ∧ (((w.alloc (.cells a r)).alloc (.cells b s)).alloc (.cells c t)).drew.heap[w.heap.size + 1 + 1]? = some (.cells c t (0, 0)) ∧ Below w.heap.size w (((w.alloc (.cells a r)).alloc (.cells b s)).alloc (.cells c t)).drew := by
  refine ⟨?_, ?_, ?_, below_drew (below_alloc (below_alloc (below_alloc (Below.refl _ _) _) _) _)⟩
  · exact (Below.heap_alloc _ _ _ (by simp; omega)).trans ((Below.heap_alloc _ _ _ (by simp)).trans (heap_new _ _))
  · have := heap_new (w.alloc (.cells a r)) (.cells b s)
    rw [World.size_alloc] at this
    exact (Below.heap_alloc _ _ _ (by simp)).trans this
  · have := heap_new ((w.alloc (.cells a r)).alloc (.cells b s)) (.cells c t)
    rw [World.size_alloc, World.size_alloc] at this
    exact this
end Go.Proofs.Ytiohimbifjlfdaa

/- graph.Edges of a graph. -/
namespace Go.Proofs.Ytiohimbifjlfdaa
open Go.RowKit Go.Lib
set_option linter.unusedVariables false
structure ME (w x : World) (N : Int) (va vb vc : Value) : Prop where
  bg : x.heap[w.heap.size]? = some (.cells #[.int .i64 N, va, vb, vc] 28 (0, 0))
  rs : x.heap[w.heap.size + 1]? = some (.cells #[.int .i64 0, .slice none 0 0] 24 (0, 0))
  bel : Below w.heap.size w x
theorem ME.start (w : World) (N : Int) (va vb vc : Value) : ME w ((w.alloc (.cells #[.int .i64 N, va, vb, vc] 28)).alloc (.cells #[.int .i64 0, .slice none 0 0] 24)) N va vb vc := by
  have hs : (w.alloc (.cells #[.int .i64 N, va, vb, vc] 28)).heap.size = w.heap.size + 1 := by simp
  refine ⟨?_, ?_, below_alloc (below_alloc (Below.refl _ _) _) _⟩
  · exact (Below.heap_alloc _ _ _ (by rw [hs]; omega)).trans (heap_new _ _)
  · have := heap_new (w.alloc (.cells #[.int .i64 N, va, vb, vc] 28)) (.cells #[.int .i64 0, .slice none 0 0] 24)
    rw [hs] at this; exact this
theorem ME.below {w x x' : World} {N : Int} {va vb vc : Value} (h : ME w x N va vb vc) (hb : Below x.heap.size x x') : ME w x' N va vb vc :=
  ⟨(hb.block _ (lt_of_heap h.bg)).trans h.bg, (hb.block _ (lt_of_heap h.rs)).trans h.rs, below_on h.bel hb⟩
theorem ME.drew {w x : World} {N : Int} {va vb vc : Value} (h : ME w x N va vb vc) : ME w x.drew N va vb vc := h.below (below_drew (Below.refl _ _))
theorem ME.put {w x : World} {N : Int} {va vb vc : Value} (h : ME w x N va vb vc) (y0 y1 : Value) :
    ((x.setCell ⟨w.heap.size + 1, 0, none⟩ y0).setCell ⟨w.heap.size + 1, 1, none⟩ y1).heap[w.heap.size + 1]? = some (.cells #[y0, y1] 24 (0, 0)) ∧
    Below w.heap.size w ((x.setCell ⟨w.heap.size + 1, 0, none⟩ y0).setCell ⟨w.heap.size + 1, 1, none⟩ y1) ∧
    ∀ k i, k ≠ w.heap.size + 1 → ((x.setCell ⟨w.heap.size + 1, 0, none⟩ y0).setCell ⟨w.heap.size + 1, 1, none⟩ y1).cell? ⟨k, i, none⟩ = x.cell? ⟨k, i, none⟩ := by
  refine ⟨by rw [heap_set (heap_set h.rs _) _]; rfl, ?_, fun k i hk => ?_⟩
  · exact (h.bel.setCell (p := ⟨w.heap.size + 1, 0, none⟩) (by simp) _).setCell (p := ⟨w.heap.size + 1, 1, none⟩) (by simp) _
  · have e : ((x.setCell ⟨w.heap.size + 1, 0, none⟩ y0).setCell ⟨w.heap.size + 1, 1, none⟩ y1).heap[k]? = x.heap[k]? := by
      rw [Below.heap_setCell _ _ _ _ (by exact hk), Below.heap_setCell _ _ _ _ (by exact hk)]
    simp only [World.cell?, e]
theorem EAt.cells {w w' : World} {R c : Nat} {l : List Ed3} (h : EAt w (.slice (some ⟨R, 0, none⟩) l.length c) l) (hs : ∀ i, w'.cell? ⟨R, i, none⟩ = w.cell? ⟨R, i, none⟩) : EAt w' (.slice (some ⟨R, 0, none⟩) l.length c) l := by
  obtain ⟨ao, c', hv, h1, h2, h3⟩ := h
  cases hv
  refine ⟨_, c, rfl, h1, h2, fun i hi => ?_⟩
  obtain ⟨g, o, he, p, q, r⟩ := h3 i hi
  cases he
  exact ⟨R, 0, rfl, (hs _).trans p, (hs _).trans q, (hs _).trans r⟩
def EdgesW (w : World) (n : Nat) (st tl wt : List Int) (e : Ending) (w' : World) : Prop :=
  ∃ R, e = .returned (.tuple #[.agg #[.int .i64 n, .slice (some ⟨R, 0, none⟩) tl.length tl.length], .int .i64 0]) ∧ EAt w' (.slice (some ⟨R, 0, none⟩) tl.length tl.length) (upto (edgeAt n st tl wt) tl.length) ∧ Below w.heap.size w w' ∧ w.heap.size ≤ R
end Go.Proofs.Ytiohimbifjlfdaa

/- The law's longest: one more than the greatest ahead, along the edges. -/
namespace Go.Proofs.Ytiohimbifjlfdaa
open Go.RowKit Go.Lib
set_option linter.unusedVariables false
set_option linter.unusedSimpArgs false
def bstL (dl : List Int) (l : List Ed3) (n : Nat) : Nat → List Int
  | 0 => tab n (fun _ => 0)
  | i + 1 => if at_ (bstL dl l n i) (eTo l i) < at_ dl (eFrom l i) + 1 then (bstL dl l n i).set (eTo l i) (at_ dl (eFrom l i) + 1) else bstL dl l n i
theorem bstL_len (dl : List Int) (l : List Ed3) (n i : Nat) : (bstL dl l n i).length = n := by
  induction i with
  | zero => exact tab_length _ _
  | succ i ih =>
    unfold bstL
    split
    · rw [List.length_set]; exact ih
    · exact ih
structure FB (w wr : World) (gb : Array Value) (A : Nat) (L : List Int) : Prop where
  bel : Below w.heap.size w wr
  box : wr.heap[w.heap.size]? = some (.cells gb 24 (0, 0))
  arr : Arr wr A L
  lt : w.heap.size < A
section
variable {w wr X : World} {gb : Array Value} {A : Nat} {L : List Int}
theorem FB.on (h : FB w wr gb A L) (hb : Below wr.heap.size wr X) : FB w X gb A L := ⟨below_on h.bel hb, (hb.block _ (lt_of_heap h.box)).trans h.box, (hb.block _ (lt_of_heap h.arr)).trans h.arr, h.lt⟩
theorem FB.put (h : FB w wr gb A L) (i : Nat) (x : Int) : FB w (wr.setCell ⟨A, i, none⟩ (.int .i64 x)) gb A (L.set i x) := by
  have hwA := h.lt
  have hc : Chg (fun k => k = A) wr (wr.setCell ⟨A, i, none⟩ (.int .i64 x)) := (Chg.refl (fun k => k = A) wr).setCell (p := ⟨A, i, none⟩) rfl _
  exact ⟨Chg.below h.bel hc (fun k hk => by omega) h.bel.size, hc.heap h.box (by omega), h.arr.put i x, hwA⟩
end
end Go.Proofs.Ytiohimbifjlfdaa

/- The law's circle: a circle, edge by edge. -/
namespace Go.Proofs.Ytiohimbifjlfdaa
open Go.RowKit Go.Lib
set_option linter.unusedVariables false
set_option linter.unusedSimpArgs false
/-- Which sources have been seen. -/
def sn (st c : List Int) (n k x : Nat) : Bool := (List.range k).any (fun j => decide (src st n (at_ c j).toNat = x))
theorem sn_zero (st c : List Int) (n : Nat) : sn st c n 0 = fun _ => false := funext fun x => by simp [sn]
theorem sn_next {st c : List Int} {n k a : Nat} (h : src st n (at_ c k).toNat = a) : (fun x => if x = a then true else sn st c n k x) = sn st c n (k + 1) := funext fun x => by
  simp only [sn, List.range_succ, List.any_append, List.any_cons, List.any_nil, Bool.or_false]
  by_cases e : x = a
  · rw [if_pos e, h, e]; simp
  · rw [if_neg e, h, decide_eq_false (fun h => e h.symm)]; simp
theorem sn_not {st tl c : List Int} {n k : Nat} (h : Ci n st tl c) (hk : k < c.length) : sn st c n k (src st n (at_ c k).toNat) = false := by
  rw [← Bool.not_eq_true]
  intro h2
  simp only [sn, List.any_eq_true, List.mem_range, decide_eq_true_eq] at h2
  obtain ⟨j, h3, h4⟩ := h2
  have := h.apart j k (by omega) hk h4
  omega
theorem eAt_upto (f : Nat → Ed3) (m i : Nat) (h : i < m) : eAt (upto f m) i = f i := by simp [eAt, upto, h]
structure FC (w wr : World) (gb : Array Value) (C n : Nat) (K : Nat → Bool) : Prop where
  bel : Below w.heap.size w wr
  box : wr.heap[w.heap.size]? = some (.cells gb 24 (0, 0))
  car : BArr wr C (btab n K)
  lt : w.heap.size < C
section
variable {w wr X : World} {gb : Array Value} {C n : Nat} {K : Nat → Bool}
theorem FC.on (h : FC w wr gb C n K) (hb : Below wr.heap.size wr X) : FC w X gb C n K := ⟨below_on h.bel hb, (hb.block _ (lt_of_heap h.box)).trans h.box, (hb.block _ (lt_of_heap h.car)).trans h.car, h.lt⟩
theorem FC.put (h : FC w wr gb C n K) (i : Nat) (b : Bool) : FC w (wr.setCell ⟨C, i, none⟩ (.bool b)) gb C n (fun v => if v = i then b else K v) := by
  have hwA := h.lt
  have hc : Chg (fun k => k = C) wr (wr.setCell ⟨C, i, none⟩ (.bool b)) := (Chg.refl (fun k => k = C) wr).setCell (p := ⟨C, i, none⟩) rfl _
  exact ⟨Chg.below h.bel hc (fun k hk => by omega) h.bel.size, hc.heap h.box (by omega), h.car.put i b, hwA⟩
end
end Go.Proofs.Ytiohimbifjlfdaa

/- The law's forward, plainly. -/
namespace Go.Proofs.Ytiohimbifjlfdaa
open Go.RowKit Go.Lib
set_option linter.unusedVariables false
set_option linter.unusedSimpArgs false
structure Fwd (n : Nat) (st tl o : List Int) (P : Nat → Nat) : Prop where
  len : o.length = n
  rng : ∀ i, i < n → ∃ v : Nat, at_ o i = (v : Int) ∧ v < n ∧ P v = i
  pos : ∀ v, v < n → P v < n ∧ at_ o (P v) = (v : Int)
  edge : ∀ e, e < tl.length → P (src st n e) < P (tN tl e)
  prev : ∀ i, 1 ≤ i → i < n → at_ o i < at_ o (i - 1) → ∃ e, e < tl.length ∧ (src st n e : Int) = at_ o (i - 1) ∧ at_ tl e = at_ o i
theorem cn_pos {tl : List Int} {D : Nat → Bool} {u : Int} (h : cn tl D u ≠ 0) : ∃ e, e < tl.length ∧ at_ tl e = u ∧ D e = false := by
  have h1 : 0 < (List.range tl.length).countP (fun e => decide (at_ tl e = u) && !D e) := Nat.pos_of_ne_zero h
  rw [List.countP_pos_iff] at h1
  obtain ⟨e, he, h2⟩ := h1
  simp at h2
  exact ⟨e, by simpa using he, h2.1, h2.2⟩
theorem cn_none {tl : List Int} {D : Nat → Bool} {u : Int} (h : cn tl D u = 0) : ∀ e, e < tl.length → at_ tl e = u → D e = true := by
  intro e he h1
  have h2 : (List.range tl.length).countP (fun e => decide (at_ tl e = u) && !D e) = 0 := h
  rw [List.countP_eq_zero] at h2
  have := h2 e (by simpa using he)
  simp [h1] at this
  exact this
theorem split_at (o : List Int) (i : Nat) (hi : i < o.length) : o = o.take i ++ at_ o i :: o.drop (i + 1) := by
  have : at_ o i = o[i] := by unfold at_; rw [List.getElem?_eq_getElem hi]; rfl
  rw [this, ← List.drop_eq_getElem_cons hi, List.take_append_drop]
theorem fwd_of {n : Nat} {st tl wt o : List Int} (hg : Good n st tl wt) (h : Sq n st tl o) (hl : o.length = n) : ∃ P, Fwd n st tl o P := by
  obtain ⟨hr, hnd⟩ := Sq.rng n st tl h
  have hat : ∀ i, i < n → at_ o i ∈ o := fun i hi => at_mem (by omega)
  have hinj : ∀ i j, i < n → j < n → at_ o i = at_ o j → i = j := by
    intro i j hi hj e
    have h1 : at_ o i = o[i]'(by omega) := by unfold at_; rw [List.getElem?_eq_getElem (by omega)]; rfl
    have h2 : at_ o j = o[j]'(by omega) := by unfold at_; rw [List.getElem?_eq_getElem (by omega)]; rfl
    rw [h1, h2] at e
    exact (List.getElem_inj hnd).1 e
  have hsur : ∀ v, v < n → ∃ i, i < n ∧ at_ o i = (v : Int) := by
    intro v hv
    obtain ⟨i, hi, he⟩ := inj_surj n (fun i => (at_ o i).toNat) (fun i hi => by have := hr _ (hat i hi); omega) (fun i j hi hj e => by
      have h1 := hr _ (hat i hi); have h2 := hr _ (hat j hj)
      exact hinj i j hi hj (by omega)) v hv
    have := hr _ (hat i hi)
    exact ⟨i, hi, by omega⟩
  have hP : ∃ P : Nat → Nat, ∀ v, v < n → P v < n ∧ at_ o (P v) = (v : Int) := by
    refine ⟨fun v => if hv : v < n then (hsur v hv).choose else 0, fun v hv => ?_⟩
    simp only [dif_pos hv]
    exact (hsur v hv).choose_spec
  obtain ⟨P, hP⟩ := hP
  have hsp : ∀ i, i < n → Rdy n tl (dn n st (o.take i)) (o.take i) (at_ o i) ∧ ∀ v, Rdy n tl (dn n st (o.take i)) (o.take i) v → at_ o i ≤ v := fun i hi => by
    have h1 := h
    rw [split_at o i (by omega), show o.take i ++ at_ o i :: o.drop (i + 1) = (o.take i ++ [at_ o i]) ++ o.drop (i + 1) by simp] at h1
    exact Sq.last n st tl (Sq.front n st tl h1)
  have hmt : ∀ i, i ≤ n → ∀ x, x ∈ o.take i → ∃ j, j < i ∧ at_ o j = x := by
    intro i hi x hx
    obtain ⟨j, hj, e⟩ := List.mem_iff_getElem.1 hx
    rw [List.length_take] at hj
    refine ⟨j, by omega, ?_⟩
    rw [← e, List.getElem_take]
    unfold at_; rw [List.getElem?_eq_getElem (by omega)]; rfl
  refine ⟨P, hl, ?_, hP, ?_, ?_⟩
  · intro i hi
    have h1 := hr _ (hat i hi)
    refine ⟨(at_ o i).toNat, by omega, by omega, ?_⟩
    have h2 := hP (at_ o i).toNat (by omega)
    exact hinj _ _ h2.1 hi (by rw [h2.2]; omega)
  · intro e he
    have hs := src_lt hg he
    have ht := hg.vtx e he
    have htn : tN tl e < n := by unfold tN; omega
    obtain ⟨p1, p2⟩ := hP _ htn
    obtain ⟨q1, q2⟩ := hP _ hs
    have h1 := cn_none (hsp (P (tN tl e)) p1).1.2.2 e he (by rw [p2]; unfold tN; omega)
    have h2 : (src st n e : Int) ∈ o.take (P (tN tl e)) := by simpa [dn] using h1
    obtain ⟨j, hj, hj2⟩ := hmt _ (by omega) _ h2
    have := hinj _ _ q1 (by omega) (q2.trans hj2.symm)
    omega
  · intro i h1 h2 h3
    have k1 := hsp (i - 1) (by omega)
    have k2 := hsp i h2
    have hnr : ¬ Rdy n tl (dn n st (o.take (i - 1))) (o.take (i - 1)) (at_ o i) := fun hc => by have := k1.2 _ hc; omega
    have hni : ¬ at_ o i ∈ o.take (i - 1) := fun hc => by
      obtain ⟨j, hj, e⟩ := hmt _ (by omega) _ hc
      have := hinj j i (by omega) h2 e
      omega
    have hcn : cn tl (dn n st (o.take (i - 1))) (at_ o i) ≠ 0 := fun hc => hnr ⟨hr _ (hat i h2), hni, hc⟩
    obtain ⟨e, he, e1, e2⟩ := cn_pos hcn
    refine ⟨e, he, ?_, e1⟩
    have h4 := cn_none k2.1.2.2 e he e1
    have h5 : (src st n e : Int) ∈ o.take i := by simpa [dn] using h4
    have h6 : ¬ (src st n e : Int) ∈ o.take (i - 1) := by simpa [dn] using e2
    obtain ⟨j, hj, e3⟩ := hmt _ (by omega) _ h5
    have : j = i - 1 := by
      rcases Nat.lt_or_ge j (i - 1) with hj2 | hj2
      · exfalso
        refine h6 ?_
        rw [← e3]
        have : at_ o j = o[j]'(by omega) := by unfold at_; rw [List.getElem?_eq_getElem (by omega)]; rfl
        rw [this]
        exact List.mem_take_iff_getElem.2 ⟨j, by omega, rfl⟩
      · omega
    rw [← this]; exact e3.symm
def laL (P : Nat → Nat) (n : Nat) (st tl : List Int) : Nat → List Int
  | 0 => tab n (fun _ => -1)
  | i + 1 => if at_ (laL P n st tl i) (tN tl i) < (P (src st n i) : Int) then (laL P n st tl i).set (tN tl i) (P (src st n i) : Int) else laL P n st tl i
theorem laL_len (P : Nat → Nat) (n : Nat) (st tl : List Int) (i : Nat) : (laL P n st tl i).length = n := by
  induction i with
  | zero => exact tab_length _ _
  | succ i ih =>
    unfold laL
    split
    · rw [List.length_set]; exact ih
    · exact ih
theorem laL_ge {n : Nat} {st tl wt : List Int} (hg : Good n st tl wt) (P : Nat → Nat) : ∀ i, i ≤ tl.length → ∀ e, e < i → (P (src st n e) : Int) ≤ at_ (laL P n st tl i) (tN tl e) := by
  intro i
  induction i with
  | zero => intro _ e he; omega
  | succ i ih =>
    intro hi e he
    have ht := hg.vtx i (by omega)
    have htn : tN tl i < (laL P n st tl i).length := by rw [laL_len]; unfold tN; omega
    unfold laL
    rcases Nat.lt_or_ge e i with h1 | h1
    · have := ih (by omega) e h1
      split
      · rename_i hlt
        rw [at_set _ _ _ _ htn]
        split
        · rename_i heq
          rw [heq] at this
          omega
        · exact this
      · exact this
    · have : e = i := by omega
      subst this
      split
      · rw [at_set _ _ _ _ htn, if_pos rfl]; exact Int.le_refl _
      · omega
def negL (n k : Nat) : List Int := tab n (fun v => if v < k then -1 else 0)
theorem negL_zero (n : Nat) : negL n 0 = tab n (fun _ => 0) := tab_congr fun v _ => if_neg (by omega)
theorem negL_all (n : Nat) : negL n n = tab n (fun _ => -1) := tab_congr fun v hv => if_pos hv
theorem negL_set (n k : Nat) : (negL n k).set k (-1) = negL n (k + 1) := by
  unfold negL
  rw [tab_set]
  refine tab_congr fun v hv => ?_
  by_cases h1 : v = k
  · rw [if_pos h1, if_pos (by omega)]
  · rw [if_neg h1]
    by_cases h2 : v < k
    · rw [if_pos h2, if_pos (by omega)]
    · rw [if_neg h2, if_neg (by omega)]
def atL (P : Nat → Nat) (n i : Nat) : List Int := tab n (fun v => if P v < i then (P v : Int) else -1)
theorem atL_zero (P : Nat → Nat) (n : Nat) : atL P n 0 = tab n (fun _ => -1) := tab_congr fun v _ => if_neg (by omega)
theorem atL_all {P : Nat → Nat} {n : Nat} (h : ∀ v, v < n → P v < n) : atL P n n = tab n (fun v => (P v : Int)) := tab_congr fun v hv => if_pos (h v hv)
theorem atL_set {P : Nat → Nat} {n i q : Nat} (hq : P q = i) (hu : ∀ v, v < n → P v = i → v = q) : (atL P n i).set q (i : Int) = atL P n (i + 1) := by
  unfold atL
  rw [tab_set]
  refine tab_congr fun v hv => ?_
  by_cases h1 : v = q
  · rw [if_pos h1, h1, if_pos (by omega), hq]
  · rw [if_neg h1]
    have : P v ≠ i := fun e => h1 (hu v hv e)
    by_cases h2 : P v < i
    · rw [if_pos h2, if_pos (by omega)]
    · rw [if_neg h2, if_neg (by omega)]
structure F2 (w wr : World) (gb : Array Value) (A : Nat) (LA : List Int) (B : Nat) (LB : List Int) : Prop where
  f : FB w wr gb A LA
  arr : Arr wr B LB
  AB : A < B
section
variable {w wr X : World} {gb : Array Value} {A B : Nat} {LA LB : List Int}
theorem F2.on (h : F2 w wr gb A LA B LB) (hb : Below wr.heap.size wr X) : F2 w X gb A LA B LB := ⟨h.f.on hb, (hb.block _ (lt_of_heap h.arr)).trans h.arr, h.AB⟩
theorem F2.put (h : F2 w wr gb A LA B LB) (i : Nat) (x : Int) : F2 w (wr.setCell ⟨B, i, none⟩ (.int .i64 x)) gb A LA B (LB.set i x) := by
  have hwA := h.f.lt; have hAB := h.AB
  have hc : Chg (fun k => k = B) wr (wr.setCell ⟨B, i, none⟩ (.int .i64 x)) := (Chg.refl (fun k => k = B) wr).setCell (p := ⟨B, i, none⟩) rfl _
  exact ⟨⟨Chg.below h.f.bel hc (fun k hk => by omega) h.f.bel.size, hc.heap h.f.box (by omega), hc.heap h.f.arr (by omega), hwA⟩, h.arr.put i x, hAB⟩
end
end Go.Proofs.Ytiohimbifjlfdaa

/- StrongForward, plainly: a circle is, just if a part has two vertices or an edge goes from a vertex to itself. -/
namespace Go.Proofs.Ytiohimbifjlfdaa
open Go.RowKit Go.Lib
set_option linter.unusedVariables false
set_option linter.unusedSimpArgs false
theorem cntL_less {B : Nat → Nat → Prop} {v : Nat} (h : lea B v ≠ v) : ∀ k, v + 1 ≤ k → cntL B k < k := by
  intro k
  induction k with
  | zero => intro h; omega
  | succ k ih =>
    intro hk
    rw [cntL_succ]
    rcases Nat.lt_or_ge v k with h1 | h1
    · have := ih (by omega)
      split <;> omega
    · have : k = v := by omega
      subst this
      rw [if_neg h]
      have := cntL_le (B := B) k
      omega
theorem cntL_full {B : Nat → Nat → Prop} {n : Nat} (h : ∀ v, v < n → lea B v = v) : ∀ k, k ≤ n → cntL B k = k := by
  intro k
  induction k with
  | zero => intro _; have := cntL_le (B := B) 0; omega
  | succ k ih => intro hk; rw [cntL_succ, ih (by omega), if_pos (h k (by omega))]
theorem ci_two {n : Nat} {st tl wt c : List Int} (hg : Good n st tl wt) (hc : Ci n st tl c) : cntL (BG n st tl) n < n ∨ ∃ e, e < tl.length ∧ src st n e = tN tl e := by
  have hk := hc.pos
  obtain ⟨S, hS⟩ : ∃ S : Nat → Nat, ∀ a, S a = src st n (at_ c (a % c.length)).toNat := ⟨_, fun _ => rfl⟩
  have hE : ∀ a, EE n (sN st) (tN tl) (S a) (S (a + 1)) := by
    intro a
    obtain ⟨e, h1, h2⟩ := hc.edge (a % c.length) (Nat.mod_lt _ hk)
    have h3 := hc.next (a % c.length) (Nat.mod_lt _ hk)
    rw [h1, Int.toNat_natCast] at h3
    rw [hS, hS, ee_iff hg, h1, Int.toNat_natCast]
    refine ⟨e, h2, rfl, ?_⟩
    unfold tN
    rw [h3, Nat.mod_add_mod]
    exact Int.toNat_natCast _
  have hR : ∀ d a, Rc (EE n (sN st) (tN tl)) (S a) (S (a + d)) := by
    intro d
    induction d with
    | zero => intro a; exact .refl _
    | succ d ih => intro a; exact (ih a).trans (.head (hE (a + d)) (.refl _))
  rcases Nat.lt_or_ge 1 c.length with h2 | h2
  · left
    have h01 : S 0 ≠ S 1 := by
      rw [hS, hS, Nat.zero_mod, Nat.mod_eq_of_lt h2]
      intro e
      have := hc.apart 0 1 hk h2 e
      omega
    have hb : BG n st tl (S 0) (S 1) := by
      refine ⟨hR 1 0, ?_⟩
      have h3 := hR (c.length - 1) 1
      rw [show 1 + (c.length - 1) = c.length by omega] at h3
      have h4 : S c.length = S 0 := by rw [hS, hS, Nat.mod_self, Nat.zero_mod]
      rw [h4] at h3
      exact h3
    have hlt : ∀ a, S a < n := fun a => (hE a).1
    have key : ∀ u v, u < v → v < n → BG n st tl u v → cntL (BG n st tl) n < n := fun u v huv hv hb => by
      refine cntL_less (v := v) ?_ n (by omega)
      have := (lea_spec (Bo.eqv _) v).2.2 u hb
      intro e
      have e2 : lea (BG n st tl) v ≤ u := this
      omega
    rcases Nat.lt_or_ge (S 0) (S 1) with h3 | h3
    · exact key _ _ h3 (hlt 1) hb
    · exact key _ _ (by omega) (hlt 0) hb.symm
  · right
    obtain ⟨e, h1, h2'⟩ := hc.edge 0 hk
    have h3 := hc.next 0 hk
    rw [show (0 + 1) % c.length = 0 by rw [show c.length = 1 by omega], h1, Int.toNat_natCast] at h3
    exact ⟨e, h2', by unfold tN; rw [h3]; exact (Int.toNat_natCast _).symm⟩
theorem fwd_none {n : Nat} {st tl wt o : List Int} {P : Nat → Nat} (hg : Good n st tl wt) (h : Fwd n st tl o P) : cntL (BG n st tl) n = n ∧ ∀ e, e < tl.length → src st n e ≠ tN tl e := by
  have hE : ∀ a b, EE n (sN st) (tN tl) a b → P a < P b := by
    intro a b hab
    obtain ⟨e, he, h1, h2⟩ := (ee_iff hg).1 hab
    rw [← h1, ← h2]
    exact h.edge e he
  have hR : ∀ a b, Rc (EE n (sN st) (tN tl)) a b → a = b ∨ P a < P b := by
    intro a b hab
    induction hab with
    | refl => exact .inl rfl
    | head e _ ih =>
      have := hE _ _ e
      rcases ih with rfl | ih
      · exact .inr this
      · exact .inr (by omega)
  constructor
  · refine cntL_full (fun v hv => ?_) n (Nat.le_refl _)
    obtain ⟨h1, h2, h3⟩ := lea_spec (Bo.eqv (EE n (sN st) (tN tl))) v
    have h4 : Bo (EE n (sN st) (tN tl)) (lea (BG n st tl) v) v := h2
    rcases hR _ _ h4.1 with e | e
    · exact e
    · rcases hR _ _ h4.2 with e2 | e2
      · exact e2.symm
      · omega
  · intro e he hc
    have := h.edge e he
    rw [hc] at this
    omega
end Go.Proofs.Ytiohimbifjlfdaa

/- StrongForward, plainly: the longest ways are one more than the greatest ahead. -/
namespace Go.Proofs.Ytiohimbifjlfdaa
open Go.RowKit Go.Lib
set_option linter.unusedVariables false
set_option linter.unusedSimpArgs false
structure Mx (n : Nat) (st tl : List Int) (D : Nat → Prop) (L : List Int) (v : Nat) (x : Int) : Prop where
  up : ∀ e, e < tl.length → D e → tN tl e = v → at_ L (src st n e) + 1 ≤ x
  is : x = 0 ∨ ∃ e, e < tl.length ∧ D e ∧ tN tl e = v ∧ x = at_ L (src st n e) + 1
  nn : 0 ≤ x
section
variable {n : Nat} {st tl wt o : List Int} {P : Nat → Nat}
theorem Mx.le {D : Nat → Prop} {L : List Int} {v : Nat} {x y : Int} (h : Mx n st tl D L v x) (k : Mx n st tl D L v y) : x ≤ y := by
  rcases h.is with e | ⟨e, he, hd, ht, hx⟩
  · rw [e]; exact k.nn
  · rw [hx]; exact k.up e he hd ht
theorem Mx.one {D : Nat → Prop} {L : List Int} {v : Nat} {x y : Int} (h : Mx n st tl D L v x) (k : Mx n st tl D L v y) : x = y := by
  have := h.le k; have := k.le h; omega
theorem Mx.congr {D E : Nat → Prop} {L : List Int} {v : Nat} {x : Int} (h : Mx n st tl D L v x) (hd : ∀ e, e < tl.length → (D e ↔ E e)) : Mx n st tl E L v x :=
  ⟨fun e he h1 h2 => h.up e he ((hd e he).2 h1) h2, h.is.imp id (fun ⟨e, he, h1, h2⟩ => ⟨e, he, (hd e he).1 h1, h2⟩), h.nn⟩
/-- One more edge, e0, to a: L' is L but for a. -/
theorem Mx.more {D : Nat → Prop} {L L' : List Int} {e0 : Nat} (he0 : e0 < tl.length) (h : ∀ v, v < n → Mx n st tl D L v (at_ L' v))
    (ha : tN tl e0 < n) (hl : ∀ v, 0 ≤ at_ L v) {K K' : List Int}
    (hs : ∀ e, e < tl.length → (D e ∨ e = e0) → at_ K (src st n e) = at_ L (src st n e))
    (hK : ∀ v, v < n → at_ K' v = if v = tN tl e0 then max (at_ L' v) (at_ L (src st n e0) + 1) else at_ L' v) :
    ∀ v, v < n → Mx n st tl (fun e => D e ∨ e = e0) K v (at_ K' v) := by
  intro v hv
  have hm := h v hv
  rw [hK v hv]
  have hl0 := hl (src st n e0)
  refine ⟨?_, ?_, ?_⟩
  · intro e he hd ht
    rw [hs e he hd]
    rcases hd with hd | rfl
    · have := hm.up e he hd ht
      split <;> omega
    · rw [if_pos ht.symm]
      omega
  · by_cases hva : v = tN tl e0
    · rw [if_pos hva]
      rcases Int.le_total (at_ L (src st n e0) + 1) (at_ L' v) with hle | hle
      · rw [show max (at_ L' v) (at_ L (src st n e0) + 1) = at_ L' v by omega]
        rcases hm.is with e | ⟨e, he, hd, ht, hx⟩
        · exact .inl e
        · exact .inr ⟨e, he, .inl hd, ht, by rw [hs e he (.inl hd)]; exact hx⟩
      · rw [show max (at_ L' v) (at_ L (src st n e0) + 1) = at_ L (src st n e0) + 1 by omega]
        exact .inr ⟨e0, he0, .inr rfl, hva.symm, by rw [hs e0 he0 (.inr rfl)]⟩
    · rw [if_neg hva]
      rcases hm.is with e | ⟨e, he, hd, ht, hx⟩
      · exact .inl e
      · exact .inr ⟨e, he, .inl hd, ht, by rw [hs e he (.inl hd)]; exact hx⟩
  · have := hm.nn
    split <;> omega
theorem at_zero (n v : Nat) : at_ (tab n (fun _ => 0)) v = 0 := by
  rcases Nat.lt_or_ge v n with h | h
  · exact tab_at _ _ _ h
  · unfold at_; rw [List.getElem?_eq_none (by rw [tab_length]; exact h)]; rfl
theorem eTo_row (hg : Good n st tl wt) {i : Nat} (h : i < tl.length) : eTo (upto (edgeAt n st tl wt) tl.length) i = tN tl i ∧ eFrom (upto (edgeAt n st tl wt) tl.length) i = src st n i := by
  unfold eTo eFrom
  rw [eAt_upto _ _ _ h]
  exact ⟨rfl, by show ((src st n i : Int)).toNat = _; exact Int.toNat_natCast _⟩
theorem bstL_succ (dl : List Int) (l : List Ed3) (n i : Nat) : bstL dl l n (i + 1) = if at_ (bstL dl l n i) (eTo l i) < at_ dl (eFrom l i) + 1 then (bstL dl l n i).set (eTo l i) (at_ dl (eFrom l i) + 1) else bstL dl l n i := rfl
theorem bst_mx (hg : Good n st tl wt) (dl : List Int) (hd : ∀ v, 0 ≤ at_ dl v) : ∀ i, i ≤ tl.length → ∀ v, v < n → Mx n st tl (fun e => e < i) dl v (at_ (bstL dl (upto (edgeAt n st tl wt) tl.length) n i) v) := by
  intro i
  induction i with
  | zero =>
    intro _ v hv
    show Mx n st tl _ dl v (at_ (tab n (fun _ => 0)) v)
    rw [at_zero]
    exact ⟨fun e _ h => absurd h (by omega), .inl rfl, Int.le_refl _⟩
  | succ i ih =>
    intro hi v hv
    obtain ⟨h1, h2⟩ := eTo_row hg (i := i) (by omega)
    have ht : tN tl i < n := by have := hg.vtx i (by omega); unfold tN; omega
    have hK : ∀ v, v < n → at_ (bstL dl (upto (edgeAt n st tl wt) tl.length) n (i + 1)) v = if v = tN tl i then max (at_ (bstL dl (upto (edgeAt n st tl wt) tl.length) n i) v) (at_ dl (src st n i) + 1) else at_ (bstL dl (upto (edgeAt n st tl wt) tl.length) n i) v := by
      intro v hv
      rw [bstL_succ, h1, h2]
      split
      · rename_i hlt
        rw [at_set _ _ _ _ (by rw [bstL_len]; exact ht)]
        split
        · rename_i hva
          rw [hva]; omega
        · rfl
      · split
        · rename_i hva
          rw [hva]; omega
        · rfl
    exact (Mx.more (by omega) (ih (by omega)) ht hd (fun e _ _ => rfl) hK v hv).congr (fun e he => by omega)
theorem at_past {L : List Int} {v : Nat} (h : L.length ≤ v) : at_ L v = 0 := by unfold at_; rw [List.getElem?_eq_none h]; rfl
theorem rowL_len (tl L : List Int) (u p j : Nat) : (rowL tl L u p j).length = L.length := by
  induction j with
  | zero => rfl
  | succ j ih => show (stepL _ _ _).length = _; unfold stepL; rw [List.length_set]; exact ih
theorem row_mx (hg : Good n st tl wt) (h : Fwd n st tl o P) {i u p r : Nat} (hi : i < n) (hu : at_ o i = (u : Int)) (hun : u < n) (hPu : P u = i) (hp : at_ st u = (p : Int)) (hr : at_ st (u + 1) = (p : Int) + (r : Int)) {L : List Int} (hL : L.length = n)
    (h0 : ∀ v, v < n → Mx n st tl (fun e => P (src st n e) < i) L v (at_ L v)) :
    ∀ j, j ≤ r → ∀ v, v < n → Mx n st tl (fun e => P (src st n e) < i ∨ (src st n e = u ∧ e < p + j)) (rowL tl L u p j) v (at_ (rowL tl L u p j) v) := by
  have hrm : p + r ≤ tl.length := by have := hg.range (u + 1) (by omega); omega
  have hsp : ∀ e, e < tl.length → src st n e = u → p ≤ e := fun e he hs => by
    have := (src_spec hg he).1
    rw [hs, hp] at this
    omega
  intro j
  induction j with
  | zero =>
    intro _ v hv
    exact (h0 v hv).congr (fun e he => ⟨.inl, fun hh => hh.elim id (fun ⟨h1, h2⟩ => absurd (hsp e he h1) (by omega))⟩)
  | succ j ih =>
    intro hj v hv
    have he0 : p + j < tl.length := by omega
    have hs0 : src st n (p + j) = u := src_eq hg hun (by rw [hp]; omega) (by rw [hr]; omega)
    have ht : tN tl (p + j) < n := by have := hg.vtx (p + j) he0; unfold tN; omega
    have hfw := h.edge (p + j) he0
    rw [hs0, hPu] at hfw
    have hnn : ∀ v, 0 ≤ at_ (rowL tl L u p j) v := fun v => by
      rcases Nat.lt_or_ge v n with hv | hv
      · exact (ih (by omega) v hv).nn
      · rw [at_past (by rw [rowL_len, hL]; exact hv)]; exact Int.le_refl _
    have hset : ∀ v, at_ (rowL tl L u p (j + 1)) v = if v = tN tl (p + j) then max (at_ (rowL tl L u p j) (tN tl (p + j))) (at_ (rowL tl L u p j) u + 1) else at_ (rowL tl L u p j) v := fun v => by
      show at_ (stepL (rowL tl L u p j) u (at_ tl (p + j)).toNat) v = _
      unfold stepL
      rw [at_set _ _ _ _ (by rw [rowL_len, hL]; exact ht)]
      rfl
    refine (Mx.more he0 (ih (by omega)) ht hnn (K := rowL tl L u p (j + 1)) (K' := rowL tl L u p (j + 1)) ?_ ?_ v hv).congr ?_
    · intro e he hd
      rw [hset, if_neg]
      intro hc
      have : P (src st n e) ≤ i := by
        rcases hd with (hd | hd) | hd
        · omega
        · rw [hd.1, hPu]; exact Nat.le_refl _
        · rw [hd, hs0, hPu]; exact Nat.le_refl _
      rw [hc] at this
      omega
    · intro v hv
      rw [hset, hs0]
      split
      · rename_i hva; rw [hva]
      · rfl
    · intro e he
      constructor
      · rintro ((hd | ⟨h1, h2⟩) | rfl)
        · exact .inl hd
        · exact .inr ⟨h1, by omega⟩
        · exact .inr ⟨hs0, by omega⟩
      · rintro (hd | ⟨h1, h2⟩)
        · exact .inl (.inl hd)
        · rcases Nat.lt_or_ge e (p + j) with h3 | h3
          · exact .inl (.inr ⟨h1, h3⟩)
          · exact .inr (by omega)
theorem allL_len (n : Nat) (st tl o : List Int) (i : Nat) : (allL n st tl o i).length = n := by
  induction i with
  | zero => exact tab_length _ _
  | succ i ih => show (rowL _ _ _ _ _).length = _; rw [rowL_len]; exact ih
theorem all_mx (hg : Good n st tl wt) (h : Fwd n st tl o P) : ∀ i, i ≤ n → ∀ v, v < n → Mx n st tl (fun e => P (src st n e) < i) (allL n st tl o i) v (at_ (allL n st tl o i) v) := by
  intro i
  induction i with
  | zero =>
    intro _ v hv
    show Mx n st tl _ _ v (at_ (tab n (fun _ => 0)) v)
    rw [at_zero]
    exact ⟨fun e _ h => absurd h (by omega), .inl rfl, Int.le_refl _⟩
  | succ i ih =>
    intro hi v hv
    obtain ⟨u, hu, hun, hPu⟩ := h.rng i (by omega)
    have r1 := hg.range u (by omega); have r2 := hg.range (u + 1) (by omega); have r3 := hg.step u hun
    obtain ⟨p, hp⟩ : ∃ p : Nat, at_ st u = (p : Int) := ⟨(at_ st u).toNat, by omega⟩
    obtain ⟨r, hr⟩ : ∃ r : Nat, at_ st (u + 1) = (p : Int) + (r : Int) := ⟨(at_ st (u + 1)).toNat - p, by omega⟩
    rw [allL_succ hu hp hr]
    refine (row_mx hg h (by omega) hu hun hPu hp hr (allL_len _ _ _ _ _) (ih (by omega)) r (Nat.le_refl _) v hv).congr (fun e he => ?_)
    constructor
    · rintro (hd | ⟨h1, h2⟩)
      · omega
      · rw [h1, hPu]; omega
    · intro hd
      rcases Nat.lt_or_ge (P (src st n e)) i with h1 | h1
      · exact .inl h1
      · right
        have h2 : P (src st n e) = i := by omega
        have h3 := (h.pos _ (src_lt hg he)).2
        rw [h2, hu] at h3
        have h4 : src st n e = u := by omega
        have h5 := (src_spec hg he).2
        rw [h4, hr] at h5
        exact ⟨h4, by omega⟩
theorem all_bd (hg : Good n st tl wt) (h : Fwd n st tl o P) : ∀ k v, v < n → P v = k → 0 ≤ at_ (allL n st tl o n) v ∧ at_ (allL n st tl o n) v ≤ (k : Int) := by
  intro k
  induction k using Nat.strongRecOn with
  | ind k ih =>
    intro v hv hk
    have hm := all_mx hg h n (Nat.le_refl _) v hv
    refine ⟨hm.nn, ?_⟩
    rcases hm.is with e | ⟨e, he, hd, ht, hx⟩
    · rw [e]; omega
    · have h1 := h.edge e he
      rw [ht, hk] at h1
      have h2 := ih _ h1 _ (src_lt hg he) rfl
      rw [hx]; omega
theorem best_all (hg : Good n st tl wt) (h : Fwd n st tl o P) : bstL (allL n st tl o n) (upto (edgeAt n st tl wt) tl.length) n tl.length = allL n st tl o n := by
  have hnn : ∀ v, 0 ≤ at_ (allL n st tl o n) v := fun v => by
    rcases Nat.lt_or_ge v n with hv | hv
    · exact (all_mx hg h n (Nat.le_refl _) v hv).nn
    · rw [at_past (by rw [allL_len]; exact hv)]; exact Int.le_refl _
  apply List.ext_getElem
  · rw [bstL_len, allL_len]
  · intro v h1 h2
    have hv : v < n := by rw [allL_len] at h2; exact h2
    have a := bst_mx hg (allL n st tl o n) hnn tl.length (Nat.le_refl _) v hv
    have b := all_mx hg h n (Nat.le_refl _) v hv
    have := a.one (b.congr (fun e he => ⟨fun _ => he, fun _ => (h.pos _ (src_lt hg he)).1⟩))
    unfold at_ at this
    rw [List.getElem?_eq_getElem h1, List.getElem?_eq_getElem h2] at this
    simpa using this
end
end Go.Proofs.Ytiohimbifjlfdaa

/- StrongForward. -/
namespace Go.Proofs.Ytiohimbifjlfdaa
open Go.RowKit Go.Lib
set_option linter.unusedVariables false
set_option linter.unusedSimpArgs false
def lpB (n : Nat) (st tl : List Int) (k : Nat) : Bool := (List.range k).any (fun e => decide (src st n e = tN tl e))
theorem lpB_succ (n : Nat) (st tl : List Int) (k : Nat) : lpB n st tl (k + 1) = (lpB n st tl k || decide (src st n k = tN tl k)) := by
  unfold lpB; rw [List.range_succ, List.any_append]; simp
theorem lpB_iff (n : Nat) (st tl : List Int) (k : Nat) : lpB n st tl k = true ↔ ∃ e, e < k ∧ src st n e = tN tl e := by
  unfold lpB; simp
def FwC (n : Nat) (st tl c ol dl : List Int) (b : Bool) (oe de : Int) : Prop :=
  (b = false ∧ oe = 0 ∧ de = 0 ∧ c = [] ∧ ∃ P, Fwd n st tl ol P ∧ dl = allL n st tl ol n) ∨ (b = true ∧ oe = 33 ∧ de = 33 ∧ ol = [] ∧ dl = [] ∧ Ci n st tl c)
theorem fwC_of {n : Nat} {st tl wt c : List Int} {b : Bool} {E : Int} (hg : Good n st tl wt) (h : CA n st tl wt c b E) : E = 0 ∧ FwC n st tl c (ordA n st tl wt).1 (lngA n st tl wt).1 b (ordA n st tl wt).2 (lngA n st tl wt).2 := by
  have hc := good_chk' hg
  by_cases hl : (ordL n st tl).length < n
  · have ho := ordA_few hc (ordL_fin n st tl) hl
    rcases h with ⟨_, h2, _⟩ | ⟨h1, _⟩ | ⟨_, h2, h3, n', he, _, h5⟩
    · rw [ho] at h2; exact absurd rfl h2
    · rw [ho] at h1; cases h1
    · have : n' = n := by omega
      subst this
      refine ⟨h2, .inr ⟨h3, by rw [ho], ?_, by rw [ho], ?_, h5⟩⟩
      · rw [lngA_bad (by rw [ho]; decide), ho]
      · rw [lngA_bad (by rw [ho]; decide)]
  · have ho := ordA_all hc (ordL_fin n st tl) hl
    rcases h with ⟨h1, _⟩ | ⟨_, h2, h3, h4, _⟩ | ⟨h1, _⟩
    · rw [ho] at h1; exact absurd rfl h1
    · have hlen : (ordL n st tl).length = n := by have := Sq.len n st tl (ordL_fin n st tl).1; omega
      obtain ⟨P, hP⟩ := fwd_of hg (ordL_fin n st tl).1 hlen
      have hz : (ordA (n : Int) st tl wt).2 = 0 := by rw [ho]
      refine ⟨h2, .inl ⟨h3, hz, by rw [lngA_good hz], h4, P, by rw [ho]; exact hP, by rw [lngA_good hz, ho]; show allL n st tl (ordL n st tl) (ordL n st tl).length = _; rw [hlen]⟩⟩
    · rw [ho] at h1; cases h1
theorem fwC_is {n : Nat} {st tl wt c ol dl : List Int} {b : Bool} {oe de : Int} (hg : Good n st tl wt) (h : FwC n st tl c ol dl b oe de) : b = (decide ((cntL (BG n st tl) n : Int) < (n : Int)) || lpB n st tl tl.length) := by
  rcases h with ⟨rfl, _, _, _, P, hP, _⟩ | ⟨rfl, _, _, _, _, hc⟩
  · obtain ⟨h1, h2⟩ := fwd_none hg hP
    have h3 : lpB n st tl tl.length = false := by
      rw [← Bool.not_eq_true, lpB_iff]
      rintro ⟨e, he, h3⟩
      exact h2 e he h3
    rw [h1, h3]; simp
  · rcases ci_two hg hc with h1 | ⟨e, he, h1⟩
    · have : decide ((cntL (BG n st tl) n : Int) < (n : Int)) = true := by simpa using h1
      rw [this]; rfl
    · rw [(lpB_iff n st tl tl.length).2 ⟨e, he, h1⟩]; simp
end Go.Proofs.Ytiohimbifjlfdaa

/- StrongKernel, plainly: from part to part. -/
namespace Go.Proofs.Ytiohimbifjlfdaa
open Go.RowKit Go.Lib
set_option linter.unusedVariables false
set_option linter.unusedSimpArgs false
section
variable {n : Nat} {E F : Nat → Nat → Prop}
/-- An edge from part to part. -/
def PE (n : Nat) (E : Nat → Nat → Prop) (p q : Nat) : Prop := p ≠ q ∧ ∃ u v, u < n ∧ v < n ∧ E u v ∧ numb (Bo E) u = p ∧ numb (Bo E) v = q
theorem pe_of (hE : ∀ x y, E x y → x < n ∧ y < n) {u v : Nat} (h : Rc E u v) : Rc (PE n E) (numb (Bo E) u) (numb (Bo E) v) := by
  induction h with
  | refl => exact .refl _
  | @head a b c e h ih =>
    by_cases hab : numb (Bo E) a = numb (Bo E) b
    · rw [hab]; exact ih
    · exact .head ⟨hab, a, b, (hE _ _ e).1, (hE _ _ e).2, e, rfl, rfl⟩ ih
theorem of_pe {p q : Nat} (h : Rc (PE n E) p q) : ∀ u v, numb (Bo E) u = p → numb (Bo E) v = q → Rc E u v := by
  induction h with
  | refl a => intro u v h1 h2; exact ((numb_iff (Bo.eqv E)).1 (h1.trans h2.symm)).1
  | @head a b c e h ih =>
    intro u v h1 h2
    obtain ⟨_, x, y, _, _, hxy, hx, hy⟩ := e
    have h3 := ((numb_iff (Bo.eqv E)).1 (h1.trans hx.symm)).1
    exact h3.trans (.head hxy (ih y v hy h2))
theorem pe_rc (hE : ∀ x y, E x y → x < n ∧ y < n) (u v : Nat) : Rc (PE n E) (numb (Bo E) u) (numb (Bo E) v) ↔ Rc E u v := ⟨fun h => of_pe h u v rfl rfl, pe_of hE⟩
/-- Each number has its vertex. -/
theorem numb_has {B : Nat → Nat → Prop} (hB : Eqv B) : ∀ k p, p < cntL B k → ∃ v, v < k ∧ numb B v = p := by
  intro k
  induction k with
  | zero => intro p hp; have := cntL_le (B := B) 0; omega
  | succ k ih =>
    intro p hp
    rw [cntL_succ] at hp
    by_cases h1 : p < cntL B k
    · obtain ⟨v, hv, e⟩ := ih p h1
      exact ⟨v, by omega, e⟩
    · by_cases hl : lea B k = k
      · rw [if_pos hl] at hp
        exact ⟨k, by omega, by rw [numb_new hl]; omega⟩
      · rw [if_neg hl] at hp; omega
/-- No two parts reach each other. -/
theorem pe_apart (hE : ∀ x y, E x y → x < n ∧ y < n) {p q : Nat} (hp : p < cntL (Bo E) n) (hq : q < cntL (Bo E) n) (h : Bo (PE n E) p q) : p = q := by
  obtain ⟨u, _, hu⟩ := numb_has (Bo.eqv E) n p hp
  obtain ⟨v, _, hv⟩ := numb_has (Bo.eqv E) n q hq
  rw [← hu, ← hv]
  exact numb_eq (Bo.eqv E) ⟨of_pe h.1 u v hu hv, of_pe h.2 v u hv hu⟩
/-- Where only like ones reach each other, each is its own part's number. -/
theorem numb_self {B : Nat → Nat → Prop} (hB : Eqv B) {c : Nat} (h : ∀ p q, p < c → q < c → B p q → p = q) : (∀ p, p < c → numb B p = p) ∧ cntL B c = c := by
  have hl : ∀ v, v < c → lea B v = v := fun v hv => by
    obtain ⟨h1, h2, _⟩ := lea_spec hB v
    exact h _ _ (by omega) hv h2
  have hf : ∀ k, k ≤ c → cntL B k = k := by
    intro k
    induction k with
    | zero => intro _; have := cntL_le (B := B) 0; omega
    | succ k ih => intro hk; rw [cntL_succ, ih (by omega), if_pos (hl k (by omega))]
  exact ⟨fun p hp => by rw [numb_new (hl p hp)]; exact hf p (by omega), hf c (Nat.le_refl _)⟩
theorem rc_congr (h : ∀ x y, E x y ↔ F x y) {a b : Nat} : Rc E a b ↔ Rc F a b := by
  constructor
  · intro hr
    induction hr with
    | refl => exact .refl _
    | head e _ ih => exact .head ((h _ _).1 e) ih
  · intro hr
    induction hr with
    | refl => exact .refl _
    | head e _ ih => exact .head ((h _ _).2 e) ih
end
/-- What the lightest between two is. -/
structure Lt3 (F T : Nat → Nat) (Wt : Nat → Int) (k p q : Nat) (x : Int) : Prop where
  ne : p ≠ q
  has : ∃ e, e < k ∧ F e = p ∧ T e = q ∧ Wt e = x
  le : ∀ e, e < k → F e = p → T e = q → x ≤ Wt e
theorem Lt3.one {F T : Nat → Nat} {Wt : Nat → Int} {k p q : Nat} {x y : Int} (h : Lt3 F T Wt k p q x) (g : Lt3 F T Wt k p q y) : x = y := by
  obtain ⟨e, h1, h2, h3, h4⟩ := h.has
  obtain ⟨d, g1, g2, g3, g4⟩ := g.has
  have := h.le d g1 g2 g3; have := g.le e h1 h2 h3
  omega
theorem lwt_is (F T : Nat → Nat) (Wt : Nat → Int) (p q : Nat) : ∀ k, (∀ x, lwt F T Wt k p q = some x → Lt3 F T Wt k p q x) ∧ (lwt F T Wt k p q = none → p = q ∨ ∀ e, e < k → ¬ (F e = p ∧ T e = q)) := by
  intro k
  induction k with
  | zero => exact ⟨fun x h => by simp [lwt] at h, fun _ => .inr (fun e he => by omega)⟩
  | succ k ih =>
    by_cases hc : F k = p ∧ T k = q ∧ p ≠ q
    · obtain ⟨rfl, rfl, hne⟩ := hc
      rcases hl : lwt F T Wt k (F k) (T k) with _ | y
      · rw [lwt_new hne hl]
        refine ⟨fun x hx => ?_, fun h => by cases h⟩
        cases hx
        have h0 := (ih.2 hl).resolve_left hne
        exact ⟨hne, ⟨k, by omega, rfl, rfl, rfl⟩, fun e he h1 h2 => by
          rcases Nat.lt_or_ge e k with h3 | h3
          · exact absurd ⟨h1, h2⟩ (h0 e h3)
          · rw [show e = k by omega]; exact Int.le_refl _⟩
      · have h0 := ih.1 y hl
        obtain ⟨d, d1, d2, d3, d4⟩ := h0.has
        by_cases hx : Wt k < y
        · rw [lwt_less hne hl hx]
          refine ⟨fun x hx2 => ?_, fun h => by cases h⟩
          cases hx2
          exact ⟨hne, ⟨k, by omega, rfl, rfl, rfl⟩, fun e he h1 h2 => by
            rcases Nat.lt_or_ge e k with h3 | h3
            · have := h0.le e h3 h1 h2; omega
            · rw [show e = k by omega]; exact Int.le_refl _⟩
        · rw [lwt_more hne hl hx]
          refine ⟨fun x hx2 => ?_, fun h => by cases h⟩
          cases hx2
          exact ⟨hne, ⟨d, by omega, d2, d3, d4⟩, fun e he h1 h2 => by
            rcases Nat.lt_or_ge e k with h3 | h3
            · exact h0.le e h3 h1 h2
            · rw [show e = k by omega]; omega⟩
    · rw [lwt_other hc]
      refine ⟨fun x hx => ?_, fun h => ?_⟩
      · have h0 := ih.1 x hx
        obtain ⟨d, d1, d2, d3, d4⟩ := h0.has
        exact ⟨h0.ne, ⟨d, by omega, d2, d3, d4⟩, fun e he h1 h2 => by
          rcases Nat.lt_or_ge e k with h3 | h3
          · exact h0.le e h3 h1 h2
          · have he2 : e = k := by omega
            subst he2
            exact absurd ⟨h1, h2, h0.ne⟩ hc⟩
      · rcases ih.2 h with h0 | h0
        · exact .inl h0
        · by_cases hpq : p = q
          · exact .inl hpq
          · refine .inr (fun e he hh => ?_)
            rcases Nat.lt_or_ge e k with h3 | h3
            · exact h0 e h3 hh
            · have he2 : e = k := by omega
              subst he2
              exact hc ⟨hh.1, hh.2, hpq⟩
theorem lwt_iff {F T : Nat → Nat} {Wt : Nat → Int} {k p q : Nat} {x : Int} : lwt F T Wt k p q = some x ↔ Lt3 F T Wt k p q x := by
  refine ⟨(lwt_is F T Wt p q k).1 x, fun h => ?_⟩
  rcases hl : lwt F T Wt k p q with _ | y
  · rcases (lwt_is F T Wt p q k).2 hl with e | e
    · exact absurd e h.ne
    · obtain ⟨d, d1, d2, d3, _⟩ := h.has
      exact absurd ⟨d2, d3⟩ (e d d1)
  · rw [((lwt_is F T Wt p q k).1 y hl).one h]
end Go.Proofs.Ytiohimbifjlfdaa

/- StrongKernel, plainly: the condensed lists. -/
namespace Go.Proofs.Ytiohimbifjlfdaa
open Go.RowKit Go.Lib
set_option linter.unusedVariables false
set_option linter.unusedSimpArgs false
section
variable {n : Nat} {st tl wt st' tl' wt' nx : List Int}
theorem edG_in (i : Nat) (hi : i < (edG n st tl wt).length) : ∃ p q x, p < cntL (BG n st tl) n ∧ q < cntL (BG n st tl) n ∧ lwG n st tl wt p q = some x ∧ eAt (edG n st tl wt) i = ((p : Int), (q : Int), x) := by
  obtain ⟨p, hp, q, hq, x, hx, hE⟩ := mem_kE.1 (List.getElem_mem hi)
  exact ⟨p, q, x, hp, hq, hx, by unfold eAt; rw [List.getElem?_eq_getElem hi, hE]; rfl⟩
/-- The edges of the condensed lists go just from part to part. -/
theorem cd_edge (hg : Good n st tl wt) (hw : ∀ e, 0 ≤ at_ wt e) (hs : Summed (cntL (BG n st tl) n) (edG n st tl wt).length (eFrom (edG n st tl wt)) (cntL (BG n st tl) n) st') (hl : Laying (cntL (BG n st tl) n) (edG n st tl wt).length (eFrom (edG n st tl wt)) (eTo (edG n st tl wt)) (eWt (edG n st tl wt)) (edG n st tl wt).length nx tl' wt') :
    Good (cntL (BG n st tl) n) st' tl' wt' ∧ ∀ p q, EE (cntL (BG n st tl) n) (sN st') (tN tl') p q ↔ PE n (EE n (sN st) (tN tl)) p q := by
  have htk := edG_takes hg hw
  obtain ⟨c, hc⟩ : ∃ c, c = cntL (BG n st tl) n := ⟨_, rfl⟩
  have hcn : c ≤ 1048576 := by rw [hc]; exact Nat.le_trans (cntL_le _) hg.n_le
  have hmm : (edG n st tl wt).length ≤ 4194304 := Nat.le_trans (show (edG n st tl wt).length ≤ tl.length from kE_few) hg.m_le
  rw [← hc] at hs hl ⊢
  have hin : ∀ i, i < (edG n st tl wt).length → ∃ p q x, p < c ∧ q < c ∧ lwG n st tl wt p q = some x ∧ eFrom (edG n st tl wt) i = p ∧ eTo (edG n st tl wt) i = q := fun i hi => by
    obtain ⟨p, q, x, h1, h2, h3, h4⟩ := edG_in (n := n) (st := st) (tl := tl) (wt := wt) i hi
    rw [← hc] at h1 h2
    exact ⟨p, q, x, h1, h2, h3, by unfold eFrom; rw [h4]; exact Int.toNat_natCast _, by unfold eTo; rw [h4]; exact Int.toNat_natCast _⟩
  have hF : ∀ i, i < (edG n st tl wt).length → eFrom (edG n st tl wt) i < c := fun i hi => by
    obtain ⟨p, q, x, h1, _, _, h4, _⟩ := hin i hi
    rw [h4]; exact h1
  have hgd := hl.good hs hF hcn hmm
  have hE := fun i (hi : i < (edG n st tl wt).length) => hl.edge hs hF hcn hmm hi
  refine ⟨hgd, fun p q => ?_⟩
  rw [ee_iff hgd]
  constructor
  · rintro ⟨e', he', h1, h2⟩
    rw [hl.tlen] at he'
    obtain ⟨i, hi, hp⟩ := inj_surj (edG n st tl wt).length (place (eFrom (edG n st tl wt)) (edG n st tl wt).length) (fun i hi => place_lt hi) (fun i j hi hj hij => by
      rcases Nat.lt_trichotomy i j with h1 | h1 | h1
      · exact absurd hij (place_inj hj h1)
      · exact h1
      · exact absurd hij.symm (place_inj hi h1)) e' he'
    obtain ⟨q1, q2, q3, q4⟩ := hE i hi
    rw [hp] at q1 q2 q3
    obtain ⟨a, b, x, a1, a2, a3, a4, a5⟩ := hin i hi
    have h3 : a = p := by rw [← a4, ← q2]; exact h1
    have h4 : b = q := by rw [← a5, ← h2]; unfold tN; rw [q3]; exact (Int.toNat_natCast _).symm
    subst h3
    subst h4
    have h5 := lwt_iff.1 (show lwt _ _ _ _ a b = some x from a3)
    obtain ⟨e, e1, e2, e3, _⟩ := h5.has
    have hv := hg.vtx e e1
    exact ⟨h5.ne, src st n e, tN tl e, src_lt hg e1, by unfold tN; omega, (ee_iff hg).2 ⟨e, e1, rfl, rfl⟩, e2, e3⟩
  · rintro ⟨hne, u, v, hu, hv, huv, h1, h2⟩
    obtain ⟨e, he, h3, h4⟩ := (ee_iff hg).1 huv
    have hsome : ∃ x, lwG n st tl wt p q = some x := by
      rcases hl : lwG n st tl wt p q with _ | x
      · rcases (lwt_is _ _ _ p q tl.length).2 hl with h5 | h5
        · exact absurd h5 hne
        · exact absurd ⟨by show numb (BG n st tl) (src st n e) = p; rw [h3]; exact h1, by show numb (BG n st tl) (tN tl e) = q; rw [h4]; exact h2⟩ (h5 e he)
      · exact ⟨x, rfl⟩
    obtain ⟨x, hx⟩ := hsome
    have hpc : p < c := by rw [hc, ← h1]; exact numb_lt (Bo.eqv _) hu
    have hqc : q < c := by rw [hc, ← h2]; exact numb_lt (Bo.eqv _) hv
    have hmem : ((p : Int), (q : Int), x) ∈ edG n st tl wt := mem_kE.2 ⟨p, by rw [← hc]; exact hpc, q, by rw [← hc]; exact hqc, x, hx, rfl⟩
    obtain ⟨i, hi, hei⟩ := List.mem_iff_getElem.1 hmem
    have hea : eAt (edG n st tl wt) i = ((p : Int), (q : Int), x) := by unfold eAt; rw [List.getElem?_eq_getElem hi, hei]; rfl
    obtain ⟨q1, q2, q3, q4⟩ := hE i hi
    refine ⟨_, q1, ?_, ?_⟩
    · rw [q2]; unfold eFrom; rw [hea]; exact Int.toNat_natCast _
    · unfold tN; rw [q3]; unfold eTo; rw [hea]; simp
end
end Go.Proofs.Ytiohimbifjlfdaa

/- StrongKernel, plainly: condensed again. -/
namespace Go.Proofs.Ytiohimbifjlfdaa
open Go.RowKit Go.Lib
set_option linter.unusedVariables false
set_option linter.unusedSimpArgs false
section
variable {n : Nat} {st tl wt st' tl' wt' nx : List Int}
theorem rowE'_congr {f g : Nat → Nat → Option Int} {p : Nat} : ∀ q, (∀ b, b < q → f p b = g p b) → rowE' f p q = rowE' g p q
  | 0, _ => rfl
  | q + 1, h => by
    show rowE' f p q ++ oneE f p q = rowE' g p q ++ oneE g p q
    rw [rowE'_congr q (fun b hb => h b (by omega))]
    unfold oneE
    rw [h q (by omega)]
theorem kE_congr {f g : Nat → Nat → Option Int} {c : Nat} : ∀ k, (∀ a, a < k → ∀ b, b < c → f a b = g a b) → kE f c k = kE g c k
  | 0, _ => rfl
  | k + 1, h => by
    show kE f c k ++ rowE' f k c = kE g c k ++ rowE' g k c
    rw [kE_congr k (fun a ha => h a (by omega)), rowE'_congr c (h k (by omega))]
theorem rc_in {E : Nat → Nat → Prop} {c : Nat} (hE : ∀ x y, E x y → x < c ∧ y < c) {a b : Nat} (h : Rc E a b) : a = b ∨ (a < c ∧ b < c) := by
  induction h with
  | refl => exact .inl rfl
  | head e _ ih =>
    have := hE _ _ e
    rcases ih with rfl | ih
    · exact .inr this
    · exact .inr ⟨this.1, ih.2⟩
/-- The condensed graph's parts are its vertices. -/
theorem cd_self (hg : Good n st tl wt) (hw : ∀ e, 0 ≤ at_ wt e) (hs : Summed (cntL (BG n st tl) n) (edG n st tl wt).length (eFrom (edG n st tl wt)) (cntL (BG n st tl) n) st') (hl : Laying (cntL (BG n st tl) n) (edG n st tl wt).length (eFrom (edG n st tl wt)) (eTo (edG n st tl wt)) (eWt (edG n st tl wt)) (edG n st tl wt).length nx tl' wt') :
    (∀ p, p < cntL (BG n st tl) n → numb (BG (cntL (BG n st tl) n) st' tl') p = p) ∧ cntL (BG (cntL (BG n st tl) n) st' tl') (cntL (BG n st tl) n) = cntL (BG n st tl) n := by
  obtain ⟨hgd, hpe⟩ := cd_edge hg hw hs hl
  refine numb_self (Bo.eqv _) (fun p q hp hq hb => ?_)
  exact pe_apart (fun x y h => ee_lt hg h) hp hq ⟨(rc_congr hpe).1 hb.1, (rc_congr hpe).1 hb.2⟩
theorem cd_again (hg : Good n st tl wt) (hw : ∀ e, 0 ≤ at_ wt e) (hs : Summed (cntL (BG n st tl) n) (edG n st tl wt).length (eFrom (edG n st tl wt)) (cntL (BG n st tl) n) st') (hl : Laying (cntL (BG n st tl) n) (edG n st tl wt).length (eFrom (edG n st tl wt)) (eTo (edG n st tl wt)) (eWt (edG n st tl wt)) (edG n st tl wt).length nx tl' wt') :
    edG (cntL (BG n st tl) n) st' tl' wt' = edG n st tl wt := by
  obtain ⟨hgd, _⟩ := cd_edge hg hw hs hl
  obtain ⟨hn1, hn2⟩ := cd_self hg hw hs hl
  obtain ⟨c, hc⟩ : ∃ c, c = cntL (BG n st tl) n := ⟨_, rfl⟩
  have hcn : c ≤ 1048576 := by rw [hc]; exact Nat.le_trans (cntL_le _) hg.n_le
  have hmm : (edG n st tl wt).length ≤ 4194304 := Nat.le_trans (show (edG n st tl wt).length ≤ tl.length from kE_few) hg.m_le
  have hin := fun i hi => edG_in (n := n) (st := st) (tl := tl) (wt := wt) i hi
  rw [← hc] at hs hl hgd hn1 hn2 hin ⊢
  have hF : ∀ i, i < (edG n st tl wt).length → eFrom (edG n st tl wt) i < c := fun i hi => by
    obtain ⟨p, q, x, h1, _, _, h4⟩ := hin i hi
    unfold eFrom; rw [h4]; simpa using h1
  have hE := fun i (hi : i < (edG n st tl wt).length) => hl.edge hs hF hcn hmm hi
  have hfu : ∀ p, p < c → ∀ q, q < c → lwG c st' tl' wt' p q = lwG n st tl wt p q := by
    intro p hp q hq
    have e1 : lwG c st' tl' wt' = lwt (src st' c) (tN tl') (fun e => at_ wt' e) tl'.length := by
      refine lwt_congr _ (fun e he => ⟨hn1 _ (src_lt hgd he), hn1 _ ?_, rfl⟩)
      have := hgd.vtx e he
      unfold tN; omega
    -- what the edges of the condensed lists are
    have key : ∀ e', e' < tl'.length → src st' c e' = p → tN tl' e' = q → lwG n st tl wt p q = some (at_ wt' e') := by
      intro e' he' h1 h2
      rw [hl.tlen] at he'
      obtain ⟨i, hi, hpl⟩ := inj_surj (edG n st tl wt).length (place (eFrom (edG n st tl wt)) (edG n st tl wt).length) (fun i hi => place_lt hi) (fun i j hi hj hij => by
        rcases Nat.lt_trichotomy i j with h1 | h1 | h1
        · exact absurd hij (place_inj hj h1)
        · exact h1
        · exact absurd hij.symm (place_inj hi h1)) e' he'
      obtain ⟨q1, q2, q3, q4⟩ := hE i hi
      rw [hpl] at q2 q3 q4
      obtain ⟨a, b, x, a1, a2, a3, a4⟩ := hin i hi
      have h3 : a = p := by rw [← h1, q2]; unfold eFrom; rw [a4]; exact (Int.toNat_natCast _).symm
      have h4 : b = q := by rw [← h2]; unfold tN; rw [q3]; unfold eTo; rw [a4]; simp
      rw [← h3, ← h4, a3, q4]
      unfold eWt
      rw [a4]
    rw [e1]
    rcases hx : lwt (src st' c) (tN tl') (fun e => at_ wt' e) tl'.length p q with _ | x
    · rcases hy : lwG n st tl wt p q with _ | y
      · rfl
      · exfalso
        have hne := (lwt_iff.1 (show lwt _ _ _ _ p q = some y from hy)).ne
        have hmem : ((p : Int), (q : Int), y) ∈ edG n st tl wt := mem_kE.2 ⟨p, by rw [← hc]; exact hp, q, by rw [← hc]; exact hq, y, hy, rfl⟩
        obtain ⟨i, hi, hei⟩ := List.mem_iff_getElem.1 hmem
        have hea : eAt (edG n st tl wt) i = ((p : Int), (q : Int), y) := by unfold eAt; rw [List.getElem?_eq_getElem hi, hei]; rfl
        obtain ⟨q1, q2, q3, q4⟩ := hE i hi
        refine ((lwt_is _ _ _ p q _).2 hx).resolve_left hne _ q1 ⟨?_, ?_⟩
        · rw [q2]; unfold eFrom; rw [hea]; exact Int.toNat_natCast _
        · unfold tN; rw [q3]; unfold eTo; rw [hea]; simp
    · obtain ⟨e, e2, e3, e4, e5⟩ := (lwt_iff.1 hx).has
      rw [key e e2 e3 e4, ← e5]
  unfold edG
  rw [hn2, ← hc]
  exact kE_congr c (fun a ha b hb => hfu a ha b hb)
end
end Go.Proofs.Ytiohimbifjlfdaa

/- StrongKernel, plainly: the condensed graph has no circle, and its second condensing is itself. -/
namespace Go.Proofs.Ytiohimbifjlfdaa
open Go.RowKit Go.Lib
set_option linter.unusedVariables false
set_option linter.unusedSimpArgs false
section
variable {n : Nat} {st tl wt st' tl' wt' nx : List Int}
theorem cd_none (hg : Good n st tl wt) (hw : ∀ e, 0 ≤ at_ wt e) (hs : Summed (cntL (BG n st tl) n) (edG n st tl wt).length (eFrom (edG n st tl wt)) (cntL (BG n st tl) n) st') (hl : Laying (cntL (BG n st tl) n) (edG n st tl wt).length (eFrom (edG n st tl wt)) (eTo (edG n st tl wt)) (eWt (edG n st tl wt)) (edG n st tl wt).length nx tl' wt') (x : List Int) :
    ¬ Ci (cntL (BG n st tl) n) st' tl' x := by
  intro hc
  obtain ⟨hgd, hpe⟩ := cd_edge hg hw hs hl
  obtain ⟨_, h2⟩ := cd_self hg hw hs hl
  rcases ci_two hgd hc with h | ⟨e, he, h⟩
  · rw [h2] at h; omega
  · exact ((hpe _ _).1 ((ee_iff hgd).2 ⟨e, he, rfl, rfl⟩)).1 h
theorem cd_circle (hg : Good n st tl wt) (hw : ∀ e, 0 ≤ at_ wt e) (hs : Summed (cntL (BG n st tl) n) (edG n st tl wt).length (eFrom (edG n st tl wt)) (cntL (BG n st tl) n) st') (hl : Laying (cntL (BG n st tl) n) (edG n st tl wt).length (eFrom (edG n st tl wt)) (eTo (edG n st tl wt)) (eWt (edG n st tl wt)) (edG n st tl wt).length nx tl' wt') {x : List Int} {b : Bool} {E : Int} (h : CA (cntL (BG n st tl) n : Nat) st' tl' wt' x b E) : b = false ∧ E = 0 := by
  obtain ⟨hgd, _⟩ := cd_edge hg hw hs hl
  obtain ⟨h1, h2⟩ := fwC_of hgd h
  rcases h2 with ⟨hb, _⟩ | ⟨_, _, _, _, _, hc⟩
  · exact ⟨hb, h1⟩
  · exact absurd hc (cd_none hg hw hs hl x)
theorem cd_reach (hg : Good n st tl wt) (hw : ∀ e, 0 ≤ at_ wt e) (hs : Summed (cntL (BG n st tl) n) (edG n st tl wt).length (eFrom (edG n st tl wt)) (cntL (BG n st tl) n) st') (hl : Laying (cntL (BG n st tl) n) (edG n st tl wt).length (eFrom (edG n st tl wt)) (eTo (edG n st tl wt)) (eWt (edG n st tl wt)) (edG n st tl wt).length nx tl' wt') (v u : Nat) :
    Rc (EE (cntL (BG n st tl) n) (sN st') (tN tl')) (numb (BG n st tl) v) (numb (BG n st tl) u) ↔ Rc (EE n (sN st) (tN tl)) v u := by
  obtain ⟨_, hpe⟩ := cd_edge hg hw hs hl
  exact (rc_congr hpe).trans (pe_rc (fun x y h => ee_lt hg h) v u)
end
end Go.Proofs.Ytiohimbifjlfdaa

/- StrongKernel, plainly: condensed twice; what the law asks of the lightest edges. -/
namespace Go.Proofs.Ytiohimbifjlfdaa
open Go.RowKit Go.Lib
set_option linter.unusedVariables false
set_option linter.unusedSimpArgs false
section
variable {n : Nat} {st tl wt st' tl' wt' nx : List Int}
theorem cd_twice (hg : Good n st tl wt) (hw : ∀ e, 0 ≤ at_ wt e) (hs : Summed (cntL (BG n st tl) n) (edG n st tl wt).length (eFrom (edG n st tl wt)) (cntL (BG n st tl) n) st') (hl : Laying (cntL (BG n st tl) n) (edG n st tl wt).length (eFrom (edG n st tl wt)) (eTo (edG n st tl wt)) (eWt (edG n st tl wt)) (edG n st tl wt).length nx tl' wt') {c : Nat} (hc : c = cntL (BG n st tl) n) {st2 tl2 wt2 nx2 : List Int}
    (hs2 : Summed (cntL (BG c st' tl') c) (edG c st' tl' wt').length (eFrom (edG c st' tl' wt')) (cntL (BG c st' tl') c) st2) (hl2 : Laying (cntL (BG c st' tl') c) (edG c st' tl' wt').length (eFrom (edG c st' tl' wt')) (eTo (edG c st' tl' wt')) (eWt (edG c st' tl' wt')) (edG c st' tl' wt').length nx2 tl2 wt2) :
    cntL (BG c st' tl') c = c ∧ st2 = st' ∧ tl2 = tl' ∧ wt2 = wt' := by
  subst hc
  have h1 := (cd_self hg hw hs hl).2
  have h2 := cd_again hg hw hs hl
  rw [h1, h2] at hs2 hl2
  obtain ⟨e1, e2⟩ := laying_one hl2 hl
  exact ⟨h1, summed_one hs2 hs, e1, e2⟩
/-- What the edges of the condensed lists are, one by one. -/
theorem cd_at (hg : Good n st tl wt) (hw : ∀ e, 0 ≤ at_ wt e) (hs : Summed (cntL (BG n st tl) n) (edG n st tl wt).length (eFrom (edG n st tl wt)) (cntL (BG n st tl) n) st') (hl : Laying (cntL (BG n st tl) n) (edG n st tl wt).length (eFrom (edG n st tl wt)) (eTo (edG n st tl wt)) (eWt (edG n st tl wt)) (edG n st tl wt).length nx tl' wt') {e : Nat} (he : e < tl'.length) :
    ∃ i p q x, i < (edG n st tl wt).length ∧ place (eFrom (edG n st tl wt)) (edG n st tl wt).length i = e ∧ Lt3 (fun e => numb (BG n st tl) (src st n e)) (fun e => numb (BG n st tl) (tN tl e)) (fun e => at_ wt e) tl.length p q x ∧ eAt (edG n st tl wt) i = ((p : Int), (q : Int), x) ∧ src st' (cntL (BG n st tl) n) e = p ∧ tN tl' e = q ∧ at_ wt' e = x := by
  obtain ⟨c, hc⟩ : ∃ c, c = cntL (BG n st tl) n := ⟨_, rfl⟩
  have hcn : c ≤ 1048576 := by rw [hc]; exact Nat.le_trans (cntL_le _) hg.n_le
  have hmm : (edG n st tl wt).length ≤ 4194304 := Nat.le_trans (show (edG n st tl wt).length ≤ tl.length from kE_few) hg.m_le
  have hin := fun i hi => edG_in (n := n) (st := st) (tl := tl) (wt := wt) i hi
  rw [← hc] at hs hl hin ⊢
  have hF : ∀ i, i < (edG n st tl wt).length → eFrom (edG n st tl wt) i < c := fun i hi => by
    obtain ⟨p, q, x, h1, _, _, h4⟩ := hin i hi
    unfold eFrom; rw [h4]; simpa using h1
  rw [hl.tlen] at he
  obtain ⟨i, hi, hpl⟩ := inj_surj (edG n st tl wt).length (place (eFrom (edG n st tl wt)) (edG n st tl wt).length) (fun i hi => place_lt hi) (fun i j hi hj hij => by
    rcases Nat.lt_trichotomy i j with h1 | h1 | h1
    · exact absurd hij (place_inj hj h1)
    · exact h1
    · exact absurd hij.symm (place_inj hi h1)) e he
  obtain ⟨q1, q2, q3, q4⟩ := hl.edge hs hF hcn hmm hi
  rw [hpl] at q2 q3 q4
  obtain ⟨p, q, x, a1, a2, a3, a4⟩ := hin i hi
  refine ⟨i, p, q, x, hi, hpl, lwt_iff.1 a3, a4, ?_, ?_, ?_⟩
  · rw [q2]; unfold eFrom; rw [a4]; exact Int.toNat_natCast _
  · unfold tN; rw [q3]; unfold eTo; rw [a4]; simp
  · rw [q4]; unfold eWt; rw [a4]
/-- What the law asks of two lists of edges. -/
structure LtF (m m' : Nat) (F T F' T' nb : Nat → Nat) (W W' : Nat → Int) : Prop where
  ne : ∀ i, i < m' → F' i ≠ T' i
  up : ∀ i, i + 1 < m' → F' (i + 1) = F' i → T' i < T' (i + 1)
  le : ∀ i, i < m' → ∀ j, j < m → nb (F j) = F' i → nb (T j) = T' i → W' i ≤ W j
  has : ∀ i, i < m' → ∃ j, j < m ∧ nb (F j) = F' i ∧ nb (T j) = T' i ∧ W j = W' i
  all : ∀ j, j < m → nb (F j) ≠ nb (T j) → ∃ i, i < m' ∧ F' i = nb (F j) ∧ T' i = nb (T j)
theorem cd_light (hg : Good n st tl wt) (hw : ∀ e, 0 ≤ at_ wt e) (hs : Summed (cntL (BG n st tl) n) (edG n st tl wt).length (eFrom (edG n st tl wt)) (cntL (BG n st tl) n) st') (hl : Laying (cntL (BG n st tl) n) (edG n st tl wt).length (eFrom (edG n st tl wt)) (eTo (edG n st tl wt)) (eWt (edG n st tl wt)) (edG n st tl wt).length nx tl' wt') :
    LtF tl.length tl'.length (src st n) (tN tl) (src st' (cntL (BG n st tl) n)) (tN tl') (numb (BG n st tl)) (at_ wt) (at_ wt') := by
  refine ⟨fun i hi => ?_, fun i hi hsr => ?_, fun i hi j hj h1 h2 => ?_, fun i hi => ?_, fun j hj hne => ?_⟩
  · obtain ⟨k, p, q, x, _, _, h3, _, h5, h6, h7⟩ := cd_at hg hw hs hl hi
    rw [h5, h6]
    exact h3.ne
  · obtain ⟨k, p, q, x, k1, k2, k3, k4, k5, k6, k7⟩ := cd_at hg hw hs hl (show i < tl'.length by omega)
    obtain ⟨k', p', q', x', l1, l2, l3, l4, l5, l6, l7⟩ := cd_at hg hw hs hl hi
    have hpp : p' = p := by rw [← l5, ← k5]; exact hsr
    subst hpp
    have f1 : eFrom (edG n st tl wt) k = p' := by unfold eFrom; rw [k4]; exact Int.toNat_natCast _
    have f2 : eFrom (edG n st tl wt) k' = p' := by unfold eFrom; rw [l4]; exact Int.toNat_natCast _
    have hkk : k < k' := by
      unfold place at k2 l2
      rw [f1] at k2
      rw [f2] at l2
      rcases Nat.lt_or_ge k k' with h | h
      · exact h
      · have : outs (eFrom (edG n st tl wt)) p' k' ≤ outs (eFrom (edG n st tl wt)) p' k := cnt_grow h
        omega
    have k1' : k < (kE (lwG n st tl wt) (cntL (BG n st tl) n) (cntL (BG n st tl) n)).length := k1
    have l1' : k' < (kE (lwG n st tl wt) (cntL (BG n st tl) n) (cntL (BG n st tl) n)).length := l1
    have g1 : (kE (lwG n st tl wt) (cntL (BG n st tl) n) (cntL (BG n st tl) n))[k] = ((p' : Int), (q : Int), x) := by
      have := k4; unfold eAt edG at this; rw [List.getElem?_eq_getElem k1'] at this; exact this
    have g2 : (kE (lwG n st tl wt) (cntL (BG n st tl) n) (cntL (BG n st tl) n))[k'] = ((p' : Int), (q' : Int), x') := by
      have := l4; unfold eAt edG at this; rw [List.getElem?_eq_getElem l1'] at this; exact this
    have hp := List.pairwise_iff_getElem.1 (kE_pair (f := lwG n st tl wt) (c := cntL (BG n st tl) n) (k := cntL (BG n st tl) n)) k k' (by rw [List.length_map]; exact k1') (by rw [List.length_map]; exact l1') hkk
    simp only [List.getElem_map] at hp
    rw [g1, g2] at hp
    unfold keyE plt at hp
    simp at hp
    rw [k6, l6]
    omega
  · obtain ⟨k, p, q, x, _, _, h3, _, h5, h6, h7⟩ := cd_at hg hw hs hl hi
    rw [h7]
    exact h3.le j hj (h1.trans h5) (by show numb _ _ = _; rw [h6] at h2; exact h2)
  · obtain ⟨k, p, q, x, _, _, h3, _, h5, h6, h7⟩ := cd_at hg hw hs hl hi
    obtain ⟨j, j1, j2, j3, j4⟩ := h3.has
    exact ⟨j, j1, j2.trans h5.symm, j3.trans h6.symm, j4.trans h7.symm⟩
  · obtain ⟨hgd, hpe⟩ := cd_edge hg hw hs hl
    have hv := hg.vtx j hj
    obtain ⟨e, e1, e2, e3⟩ := (ee_iff hgd).1 ((hpe (numb (BG n st tl) (src st n j)) (numb (BG n st tl) (tN tl j))).2 ⟨hne, src st n j, tN tl j, src_lt hg hj, by unfold tN; omega, (ee_iff hg).2 ⟨j, hj, rfl, rfl⟩, rfl, rfl⟩)
    exact ⟨e, e1, e2, e3⟩
/-- The condensed lists. -/
def Cnd (n : Nat) (st tl wt : List Int) (c : Nat) (st' tl' wt' : List Int) : Prop :=
  Good n st tl wt ∧ (∀ e, 0 ≤ at_ wt e) ∧ c = cntL (BG n st tl) n ∧ Summed (cntL (BG n st tl) n) (edG n st tl wt).length (eFrom (edG n st tl wt)) (cntL (BG n st tl) n) st' ∧ ∃ nx, Laying (cntL (BG n st tl) n) (edG n st tl wt).length (eFrom (edG n st tl wt)) (eTo (edG n st tl wt)) (eWt (edG n st tl wt)) (edG n st tl wt).length nx tl' wt'
variable {c : Nat}
theorem Cnd.good (h : Cnd n st tl wt c st' tl' wt') : Good c st' tl' wt' ∧ (∀ e, 0 ≤ at_ wt' e) ∧ c ≤ n := by
  obtain ⟨hg, hw, rfl, hs, nx, hl⟩ := h
  refine ⟨(cd_edge hg hw hs hl).1, fun e => ?_, cntL_le _⟩
  rcases Nat.lt_or_ge e (edG n st tl wt).length with he | he
  · exact (hl.win e he).1
  · unfold at_; rw [List.getElem?_eq_none (by rw [hl.wlen]; exact he)]; simp
theorem Cnd.circle (h : Cnd n st tl wt c st' tl' wt') {x : List Int} {b : Bool} {E : Int} (hc : CA (c : Nat) st' tl' wt' x b E) : b = false ∧ E = 0 := by
  obtain ⟨hg, hw, rfl, hs, nx, hl⟩ := h
  exact cd_circle hg hw hs hl hc
theorem Cnd.reach (h : Cnd n st tl wt c st' tl' wt') (v u : Nat) : Rc (EE c (sN st') (tN tl')) (numb (BG n st tl) v) (numb (BG n st tl) u) ↔ Rc (EE n (sN st) (tN tl)) v u := by
  obtain ⟨hg, hw, rfl, hs, nx, hl⟩ := h
  exact cd_reach hg hw hs hl v u
theorem Cnd.light (h : Cnd n st tl wt c st' tl' wt') : LtF tl.length tl'.length (src st n) (tN tl) (src st' c) (tN tl') (numb (BG n st tl)) (at_ wt) (at_ wt') := by
  obtain ⟨hg, hw, rfl, hs, nx, hl⟩ := h
  exact cd_light hg hw hs hl
theorem Cnd.lt (h : Cnd n st tl wt c st' tl' wt') (v : Nat) (hv : v < n) : numb (BG n st tl) v < c := by
  obtain ⟨hg, hw, rfl, hs, nx, hl⟩ := h
  exact numb_lt (Bo.eqv _) hv
theorem Cnd.twice (h : Cnd n st tl wt c st' tl' wt') {d : Nat} {st2 tl2 wt2 : List Int} (k : Cnd c st' tl' wt' d st2 tl2 wt2) : d = c ∧ st2 = st' ∧ tl2 = tl' ∧ wt2 = wt' := by
  obtain ⟨hg, hw, hc, hs, nx, hl⟩ := h
  obtain ⟨_, _, rfl, hs2, nx2, hl2⟩ := k
  exact cd_twice hg hw hs hl hc hs2 hl2
theorem condense_good (n : Nat) (va vb vc : Value) (st tl wt : List Int) (w : World) (hg : GIs w n va vb vc st tl wt) (hgd : Good n st tl wt) (hw : ∀ e, 0 ≤ at_ wt e) :
    Calls Try.prog 8 #[gAgg n va vb vc] w fun e w' => Below w.heap.size w w' ∧ ∃ c va vb vc st' tl' wt' pv, e = .returned (.tuple #[gAgg (c : Nat) va vb vc, pv, .int .i64 0]) ∧ GIs w' (c : Nat) va vb vc st' tl' wt' ∧ Cnd n st tl wt c st' tl' wt' ∧ RowAt .i64 w' pv (tab n (fun v => (numb (BG n st tl) v : Int))) := by
  have h1 := hgd.m_le; have h2 := hgd.n_le; have h3 := hgd.s_len; have h4 := hgd.w_len
  refine (condense_any n va vb vc st tl wt w hg (by omega) (by omega) (by omega) hw).mono ?_
  rintro e w' ⟨hb, ⟨n', hn, _, va', vb', vc', st', tl', wt', nx, pv, rfl, q1, q2, q3, q4⟩ | ⟨hz, _⟩⟩
  · have : n = n' := by omega
    subst this
    exact ⟨hb, _, va', vb', vc', st', tl', wt', pv, rfl, q1, ⟨hgd, hw, rfl, q2, nx, q3⟩, q4⟩
  · exact absurd (good_chk' hgd) hz
theorem condense_twice (n c : Nat) (va vb vc : Value) (st tl wt st' tl' wt' : List Int) (w : World) (hg : GIs w c va vb vc st' tl' wt') (hc : Cnd n st tl wt c st' tl' wt') :
    Calls Try.prog 8 #[gAgg c va vb vc] w fun e w' => Below w.heap.size w w' ∧ ∃ va vb vc pv, e = .returned (.tuple #[gAgg (c : Nat) va vb vc, pv, .int .i64 0]) ∧ GIs w' (c : Nat) va vb vc st' tl' wt' ∧ ∃ l, RowAt .i64 w' pv l ∧ l.length = c := by
  refine (condense_good c va vb vc st' tl' wt' w hg hc.good.1 hc.good.2.1).mono ?_
  rintro e w' ⟨hb, c', va', vb', vc', st2, tl2, wt2, pv, rfl, q1, q2, q3⟩
  obtain ⟨rfl, rfl, rfl, rfl⟩ := hc.twice q2
  exact ⟨hb, va', vb', vc', pv, rfl, q1, _, q3, tab_length _ _⟩
end
end Go.Proofs.Ytiohimbifjlfdaa

/- StrongKernel: the law's own lightest. -/
namespace Go.Proofs.Ytiohimbifjlfdaa
open Go.RowKit Go.Lib
set_option linter.unusedVariables false
set_option linter.unusedSimpArgs false
/-- Is one of the first k edges the lightest? -/
def thB (F T nb : Nat → Nat) (W : Nat → Int) (p q : Nat) (x : Int) (k : Nat) : Bool := (List.range k).any fun j => decide (nb (F j) = p ∧ nb (T j) = q ∧ W j = x)
theorem thB_succ (F T nb : Nat → Nat) (W : Nat → Int) (p q : Nat) (x : Int) (k : Nat) : thB F T nb W p q x (k + 1) = (thB F T nb W p q x k || decide (nb (F k) = p ∧ nb (T k) = q ∧ W k = x)) := by
  unfold thB
  rw [List.range_succ, List.any_append]
  simp
theorem thB_all {F T nb : Nat → Nat} {W : Nat → Int} {p q : Nat} {x : Int} {k : Nat} (h : ∃ j, j < k ∧ nb (F j) = p ∧ nb (T j) = q ∧ W j = x) : thB F T nb W p q x k = true := by
  obtain ⟨j, h1, h2⟩ := h
  unfold thB
  exact List.any_eq_true.2 ⟨j, List.mem_range.2 h1, decide_eq_true h2⟩
/-- Is it within a part, or one of the first k edges of the other list? -/
def inB (F' T' : Nat → Nat) (p q : Nat) (k : Nat) : Bool := decide (p = q) || (List.range k).any fun i => decide (F' i = p ∧ T' i = q)
theorem inB_succ (F' T' : Nat → Nat) (p q : Nat) (k : Nat) : inB F' T' p q (k + 1) = (inB F' T' p q k || decide (F' k = p ∧ T' k = q)) := by
  unfold inB
  rw [List.range_succ, List.any_append]
  simp [Bool.or_assoc]
theorem inB_all {F' T' : Nat → Nat} {p q k : Nat} (h : p ≠ q → ∃ i, i < k ∧ F' i = p ∧ T' i = q) : inB F' T' p q k = true := by
  unfold inB
  by_cases hpq : p = q
  · simp [hpq]
  · obtain ⟨i, h1, h2⟩ := h hpq
    rw [Bool.or_eq_true]
    exact .inr (List.any_eq_true.2 ⟨i, List.mem_range.2 h1, decide_eq_true h2⟩)
theorem box_keepT {W x : World} {A : Nat} {t : TypeId} {p : Array Value} (hA : W.heap[A]? = some (.cells p t (0, 0))) (h : Below W.heap.size W x) {j : Nat} {u : Value} (hu : p[j]? = some u) : x.cell? ⟨A, j, none⟩ = some u := cell_of ((h.block A (lt_of_heap hA)).trans hA) hu
/-- A list of edges in memory, by places. -/
def EdL (X : World) (R m : Nat) (F T : Nat → Nat) (W : Nat → Int) : Prop :=
  ∀ e, e < m → X.cell? ⟨R, e * 3, none⟩ = some (.int .i64 (F e : Int)) ∧ X.cell? ⟨R, e * 3 + 1, none⟩ = some (.int .i64 (T e : Int)) ∧ X.cell? ⟨R, e * 3 + 2, none⟩ = some (.int .u64 (W e))
theorem EdL.of {X : World} {R n : Nat} {st tl wt : List Int} (hg : Good n st tl wt) (h : EAt X (.slice (some ⟨R, 0, none⟩) tl.length tl.length) (upto (edgeAt n st tl wt) tl.length)) : EdL X R tl.length (src st n) (tN tl) (at_ wt) := by
  intro e he
  have h0 : EAt X (.slice (some ⟨R, 0, none⟩) (upto (edgeAt n st tl wt) tl.length).length tl.length) (upto (edgeAt n st tl wt) tl.length) := by rw [upto_len]; exact h
  obtain ⟨g, o, he2, hgl, e0, e1, e2⟩ := h0.cellAt (i := e) (by rw [upto_len]; exact he)
  simp only [Option.some.injEq, Addr.mk.injEq, and_true] at he2
  obtain ⟨rfl, rfl⟩ := he2
  rw [eAt_upto _ _ _ he] at e0 e1 e2
  rw [Nat.zero_add] at e0 e1 e2
  have ht : at_ tl e = (tN tl e : Int) := by have := hg.vtx e he; unfold tN; omega
  exact ⟨e0, by rw [← ht]; exact e1, e2⟩
end Go.Proofs.Ytiohimbifjlfdaa

/- StrongKernel: the law. -/
namespace Go.Proofs.Ytiohimbifjlfdaa
open Go.RowKit Go.Lib
set_option linter.unusedVariables false
set_option linter.unusedSimpArgs false
theorem RLw.atK {w X : World} {n : Nat} {st tl : List Int} {v : Value} {Rs : List Nat} (h : RLw w X n st tl v Rs) {i : Nat} (hi : i < Rs.length) : ∃ g c R B, v = .slice (some ⟨g, 0, none⟩) Rs.length c ∧ Rs.length ≤ c ∧ X.cell? ⟨g, i, none⟩ = some (.slice (some ⟨R, 0, none⟩) n n) ∧ ArrB X R B ∧ B.length = n ∧ ∀ u, u < n → (bAt B u = true ↔ Rc (EE n (sN st) (tN tl)) i u) := by
  obtain ⟨B, b1, b2, b3⟩ := h.row i Rs[i] (List.getElem?_eq_getElem hi)
  obtain ⟨h0, ⟨rfl, hn⟩ | ⟨g, cap, cur, rfl, hg, hb, h1, h2, h3, h4⟩⟩ := h.own
  · omega
  · refine ⟨g, cap, Rs[i], B, rfl, h1, cell_of hb ?_, b1, b2, b3⟩
    have : (slB n Rs)[i]? = some (.slice (some ⟨Rs[i], 0, none⟩) n n) := by simp [slB, hi]
    rw [← h4, List.getElem?_take_of_lt (by omega)] at this
    rw [← Array.getElem?_toList]; exact this
end Go.Proofs.Ytiohimbifjlfdaa

/- TopParts, plainly. -/
namespace Go.Proofs.Ytiohimbifjlfdaa
open Go.RowKit Go.Lib
set_option linter.unusedVariables false
set_option linter.unusedSimpArgs false
section
variable {n c : Nat} {st tl wt st' tl' wt' : List Int}
theorem Cnd.fwd (h : Cnd n st tl wt c st' tl' wt') {x : List Int} {b : Bool} {E : Int} (hca : CA (c : Nat) st' tl' wt' x b E) : b = false ∧ E = 0 ∧ (ordA c st' tl' wt').2 = 0 ∧ ∃ P, Fwd c st' tl' (ordA c st' tl' wt').1 P := by
  obtain ⟨rfl, rfl⟩ := h.circle hca
  obtain ⟨_, h2⟩ := fwC_of h.good.1 hca
  rcases h2 with ⟨_, ho, hd, hc, P, hP, hdl⟩ | ⟨hb, _⟩
  · exact ⟨rfl, rfl, ho, P, hP⟩
  · cases hb
theorem Cnd.ahead (h : Cnd n st tl wt c st' tl' wt') {o : List Int} {P : Nat → Nat} (hf : Fwd c st' tl' o P) {e : Nat} (he : e < tl.length) : P (numb (BG n st tl) (src st n e)) ≤ P (numb (BG n st tl) (tN tl e)) := by
  have hgd := h.good.1
  obtain ⟨hg, hw, rfl, hs, nx, hl⟩ := h
  by_cases hne : numb (BG n st tl) (src st n e) = numb (BG n st tl) (tN tl e)
  · rw [hne]; exact Nat.le_refl _
  · have hpe := (cd_edge hg hw hs hl).2
    have hv := hg.vtx e he
    obtain ⟨e', e1, e2, e3⟩ := (ee_iff hgd).1 ((hpe (numb (BG n st tl) (src st n e)) (numb (BG n st tl) (tN tl e))).2 ⟨hne, src st n e, tN tl e, src_lt hg he, by unfold tN; omega, (ee_iff hg).2 ⟨e, he, rfl, rfl⟩, rfl, rfl⟩)
    have := hf.edge e' e1
    rw [e2, e3] at this
    omega
end
/-- The places so far. -/
def plL (P : Nat → Nat) (n i : Nat) : List Int := tab n (fun v => if P v < i then (P v : Int) else 0)
theorem plL_zero (P : Nat → Nat) (n : Nat) : plL P n 0 = tab n (fun _ => 0) := tab_congr fun v _ => if_neg (by omega)
theorem plL_all {P : Nat → Nat} {n : Nat} (h : ∀ v, v < n → P v < n) : plL P n n = tab n (fun v => (P v : Int)) := tab_congr fun v hv => if_pos (h v hv)
theorem plL_set {P : Nat → Nat} {n i q : Nat} (hq : P q = i) (hu : ∀ v, v < n → P v = i → v = q) : (plL P n i).set q (i : Int) = plL P n (i + 1) := by
  unfold plL
  rw [tab_set]
  refine tab_congr fun v hv => ?_
  by_cases h : v = q
  · subst h
    rw [if_pos rfl, if_pos (by omega), hq]
  · rw [if_neg h]
    by_cases h2 : P v < i
    · rw [if_pos h2, if_pos (by omega)]
    · rw [if_neg h2, if_neg (by intro h3; exact h (hu v hv (by omega)))]
/-- Two lists of bools as they are read: in one part just if each is reached from the other. -/
theorem part_both {n : Nat} {st tl wt : List Int} (hg : Good n st tl wt) {v u : Nat} (hv : v < n) (hu : u < n) {X Y : List Bool} (hX : ∀ k, k < n → (bAt X k = true ↔ Rch n st tl [(v : Int)] k)) (hY : ∀ k, k < n → (bAt Y k = true ↔ Rch n st tl [(u : Int)] k)) : decide (numb (BG n st tl) v = numb (BG n st tl) u) = (bAt X u && bAt Y v) := by
  rw [Bool.eq_iff_iff, decide_eq_true_eq, Bool.and_eq_true, hX u hu, hY v hv, rch_rc hg, rch_rc hg]
  exact numb_iff (Bo.eqv _)
end Go.Proofs.Ytiohimbifjlfdaa
