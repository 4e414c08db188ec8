import Derived.Test.YtiohimbifjlfdaaTw
/- The answers of Order and Longest, plainly. -/
namespace Go.Proofs.Ytiohimbifjlfdaa
set_option linter.unusedVariables false
theorem least_ex (P : Int → Prop) (n : Nat) (h : ∀ v, P v → 0 ≤ v ∧ v < (n : Int)) (hex : ∃ v, P v) : ∃ u, P u ∧ ∀ v, P v → u ≤ v := by
  have key : ∀ k : Nat, (∃ v, P v ∧ v < (k : Int)) → ∃ u, P u ∧ ∀ v, P v → u ≤ v := by
    intro k
    induction k with
    | zero => rintro ⟨v, hv, h1⟩; have := h v hv; omega
    | succ k ih =>
      rintro ⟨v, hv, h1⟩
      by_cases hk : ∃ v, P v ∧ v < (k : Int)
      · exact ih hk
      · refine ⟨v, hv, fun x hx => ?_⟩
        rcases Int.lt_or_le x v with h2 | h2
        · exact absurd ⟨x, hx, by omega⟩ hk
        · exact h2
  obtain ⟨v, hv⟩ := hex
  exact key n ⟨v, hv, (h v hv).2⟩
theorem fin_ex (n : Nat) (st tl : List Int) : ∃ l, Fin n st tl l := by
  have key : ∀ k l, Sq n st tl l → n - l.length ≤ k → ∃ l', Fin n st tl l' := by
    intro k
    induction k with
    | zero =>
      intro l hl hk
      refine ⟨l, hl, fun v hv => ?_⟩
      obtain ⟨u, hu, hm⟩ := least_ex (Rdy n tl (dn n st l) l) n (fun v hv => hv.1) ⟨v, hv⟩
      have := Sq.len n st tl (.snoc hl hu hm)
      simp at this
      omega
    | succ k ih =>
      intro l hl hk
      by_cases hex : ∃ v, Rdy n tl (dn n st l) l v
      · obtain ⟨u, hu, hm⟩ := least_ex (Rdy n tl (dn n st l) l) n (fun v hv => hv.1) hex
        have h1 := Sq.snoc hl hu hm
        refine ih _ h1 ?_
        have := Sq.len n st tl h1
        simp at this ⊢
        omega
      · exact ⟨l, hl, fun v hv => hex ⟨v, hv⟩⟩
  exact key _ [] .nil (Nat.le_refl _)
noncomputable def ordL (n : Nat) (st tl : List Int) : List Int := (fin_ex n st tl).choose
theorem ordL_fin (n : Nat) (st tl : List Int) : Fin n st tl (ordL n st tl) := (fin_ex n st tl).choose_spec
theorem ordL_eq {n : Nat} {st tl l : List Int} (h : Fin n st tl l) : l = ordL n st tl := fin_one n st tl h (ordL_fin n st tl)
/-- What Order answers. -/
noncomputable def ordA (N : Int) (st tl wt : List Int) : List Int × Int :=
  if (chk N st tl wt).1 = 0 then (if (ordL N.toNat st tl).length < N.toNat then ([], 33) else (ordL N.toNat st tl, 0)) else ([], (chk N st tl wt).1)
theorem ordA_bad {N : Int} {st tl wt : List Int} (h : ¬ (chk N st tl wt).1 = 0) : ordA N st tl wt = ([], (chk N st tl wt).1) := by unfold ordA; rw [if_neg h]
theorem ordA_few {n : Nat} {st tl wt l : List Int} (h : (chk (n : Int) st tl wt).1 = 0) (hf : Fin n st tl l) (hl : l.length < n) : ordA n st tl wt = ([], 33) := by
  unfold ordA; rw [if_pos h, Int.toNat_natCast, if_pos (by rw [← ordL_eq hf]; exact hl)]
theorem ordA_all {n : Nat} {st tl wt l : List Int} (h : (chk (n : Int) st tl wt).1 = 0) (hf : Fin n st tl l) (hl : ¬ l.length < n) : ordA n st tl wt = (l, 0) := by
  unfold ordA; rw [if_pos h, Int.toNat_natCast, if_neg (by rw [← ordL_eq hf]; exact hl), ← ordL_eq hf]
/-- One edge of u. -/
def stepL (L : List Int) (u a : Nat) : List Int := L.set a (max (at_ L a) (at_ L u + 1))
def rowL (tl : List Int) (L : List Int) (u p : Nat) : Nat → List Int
  | 0 => L
  | j + 1 => stepL (rowL tl L u p j) u (at_ tl (p + j)).toNat
def allL (n : Nat) (st tl l : List Int) : Nat → List Int
  | 0 => tab n (fun _ => 0)
  | i + 1 => rowL tl (allL n st tl l i) (at_ l i).toNat (at_ st (at_ l i).toNat).toNat ((at_ st ((at_ l i).toNat + 1)).toNat - (at_ st (at_ l i).toNat).toNat)
noncomputable def lngA (N : Int) (st tl wt : List Int) : List Int × Int :=
  if (ordA N st tl wt).2 = 0 then (allL N.toNat st tl (ordA N st tl wt).1 (ordA N st tl wt).1.length, 0) else ([], (ordA N st tl wt).2)
def Bd (n : Nat) (b : Int) (L : List Int) : Prop := L.length = n ∧ ∀ v, v < n → 0 ≤ at_ L v ∧ at_ L v ≤ b
theorem bd_zero (n : Nat) : Bd n 0 (tab n (fun _ => 0)) := ⟨tab_length _ _, fun v hv => by rw [tab_at _ _ _ hv]; omega⟩
theorem Bd.mono {n : Nat} {b c : Int} {L : List Int} (h : Bd n b L) (hc : b ≤ c) : Bd n c L := ⟨h.1, fun v hv => by have := h.2 v hv; omega⟩
theorem bd_step {n : Nat} {b : Int} {L : List Int} {u a : Nat} (h : Bd n b L) (hu : u < n) (ha : a < n) : Bd n (b + 1) (stepL L u a) := by
  refine ⟨by unfold stepL; rw [List.length_set]; exact h.1, fun v hv => ?_⟩
  unfold stepL
  rw [at_set _ _ _ _ (by rw [h.1]; exact ha)]
  have h1 := h.2 v hv; have h2 := h.2 u hu; have h3 := h.2 a ha
  by_cases e : v = a
  · rw [if_pos e]; omega
  · rw [if_neg e]; omega
end Go.Proofs.Ytiohimbifjlfdaa

/- Order, the program's and the document's. -/
namespace Go.Proofs.Ytiohimbifjlfdaa
open Go.RowKit Go.Lib
set_option linter.unusedVariables false
set_option linter.unusedSimpArgs false
theorem RowAt.nil (k : IntKind) (w : World) : RowAt k w (.slice none 0 0) [] := ⟨none, 0, rfl, Nat.le_refl _, by omega, fun _ => rfl, fun a ha => by cases ha⟩
/-- A list and a number are answered. -/
def LN (w : World) (r : List Int × Int) (e : Ending) (w' : World) : Prop := ∃ cv, e = .returned (.tuple #[cv, .int .i64 r.2]) ∧ RowAt .i64 w' cv r.1 ∧ Below w.heap.size w w'
set_option maxHeartbeats 4000000 in
set_option maxRecDepth 100000 in
theorem ord_any (N : Int) (va vb vc : Value) (st tl wt : List Int) (w : World) (hg : GIs w N va vb vc st tl wt) (hst : st.length ≤ 17592186044416) (hto : tl.length ≤ 17592186044416) (hwt : wt.length ≤ 17592186044416) :
    Calls Try.prog 9 #[gAgg N va vb vc] w (LN w (ordA N st tl wt)) := by
  obtain ⟨W, hW⟩ : ∃ W, W = w.alloc (.cells #[.int .i64 N, va, vb, vc] 28) := ⟨_, rfl⟩
  have hbW : Below w.heap.size w W := by rw [hW]; exact below_alloc (Below.refl _ _) _
  have hA : W.heap[w.heap.size]? = some (.cells #[.int .i64 N, va, vb, vc] 28 (0, 0)) := by rw [hW]; exact heap_new _ _
  have HA := hide hA; have HBW := hide hbW; have HG := hide hg
  have HCk := hide (check_all N va vb vc st tl wt W (hg.below hbW) hst hto hwt)
  have HK : Hid (∀ X, Below W.heap.size W X → X.cell? ⟨w.heap.size, 0, none⟩ = some (.int .i64 N) ∧ X.cell? ⟨w.heap.size, 1, none⟩ = some va ∧ X.cell? ⟨w.heap.size, 2, none⟩ = some vb ∧ X.cell? ⟨w.heap.size, 3, none⟩ = some vc) := fun X hX => ⟨box_keep hA hX rfl, box_keep hA hX rfl, box_keep hA hX rfl, box_keep hA hX rfl⟩
  obtain ⟨r1, r2, hr⟩ : ∃ r1 r2, (r1, r2) = chk N st tl wt := ⟨_, _, rfl⟩
  have HR := hide hr
  unfold ChkPost at HCk
  rw [← hr] at HCk
  clear hg hA hbW hr
  unfold gAgg at *
  go_enter Try.func9, Try.ntmps9
  go_upto_region 1 with fail
  rw [← hW]
  clear hW
  obtain ⟨p0, p1, p2, p3⟩ := HK.out _ (Below.refl _ _)
  go_wp2_with fail
  refine HCk.out.mono ?_
  rintro e w1 ⟨rfl, hb1⟩
  have HB1 := hide hb1
  clear p0 p1 p2 p3
  obtain ⟨p0, p1, p2, p3⟩ := HK.out _ hb1
  clear hb1
  by_cases hz : r1 = 0
  · subst hz
    have hc0 : (chk N st tl wt).1 = 0 := by rw [← HR.out]
    obtain ⟨n, rfl, hgood⟩ := chk_good hc0
    have HFw := hide (forwards_any n va vb vc st tl wt w1 ((HG.out.below HBW.out).below HB1.out) hgood)
    unfold gAgg at HFw
    have HC0 := hide hc0
    clear hc0
    go_wp2_with fail
    refine HFw.out.mono ?_
    rintro e w2 ⟨cv, l, rfl, hfin, hrow, hb2⟩
    have HB2 := hide (below_on HB1.out hb2); have HFin := hide hfin; have HRow := hide hrow
    obtain ⟨co, cc, rfl⟩ := hrow.shape
    clear p0 p1 p2 p3 hb2 hfin hrow
    obtain ⟨p0, p1, p2, p3⟩ := HK.out _ HB2.out
    by_cases hlt : l.length < n
    · have HAns := hide (ordA_few HC0.out HFin.out hlt)
      have hlti : (l.length : Int) < (n : Int) := by omega
      obtain ⟨k, hk⟩ : ∃ k, k = l.length := ⟨_, rfl⟩
      rw [← hk] at hlti hlt ⊢
      clear hk
      go_wp2_with fail
      go_ret2
      rw [HAns.out]
      exact ⟨_, rfl, RowAt.nil _ _, below_on HBW.out HB2.out⟩
    · have HAns := hide (ordA_all HC0.out HFin.out hlt)
      have hlti : ¬ (l.length : Int) < (n : Int) := by omega
      obtain ⟨k, hk⟩ : ∃ k, k = l.length := ⟨_, rfl⟩
      have HKK := hide hk
      rw [← hk] at hlti hlt ⊢
      clear hk
      go_wp2_with fail
      go_ret2
      rw [HAns.out]
      exact ⟨_, rfl, by rw [HKK.out]; exact HRow.out, below_on HBW.out HB2.out⟩
  · have HAns : Hid (ordA N st tl wt = ([], r1)) := by
      rw [ordA_bad (by rw [← HR.out]; exact hz), ← HR.out]
      exact hide rfl
    have hzb : (r1 != 0) = true := by simpa using hz
    go_wp2_with fail
    go_ret2
    rw [HAns.out]
    exact ⟨_, rfl, RowAt.nil _ _, below_on HBW.out HB1.out⟩
end Go.Proofs.Ytiohimbifjlfdaa
