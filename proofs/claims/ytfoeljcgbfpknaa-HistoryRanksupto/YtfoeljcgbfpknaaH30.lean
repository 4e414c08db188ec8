/- The program's Ranks. -/
import Derived.Test.YtfoeljcgbfpknaaH29
import Derived.Test.YtfoeljcgbfpknaaH28
namespace Go.Proofs.Ytfoeljcgbfpknaa
open Go.RowKit Go.Lib
set_option linter.unusedVariables false
set_option linter.unusedSimpArgs false
theorem momD_ge (l : List Sp) : ∀ n, n ≤ momD l n
  | 0 => Nat.le_refl _
  | n + 1 => by have := momD_ge l n; unfold momD; split <;> omega
theorem fi_few {l : List Sp} (h : FiA l 0) : l.length ≤ 2000 := by
  have hg := momD_ge l l.length
  rcases h with ⟨_, e⟩ | ⟨h1, _, e⟩ | ⟨h1, _, _, e⟩ | ⟨h1, h2, _, _⟩
  · cases e
  · cases e
  · cases e
  · omega
theorem rks_bd (l : List Sp) (o : List Int) : ∀ i, ∀ x ∈ rks l o i, 0 ≤ x ∧ x ≤ (i : Int)
  | 0, x, hx => by simp [rks] at hx
  | i + 1, x, hx => by
    have ih := rks_bd l o i
    unfold rks at hx
    split at hx
    · have := ih x hx; omega
    · rcases List.mem_append.1 hx with hx | hx
      · have := ih x hx; omega
      · simp only [List.mem_singleton] at hx
        subst hx
        have h1 := rkO_le ((play false nOp l o i).getD []) (spAt l (oN o i)).key ((play false nOp l o i).getD []).length
        have h2 : ((play false nOp l o i).getD []).length ≤ i := by
          cases hp : play false nOp l o i with
          | none => simp
          | some c => exact play_len _ _ _ _ _ _ hp
        omega
theorem rks_ok {l : List Sp} {o : List Int} (h : o.length ≤ 2000) : RkOk (rks l o o.length) := by
  refine ⟨Nat.le_trans (rks_len l o _) h, fun i hi => ?_⟩
  have hm : at_ (rks l o o.length) i ∈ rks l o o.length := by
    simp only [at_, List.getElem?_eq_getElem hi, Option.getD_some]
    exact List.getElem_mem hi
  have := rks_bd l o _ _ hm
  omega
theorem rkV_shape {R : List Int} (h : RkOk R) : ∃ a b c d e, rkV R = #[.int .i64 a, .int .i64 b, .int .i64 c, .float .f64 d, .float .f64 e] ∧ NoN d ∧ NoN e := by
  unfold rkV
  by_cases h0 : R.length = 0
  · rw [if_pos h0]
    exact ⟨0, 0, 0, 0, 0, rfl, ⟨_, zero_fin⟩, ⟨_, zero_fin⟩⟩
  · rw [if_neg h0]
    exact ⟨_, _, _, _, _, rfl, (mn_ok h h0).2, (vr_ok h h0).2⟩
theorem iA_cells : ∀ R : List Int, rCells iA R = R.map (Value.int .i64)
  | [] => rfl
  | a :: l => by rw [rCells_cons, iA_cells l]; rfl
theorem own_row {w : World} {fr : Nat} {v : Value} {R : List Int} (h : ROwn iA 1 3 w fr v R) : RowAt .i64 w v R := by
  refine RowAt.of_owns (base := fr) (e := 3) ?_
  rw [← iA_cells]
  exact h
/-- What Ranks answers. -/
def RaA (l : List Sp) (o : List Int) (V : Array Value) (r : Int) : Prop :=
  (FiA l r ∧ r ≠ 0 ∧ V = zr) ∨ (FiA l 0 ∧ ¬ BrA l o false ∧ V = zr ∧ r = 73) ∨ (FiA l 0 ∧ BrA l o false ∧ V = rkV (rks l o o.length) ∧ r = 0)
theorem RaA.one {l : List Sp} {o : List Int} {V V' : Array Value} {r r' : Int} (h : RaA l o V r) (k : RaA l o V' r') : V = V' ∧ r = r' := by
  rcases h with ⟨a, b, c⟩ | ⟨a, b, c, d⟩ | ⟨a, b, c, d⟩ <;> rcases k with ⟨a', b', c'⟩ | ⟨a', b', c', d'⟩ | ⟨a', b', c', d'⟩
  · exact ⟨c.trans c'.symm, a.one a'⟩
  · exact (b (a.one a')).elim
  · exact (b (a.one a')).elim
  · exact (b' (a'.one a)).elim
  · exact ⟨c.trans c'.symm, d.trans d'.symm⟩
  · exact (b b').elim
  · exact (b' (a'.one a)).elim
  · exact (b' b).elim
  · exact ⟨c.trans c'.symm, d.trans d'.symm⟩
def RaP (l : List Sp) (o : List Int) (w : World) (x : Ending) (w' : World) : Prop := Below w.heap.size w w' ∧ ∃ V r, x = .returned (.tuple #[.agg V, .int .i64 r]) ∧ RaA l o V r
theorem RaP.made {l : List Sp} {o : List Int} {w w' : World} {x : Ending} {V : Array Value} {r : Int} (hb : Below w.heap.size w w') (hx : x = .returned (.tuple #[.agg V, .int .i64 r])) (h : RaA l o V r) : RaP l o w x w' := ⟨hb, V, r, hx, h⟩
theorem results_ct {fn : Func} {p u : Tmp} (h : fn.results = #[.cell p 36, .tmp u]) (tmps : Array Value) (w : World) (g : Nat) (cs : Array Value)
    (hp : tmps.getD p undef = .pointer (some ⟨g, 0, none⟩)) (hg : w.heap[g]? = some (.cells cs 36 (0, 0))) (hc : cs.size = 5) :
    (results fn tmps).run Try.prog w = .ok (.tuple #[.agg cs, tmps.getD u undef]) w := by
  have hl := run_loadVar_row (P := Try.prog) w g 36 36 cs (0, 0) _ hg Try.underlying36 rfl (by rw [hc]; kernel_rfl)
  rw [results_cell_tmp h, hp]
  simp [asAddr, hl, Result.andThen]
set_option maxRecDepth 100000 in
set_option maxHeartbeats 4000000 in
theorem ranks_any (v vo : Value) (l : List Sp) (o : List Int) (w : World) (h : RAt Sp.arr 7 w v l) (ho : RowAt .i64 w vo o) (ht : Tok l) (hw : Wok l) (hl : l.length ≤ 1759218604440) : Calls Try.prog 16 #[v, vo] w (RaP l o w) := by
  have hsf := stf
  have HL := hide (fun W (hb : Below w.heap.size w W) => look_any v l W (h.below hb) ht hw hl)
  have HB := hide (fun W (hb : Below w.heap.size w W) => bearsOut_any v vo l o false W (h.below hb) (ho.below hb) hl)
  have HP := hide (fun W (hb : Below w.heap.size w W) (t : Trn l o false) => playBag_any v vo l o W (h.below hb) (ho.below hb) (fun k hk => ⟨(t.1 k hk).1, (t.1 k hk).2.1⟩) (Nat.le_trans (trn_few t) hl))
  obtain ⟨ao, cap, rfl, _, _⟩ := h.shape
  obtain ⟨bo, bc, rfl⟩ := ho.shape
  clear h ho hl ht hw
  obtain ⟨X, hX⟩ : ∃ X, X = w.alloc (.cells #[.int .i64 0, .int .i64 0, .int .i64 0, .float .f64 0, .float .f64 0] 36) := ⟨_, rfl⟩
  have HBX : Hid (Below w.heap.size w X) := by rw [hX]; exact below_alloc (Below.refl _ _) _
  have HQX : Hid (X.heap[w.heap.size]? = some (.cells #[.int .i64 0, .int .i64 0, .int .i64 0, .float .f64 0, .float .f64 0] 36 (0, 0))) := by rw [hX]; exact heap_new _ _
  have HAg : Hid (w.heap.size ≤ w.heap.size) := Nat.le_refl _
  generalize hA : w.heap.size = A at HQX
  rw [hA] at HAg
  go_enter Try.func16, Try.ntmps16
  go_upto_region 1 with fail
  rw [← hX]
  clear hX
  have HL2 := hide (HL.out X HBX.out)
  clear HL
  go_wp2_with fail
  refine HL2.out.mono ?_
  rintro e w1 ⟨hb1, r, rfl, hfi⟩
  have HB1 := hide (below_on HBX.out hb1)
  have HFI := hide hfi
  replace HQX := hide ((hb1.block _ (lt_of_heap HQX.out)).trans HQX.out)
  clear hb1 hfi HL2 HBX
  have hge : w.heap.size ≤ A := by omega
  by_cases hr : r = 0
  · subst hr
    have HB2 := hide (HB.out w1 HB1.out)
    clear HB
    go_wp2_with fail
    refine HB2.out.mono ?_
    rintro e w2 ⟨hb2, b, rfl, hi2⟩
    have HB3 := hide (below_on HB1.out hb2)
    replace HQX := hide ((hb2.block _ (lt_of_heap HQX.out)).trans HQX.out)
    have HI2 : Hid (b = true ↔ BrA l o false) := by rw [hi2]; exact bo_br HFI.out.hs o false
    have HIO := hide hi2
    clear hb2 hi2 HB2
    cases b with
    | false =>
      have HA : Hid (RaA l o zr 73) := .inr (.inl ⟨HFI.out, fun hh => (by have := HI2.out.2 hh; cases this), rfl, rfl⟩)
      have q0 := cell_of HQX.out (i := 0) rfl
      have q1 := cell_of HQX.out (i := 1) rfl
      have q2 := cell_of HQX.out (i := 2) rfl
      have q3 := cell_of HQX.out (i := 3) rfl
      have q4 := cell_of HQX.out (i := 4) rfl
      have qf := free_of HQX.out
      clear HFI HI2 HIO HP
      go_wp2_with fail
      exact bodyPost_ret (results_ct Try.results16 _ _ A _ rfl (five_set HQX.out) rfl) rfl (RaP.made (five_below HB3.out hge) rfl HA.out)
    | true =>
      have HTR := hide ((HIO.out.1 rfl).1)
      have HBA := hide (HI2.out.1 rfl)
      have HRO : Hid (RkOk (rks l o o.length)) := rks_ok (Nat.le_trans (trn_few HTR.out) (fi_few HFI.out))
      have HP2 := hide (HP.out w2 HB3.out HTR.out)
      clear HI2 HIO HP
      go_wp2_with fail
      refine HP2.out.mono ?_
      rintro e w3 ⟨hb3, ⟨hn, rfl⟩ | ⟨c, hc, v3, rfl, ho3⟩⟩
      · exfalso
        have := (bo_br HFI.out.hs o false).2 HBA.out
        have := this.2.2
        rw [hn] at this
        cases this
      · have HB4 := hide (below_on HB3.out hb3)
        replace HQX := hide ((hb3.block _ (lt_of_heap HQX.out)).trans HQX.out)
        have HSU := hide (sumUp_any v3 _ w3 (own_row ho3) HRO.out)
        clear hb3 hc ho3 HP2
        go_wp2_with fail
        refine HSU.out.mono ?_
        rintro e w4 ⟨rfl, hb4⟩
        have HB5 := hide (below_on HB4.out hb4)
        replace HQX := hide ((hb4.block _ (lt_of_heap HQX.out)).trans HQX.out)
        obtain ⟨c0, c1, c2, c3, c4, hv, _, _⟩ := rkV_shape HRO.out
        have HA : Hid (RaA l o #[.int .i64 c0, .int .i64 c1, .int .i64 c2, .float .f64 c3, .float .f64 c4] 0) := .inr (.inr ⟨HFI.out, HBA.out, hv.symm, rfl⟩)
        rw [hv]
        have q0 := cell_of HQX.out (i := 0) rfl
        have q1 := cell_of HQX.out (i := 1) rfl
        have q2 := cell_of HQX.out (i := 2) rfl
        have q3 := cell_of HQX.out (i := 3) rfl
        have q4 := cell_of HQX.out (i := 4) rfl
        have qf := free_of HQX.out
        clear hv hb4 HSU HFI HTR HBA
        go_wp2_with fail
        exact bodyPost_ret (results_ct Try.results16 _ _ A _ rfl (five_set HQX.out) rfl) rfl (RaP.made (five_below HB5.out hge) rfl HA.out)
  · have hrb : (r != 0) = true := by simp [hr]
    have HA : Hid (RaA l o zr r) := .inl ⟨HFI.out, hr, rfl⟩
    have q0 := cell_of HQX.out (i := 0) rfl
    have q1 := cell_of HQX.out (i := 1) rfl
    have q2 := cell_of HQX.out (i := 2) rfl
    have q3 := cell_of HQX.out (i := 3) rfl
    have q4 := cell_of HQX.out (i := 4) rfl
    have qf := free_of HQX.out
    clear hr HFI HB HP
    go_wp2_with fail
    exact bodyPost_ret (results_ct Try.results16 _ _ A _ rfl (five_set HQX.out) rfl) rfl (RaP.made (five_below HB1.out hge) rfl HA.out)
end Go.Proofs.Ytfoeljcgbfpknaa
