import Derived.Test.YtiohimbifjlfdaaOfRh
import Derived.Test.YtiohimbifjlfdaaKp
import Derived.Deep.LoopGhost
/- goTo, of any enter. -/
namespace Go.Proofs.Ytiohimbifjlfdaa
open Go.RowKit Go.Lib
set_option linter.unusedVariables false
set_option linter.unusedSimpArgs false
theorem Try.info107 : (Try.prog.info? 107).map (fun i => (i.zero, i.size, i.bytes)) = some (some (.agg #[.int .i64 0, .int .i64 0]), 2, 16) := by kernel_rfl
/-- The cells of a way. -/
def wCells (l : List (Nat × Nat)) : List Value := l.flatMap fun a => [.int .i64 (a.1 : Int), .int .i64 (a.2 : Int)]
theorem wCells_snoc (l : List (Nat × Nat)) (a : Nat × Nat) : wCells (l ++ [a]) = wCells l ++ [.int .i64 (a.1 : Int), .int .i64 (a.2 : Int)] := by simp [wCells]
theorem wCells_length (l : List (Nat × Nat)) : (wCells l).length = l.length * 2 := by
  induction l with
  | nil => rfl
  | cons a l ih => simp only [wCells, List.flatMap_cons, List.length_append, List.length_cons, List.length_nil] at ih ⊢; rw [ih]; omega
/-- A walk's memory: its graph, its enter, its way. -/
structure WM (B : Nat) (wr : World) (gb : Array Value) (ev wv : Value) (l : List (Nat × Nat)) : Prop where
  gbx : wr.heap[B]? = some (.cells gb 28 (0, 0))
  ebx : wr.heap[B + 1]? = some (.cells #[ev] 63 (0, 0))
  wbx : wr.heap[B + 1 + 1]? = some (.cells #[wv] 105 (0, 0))
  own : wr.ownsRow (B + 1 + 1 + 1) 107 2 wv l.length (wCells l)
section
variable {B : Nat} {w wr : World} {gb : Array Value} {ev wv : Value} {l : List (Nat × Nat)} {Tn : Nat → Prop}
theorem WM.own_lt (h : WM B wr gb ev wv l) : ∀ k, wv.ownBlock = some k → B + 1 + 1 + 1 ≤ k ∧ k < wr.heap.size := fun k hk => World.ownsRow.lt h.own k hk
theorem WM.size (h : WM B wr gb ev wv l) : B + 1 + 1 + 1 ≤ wr.heap.size := by have := lt_of_heap h.wbx; omega
theorem WM.shape (h : WM B wr gb ev wv l) : ∃ ao c, wv = .slice ao l.length c := by
  obtain ⟨_, ⟨rfl, h0⟩ | ⟨g, cap, cur, rfl, _⟩⟩ := h.own
  · exact ⟨_, _, by rw [h0]⟩
  · exact ⟨_, _, rfl⟩
theorem WM.chg {w' : World} (h : WM B wr gb ev wv l) (hc : Chg Tn wr w') (hT : ∀ k, Tn k → k < B) : WM B w' gb ev wv l := by
  have h1 : ∀ k, B ≤ k → ¬ Tn k := fun k hk ht => by have := hT k ht; omega
  exact ⟨hc.heap h.gbx (h1 _ (by omega)), hc.heap h.ebx (h1 _ (by omega)), hc.heap h.wbx (h1 _ (by omega)), own_chg h.own hc (fun g hg => h1 g (by have := h.own_lt g hg; omega))⟩
/-- One more place on the way. -/
theorem WM.push {w2 : World} {a : Nat × Nat} {g cap k0 : Nat} (h : WM B wr gb ev wv l) (hk0 : k0 = l.length) (hb : Below wr.heap.size wr w) (hgrow : w.grownBy w2 wv.ownBlock) (hown : w2.ownsRow (B + 1 + 1 + 1) 107 2 (.slice (some ⟨g, 0, none⟩) (k0 + 1) cap) (k0 + 1) (wCells l ++ [.int .i64 (a.1 : Int), .int .i64 (a.2 : Int)])) :
    (w2.cell? ⟨B + 1 + 1, 0, none⟩ = some wv ∧ w2.frozen? ⟨B + 1 + 1, 0, none⟩ = false) ∧ WM B (w2.setCell ⟨B + 1 + 1, 0, none⟩ (.slice (some ⟨g, 0, none⟩) (k0 + 1) cap)) gb ev (.slice (some ⟨g, 0, none⟩) (k0 + 1) cap) (l ++ [a]) ∧ Chg (fun k => B ≤ k) wr (w2.setCell ⟨B + 1 + 1, 0, none⟩ (.slice (some ⟨g, 0, none⟩) (k0 + 1) cap)) := by
  have hc : Chg (fun k => wv.ownBlock = some k) wr w2 := (Chg.of_below hb).grown hgrow (fun k hk => .inl hk)
  have hno : ∀ k, k < B + 1 + 1 + 1 → ¬ wv.ownBlock = some k := fun k hk h3 => by have := h.own_lt k h3; omega
  have hw2 := hc.heap h.wbx (hno _ (by omega))
  have hln : (l ++ [a]).length = k0 + 1 := by simp [hk0]
  have hg : B + 1 + 1 + 1 ≤ g := by have := World.ownsRow.lt hown g rfl; omega
  have h3 : Chg (fun k => k = B + 1 + 1) w2 (w2.setCell ⟨B + 1 + 1, 0, none⟩ (.slice (some ⟨g, 0, none⟩) (k0 + 1) cap)) := (Chg.refl (fun k => k = B + 1 + 1) w2).setCell (p := ⟨B + 1 + 1, 0, none⟩) rfl _
  refine ⟨⟨cell_of hw2 rfl, free_of hw2 0⟩, ⟨h3.heap (hc.heap h.gbx (hno _ (by omega))) (by omega), h3.heap (hc.heap h.ebx (hno _ (by omega))) (by omega), heap_set hw2 _, ?_⟩, ?_⟩
  · rw [hln, wCells_snoc]
    exact own_chg (S := fun k => k = B + 1 + 1) hown h3 (fun k hk => by cases hk; show ¬ g = B + 1 + 1; omega)
  · exact (hc.mono (fun k hk => by have := h.own_lt k hk; show B ≤ k; omega)).trans (h3.mono (fun k hk => by show B ≤ k; omega))
/-- What a call of goTo leaves. -/
def GoP (B : Nat) (w0 : World) (gb : Array Value) (ev : Value) (l : List (Nat × Nat)) (a : Nat × Nat) (Tn : Nat → Prop) (PF PT : World → Prop) (e : Ending) (w' : World) : Prop :=
  e = .returned (.tuple #[]) ∧ Chg Tn w0 w' ∧ ∃ wv', (WM B w' gb ev wv' l ∧ PF w') ∨ (WM B w' gb ev wv' (l ++ [a]) ∧ PT w')
end
set_option maxRecDepth 100000 in
set_option maxHeartbeats 4000000 in
/-- goTo: where enter lets it, it stands there now. -/
theorem goTo_any (fe : Nat) (fs : Array Value) (v p n : Nat) (B : Nat) (w0 w : World) (wv : Value) (l : List (Nat × Nat)) (va vb vc : Value) (st tl wt : List Int) (Tn : Nat → Prop) (PF PT : World → Prop) (eg : ∀ args w, (callFunc fe args).run Try.prog w = .ok (.enter fe args) w)
    (hB : B = w0.heap.size) (h0 : Chg Tn w0 w) (hm : WM B w #[.int .i64 n, va, vb, vc] (.func (.func fe) #[] fs) wv l) (hT : ∀ k, Tn k → k < B) (hG : ∀ W, Chg Tn w0 W → GIs W n va vb vc st tl wt)
    (hp : at_ st v = (p : Int)) (hv : v < st.length) (hl : l.length ≤ 1048576)
    (hPT : ∀ W W', PT W → (∀ k, k < B → W'.heap[k]? = W.heap[k]?) → PT W')
    (h : Calls Try.prog fe (#[.int .i64 (v : Int)] ++ fs) w fun e w' => Chg Tn w w' ∧ ((e = .returned (.bool false) ∧ PF w') ∨ (e = .returned (.bool true) ∧ PT w'))) :
    Calls Try.prog 60 #[.int .i64 (v : Int), .pointer (some ⟨B + 1, 0, none⟩), .pointer (some ⟨B + 1 + 1, 0, none⟩), .pointer (some ⟨B, 0, none⟩)] w (GoP B w0 #[.int .i64 n, va, vb, vc] (.func (.func fe) #[] fs) l (v, p) Tn PF PT) := by
  obtain ⟨i0, hi, hz0, hz1, hz2⟩ := info_parts Try.info107
  have he := cell_of hm.ebx (i := 0) rfl
  have HH := hide h; have HM := hide hm; have H0 := hide h0; have HG := hide hG; have HL := hide hl; have HP := hide hp; have HPT := hide hPT; have HT := hide hT; have HBB := hide hB
  have HV := hide hv
  clear h hm h0 hG hl hp hPT hT hv hB
  go_enter Try.func60, Try.ntmps60
  go_wp2_with fail
  refine HH.out.mono ?_
  rintro e w1 ⟨hc1, ⟨rfl, hpf⟩ | ⟨rfl, hpt⟩⟩
  · have HC1 := hide hc1; have HPF := hide hpf
    clear hc1 hpf
    go_wp2_with fail
    first | go_end0 | refine bodyPost_ret (results_none rfl _ _ _) rfl ?_
    exact ⟨rfl, H0.out.trans HC1.out, wv, .inl ⟨HM.out.chg HC1.out HT.out, HPF.out⟩⟩
  · have HC1 := hide (H0.out.trans hc1); have HM1 := hide (HM.out.chg hc1 HT.out); have HPT1 := hide hpt
    clear hc1 hpt he HM H0 HH
    obtain ⟨ga, oa, ca, hva, hca, hs⟩ := (HG.out w1 HC1.out).s.cellAt v HV.out
    subst hva
    rw [HP.out] at hs
    have c0 := cell_of HM1.out.wbx (i := 0) rfl
    have hG1 := cell_of HM1.out.gbx (i := 1) rfl
    obtain ⟨co, cc, rfl⟩ := HM1.out.shape
    obtain ⟨k0, hk0⟩ : ∃ k0, k0 = l.length := ⟨_, rfl⟩
    have HK0 := hide hk0
    rw [← hk0] at HL HM1 c0
    have hvl : (v : Int) < (st.length : Int) := by have := HV.out; omega
    have hkl : k0 ≤ 1048576 := HL.out
    have hsz : B + 1 + 1 + 1 ≤ w1.heap.size := HM1.out.size
    have HOW : Hid (w1.ownsRow (B + 1 + 1 + 1) 107 2 (.slice co k0 cc) k0 (wCells l)) := by have := HM1.out.own; rw [← hk0] at this; exact this
    have HKL := hide hkl; have HSZ := hide hsz
    clear hk0 hkl hsz
    go_upto_region 1 with fail
    have c0a : (w1.alloc (.cells #[.int .i64 (v : Int), .int .i64 (p : Int)] 107)).cell? ⟨B + 1 + 1, 0, none⟩ = some (.slice co k0 cc) := (below_cell (below_alloc (Below.refl _ _) _) (block_of_cell c0)).trans c0
    clear eg
    refine wp_region_noPanic ?_
    go_region_law ((refine step_append_lies _ (by rfl) _ _ _ (by rfl) (B + 1 + 1 + 1) 107 i0 (.agg #[.int .i64 0, .int .i64 0]) 2 16 Try.underlying105 hi hz0 hz1 hz2 rfl (by omega) (.slice co k0 cc) k0 (wCells l) (by rfl) (by first | exact (HOW.out.alloc _).drew | exact HOW.out.drew.alloc _) ⟨w1.heap.size, 0, none⟩ 1 1 [.int .i64 (v : Int), .int .i64 (p : Int)] (by rfl) (by rfl) (by first | exact two_at w1.drew _ _ _ | exact two_at w1 _ _ _) (by simp [Value.oneCell']) (by omega) (by unfold maxLen; have := HKL.out; omega) (by have := HKL.out; omega) (by have := HSZ.out; simp; omega) (w1.heap.size + 1) (by simp) ?_; intro g8 cap8 w8 hown hgrow hat hlt2; obtain ⟨⟨z0, zf⟩, hpush⟩ := HM1.out.push (a := (v, p)) HK0.out (by first | exact (below_alloc (Below.refl _ _) _).drew | exact below_alloc (Below.refl _ _).drew _) hgrow hown; have HPU := hide hpush; clear hown hgrow hat hlt2 hpush))
    all_goals (
      refine NoPanic.normal ?_
      first | go_end0 | refine bodyPost_ret (results_none rfl _ _ _) rfl ?_
      refine ⟨rfl, ?_, _, .inr ⟨HPU.out.1, HPT.out w1 _ HPT1.out (fun k hk => HPU.out.2.block k (by have := HSZ.out; omega) (by omega))⟩⟩
      have h1 := HC1.out
      have h2 := HPU.out.2
      have h3 := HBB.out
      exact ⟨h2.os.trans h1.os, h2.tape.trans h1.tape, h2.output.trans h1.output, Nat.le_trans h1.size h2.size, fun k hk ht => (h2.block k (Nat.lt_of_lt_of_le hk h1.size) (by omega)).trans (h1.block k hk ht)⟩)
end Go.Proofs.Ytiohimbifjlfdaa

/- walk, of any enter and leave. -/
namespace Go.Proofs.Ytiohimbifjlfdaa
open Go.RowKit Go.Lib
set_option linter.unusedVariables false
set_option linter.unusedSimpArgs false
/-- The last place of a way, in memory. -/
theorem way_last {w : World} {lo k : Nat} {ao : Option Addr} {c u p : Nat} {l : List (Nat × Nat)} (h : w.ownsRow lo 107 2 (.slice ao (k + 1) c) (k + 1) (wCells (l ++ [(u, p)]))) (hk : l.length = k) :
    ∃ g, ao = some ⟨g, 0, none⟩ ∧ lo ≤ g ∧ k + 1 ≤ c ∧ c ≤ maxLen ∧ w.cell? ⟨g, k * 2, none⟩ = some (.int .i64 (u : Int)) ∧ w.cell? ⟨g, k * 2 + 1, none⟩ = some (.int .i64 (p : Int)) ∧ w.frozen? ⟨g, k * 2 + 1, none⟩ = false ∧
      w.ownsRow lo 107 2 (.slice (some ⟨g, 0, none⟩) k c) k (wCells l) ∧
      ∀ q : Nat, (w.setCell ⟨g, k * 2 + 1, none⟩ (.int .i64 (q : Int))).ownsRow lo 107 2 (.slice (some ⟨g, 0, none⟩) (k + 1) c) (k + 1) (wCells (l ++ [(u, q)])) := by
  obtain ⟨h1, ⟨he, _⟩ | ⟨g, cap, cur, he, hl, hh, hnc, hcm, hcur, htake⟩⟩ := h
  · simp at he
  · simp only [Value.slice.injEq, true_and] at he
    obtain ⟨rfl, rfl⟩ := he
    have hwl : (wCells l).length = k * 2 := by rw [wCells_length, hk]
    have hc : ∀ j, j < 2 → cur.toList[k * 2 + j]? = [Value.int .i64 (u : Int), .int .i64 (p : Int)][j]? := fun j hj => by
      have h2 : (cur.toList.take ((k + 1) * 2))[k * 2 + j]? = (wCells (l ++ [(u, p)]))[k * 2 + j]? := by rw [htake]
      rw [List.getElem?_take_of_lt (by omega)] at h2
      rw [h2, wCells_snoc, List.getElem?_append_right (by omega), hwl]
      congr 1
      omega
    have c0 := hc 0 (by omega)
    have c1 := hc 1 (by omega)
    rw [Nat.add_zero] at c0
    refine ⟨g, rfl, hl, hnc, hcm, cell_of hh (by rw [← Array.getElem?_toList, c0]; rfl), cell_of hh (by rw [← Array.getElem?_toList, c1]; rfl), free_of hh _, ?_, fun q => ?_⟩
    · refine ⟨by rw [hwl], .inr ⟨g, c, cur, rfl, hl, hh, by omega, hcm, hcur, ?_⟩⟩
      have e : cur.toList.take (k * 2) = (cur.toList.take ((k + 1) * 2)).take (k * 2) := by rw [List.take_take, Nat.min_eq_left (by omega)]
      rw [e, htake, wCells_snoc, List.take_append_of_le_length (by omega), List.take_of_length_le (by omega)]
    · refine ⟨by rw [wCells_length]; simp [hk], .inr ⟨g, c, cur.setIfInBounds (k * 2 + 1) (.int .i64 (q : Int)), rfl, hl, heap_set hh _, hnc, hcm, by simpa using hcur, ?_⟩⟩
      rw [Array.toList_setIfInBounds, List.take_set, htake, wCells_snoc, wCells_snoc, List.set_append_right _ _ (by omega), hwl, show k * 2 + 1 - k * 2 = 1 by omega]
      rfl
section
variable {B : Nat} {w wr : World} {gb : Array Value} {ev : Value} {l : List (Nat × Nat)} {Tn : Nat → Prop}
/-- The edge to be looked at moves on. -/
theorem WM.next {u p g c q k : Nat} (h : WM B wr gb ev (.slice (some ⟨g, 0, none⟩) (k + 1) c) (l ++ [(u, p)])) (hk : k = l.length) : WM B (wr.setCell ⟨g, k * 2 + 1, none⟩ (.int .i64 (q : Int))) gb ev (.slice (some ⟨g, 0, none⟩) (k + 1) c) (l ++ [(u, q)]) ∧ Chg (fun k => B ≤ k) wr (wr.setCell ⟨g, k * 2 + 1, none⟩ (.int .i64 (q : Int))) := by
  have e1 : (l ++ [(u, p)]).length = k + 1 := by simp [hk]
  have e2 : (l ++ [(u, q)]).length = k + 1 := by simp [hk]
  have ho := h.own
  rw [e1] at ho
  obtain ⟨g', hg', hlo, _, _, _, _, _, _, hset⟩ := way_last ho hk.symm
  simp only [Option.some.injEq, Addr.mk.injEq, and_true] at hg'
  subst hg'
  have hc : Chg (fun k => k = g) wr (wr.setCell ⟨g, k * 2 + 1, none⟩ (.int .i64 (q : Int))) := (Chg.refl (fun k => k = g) wr).setCell (p := ⟨g, k * 2 + 1, none⟩) rfl _
  exact ⟨⟨hc.heap h.gbx (by omega), hc.heap h.ebx (by omega), hc.heap h.wbx (by omega), by rw [e2]; exact hset q⟩, hc.mono fun k hk => by show B ≤ k; omega⟩
/-- It goes back. -/
theorem WM.pop {a : Nat × Nat} {g c k : Nat} (h : WM B wr gb ev (.slice (some ⟨g, 0, none⟩) (k + 1) c) (l ++ [a])) (hk : k = l.length) : WM B (wr.setCell ⟨B + 1 + 1, 0, none⟩ (.slice (some ⟨g, 0, none⟩) k c)) gb ev (.slice (some ⟨g, 0, none⟩) k c) l ∧ Chg (fun k => B ≤ k) wr (wr.setCell ⟨B + 1 + 1, 0, none⟩ (.slice (some ⟨g, 0, none⟩) k c)) := by
  have e1 : (l ++ [a]).length = k + 1 := by simp [hk]
  have ho := h.own
  rw [e1] at ho
  obtain ⟨g', hg', hlo, _, _, _, _, _, hpop, _⟩ := way_last (u := a.1) (p := a.2) ho hk.symm
  simp only [Option.some.injEq, Addr.mk.injEq, and_true] at hg'
  subst hg'
  have hc : Chg (fun k => k = B + 1 + 1) wr (wr.setCell ⟨B + 1 + 1, 0, none⟩ (.slice (some ⟨g, 0, none⟩) k c)) := (Chg.refl (fun k => k = B + 1 + 1) wr).setCell (p := ⟨B + 1 + 1, 0, none⟩) rfl _
  exact ⟨⟨hc.heap h.gbx (by omega), hc.heap h.ebx (by omega), heap_set h.wbx _, by rw [← hk]; exact own_chg (S := fun k => k = B + 1 + 1) hpop hc (fun k hk => by cases hk; show ¬ g = B + 1 + 1; omega)⟩, hc.mono fun k hk => by show B ≤ k; omega⟩
/-- What lies beyond B is no matter. -/
theorem Chg.over {w0 w1 w2 : World} (h1 : Chg Tn w0 w1) (h2 : Chg (fun k => B ≤ k) w1 w2) (h3 : B = w0.heap.size) : Chg Tn w0 w2 :=
  ⟨h2.os.trans h1.os, h2.tape.trans h1.tape, h2.output.trans h1.output, Nat.le_trans h1.size h2.size, fun k hk ht => (h2.block k (Nat.lt_of_lt_of_le hk h1.size) (by omega)).trans (h1.block k hk ht)⟩
end
set_option maxRecDepth 100000 in
set_option maxHeartbeats 8000000 in
theorem walk_any (fe fl : Nat) (fs fls : Array Value) (n v0 : Nat) (w0 : World) (va vb vc : Value) (st tl wt : List Int) (Tn : Nat → Prop) (J0 : World → Prop) (J : Nat → List (Nat × Nat) → World → Prop)
    (eg : ∀ args w, (callFunc fe args).run Try.prog w = .ok (.enter fe args) w) (el : ∀ args w, (callFunc fl args).run Try.prog w = .ok (.enter fl args) w)
    (hg : Good n st tl wt) (hv0 : v0 < n) (hT : ∀ k, Tn k → k < w0.heap.size) (hG : ∀ W, Chg Tn w0 W → GIs W n va vb vc st tl wt)
    (hJ : ∀ m l W W', J m l W → (∀ k, k < w0.heap.size → W'.heap[k]? = W.heap[k]?) → J m l W')
    (hJ0 : ∀ W W', J0 W → (∀ k, k < w0.heap.size → W'.heap[k]? = W.heap[k]?) → J0 W') (hst : J0 w0)
    (hpl : ∀ m l W, J m l W → l.length ≤ n ∧ ∀ a, a ∈ l → a.1 < n ∧ sN st a.1 ≤ a.2 ∧ a.2 ≤ sN st (a.1 + 1))
    (hf : ∀ W, J0 W → Calls Try.prog fe (#[.int .i64 (v0 : Int)] ++ fs) W fun e w' => Chg Tn W w' ∧ ((e = .returned (.bool false) ∧ ∃ m', J m' [] w') ∨ (e = .returned (.bool true) ∧ ∃ m', J m' [(v0, sN st v0)] w')))
    (hn : ∀ m l u p W, J m (l ++ [(u, p)]) W → p < sN st (u + 1) → Calls Try.prog fe (#[.int .i64 ((tN tl p : Nat) : Int)] ++ fs) W fun e w' => Chg Tn W w' ∧ ((e = .returned (.bool false) ∧ ∃ m', m' < m ∧ J m' (l ++ [(u, p + 1)]) w') ∨ (e = .returned (.bool true) ∧ ∃ m', m' < m ∧ J m' (l ++ [(u, p + 1)] ++ [(tN tl p, sN st (tN tl p))]) w')))
    (hlv : ∀ m l u W, J m (l ++ [(u, sN st (u + 1))]) W → Calls Try.prog fl (#[.int .i64 (u : Int)] ++ fls) W fun e w' => e = .returned (.tuple #[]) ∧ Chg Tn W w' ∧ ∃ m', m' < m ∧ J m' l w') :
    Calls Try.prog 35 #[gAgg n va vb vc, .int .i64 (v0 : Int), .func (.func fe) #[] fs, .func (.func fl) #[] fls] w0 fun e w' => e = .returned (.tuple #[]) ∧ Chg Tn w0 w' ∧ ∃ m, J m [] w' := by
  have hnl := hg.n_le
  have hml := hg.m_le
  have HNL := hide hnl
  obtain ⟨B, hB⟩ : ∃ B, B = w0.heap.size := ⟨_, rfl⟩
  obtain ⟨w1, hw1⟩ : ∃ w1, w1 = ((w0.alloc (.cells #[.int .i64 n, va, vb, vc] 28)).alloc (.cells #[.func (.func fe) #[] fs] 63)).alloc (.cells #[.slice none 0 0] 105) := ⟨_, rfl⟩
  have hM1 : WM B w1 #[.int .i64 n, va, vb, vc] (.func (.func fe) #[] fs) (.slice none 0 0) [] := by
    subst hB; rw [hw1]
    refine ⟨?_, ?_, ?_, ⟨rfl, .inl ⟨rfl, rfl⟩⟩⟩
    · exact (Below.heap_alloc _ _ _ (by simp; omega)).trans ((Below.heap_alloc _ _ _ (by simp)).trans (heap_new _ _))
    · have := heap_new (w0.alloc (.cells #[.int .i64 n, va, vb, vc] 28)) (.cells #[.func (.func fe) #[] fs] 63)
      rw [World.size_alloc] at this
      exact (Below.heap_alloc _ _ _ (by simp)).trans this
    · have := heap_new ((w0.alloc (.cells #[.int .i64 n, va, vb, vc] 28)).alloc (.cells #[.func (.func fe) #[] fs] 63)) (.cells #[.slice none 0 0] 105)
      rw [World.size_alloc, World.size_alloc] at this
      exact this
  have hC1 : Chg Tn w0 w1 := by rw [hw1]; exact (((Chg.refl _ _).alloc _).alloc _).alloc _
  have hO1 : ∀ k, k < w0.heap.size → w1.heap[k]? = w0.heap[k]? := fun k hk => by
    rw [hw1]
    exact (Below.heap_alloc _ _ _ (by simp; omega)).trans ((Below.heap_alloc _ _ _ (by simp; omega)).trans (Below.heap_alloc _ _ _ hk))
  have hGo : ∀ (v p : Nat) (W : World) (wv : Value) (l : List (Nat × Nat)) (PF PT : World → Prop), Chg Tn w0 W → WM B W #[.int .i64 n, va, vb, vc] (.func (.func fe) #[] fs) wv l → v < n → p = sN st v → l.length ≤ n → (∀ W W', PT W → (∀ k, k < B → W'.heap[k]? = W.heap[k]?) → PT W') → (Calls Try.prog fe (#[.int .i64 (v : Int)] ++ fs) W fun e w' => Chg Tn W w' ∧ ((e = .returned (.bool false) ∧ PF w') ∨ (e = .returned (.bool true) ∧ PT w'))) →
      Calls Try.prog 60 #[.int .i64 (v : Int), .pointer (some ⟨B + 1, 0, none⟩), .pointer (some ⟨B + 1 + 1, 0, none⟩), .pointer (some ⟨B, 0, none⟩)] W (GoP B w0 #[.int .i64 n, va, vb, vc] (.func (.func fe) #[] fs) l (v, p) Tn PF PT) :=
    fun v p W wv l PF PT h1 h2 h3 h4 h5 h6 h7 => goTo_any fe fs v p n B w0 W wv l va vb vc st tl wt Tn PF PT eg hB h1 h2 (by rw [hB]; exact hT) hG (by have := hg.range v (by omega); rw [h4]; unfold sN; omega) (by rw [hg.s_len]; omega) (by omega) h6 h7
  rw [← hB] at hT hJ hJ0 hO1
  have HGO := hide hGo; have HJ := hide hJ; have HST := hide (hJ0 w0 w1 hst hO1); have HPL := hide hpl; have HF := hide hf; have HN := hide hn; have HLV := hide hlv; have HT := hide hT; have HGI := hide hG; have HGD := hide hg; have HM1 := hide hM1; have HC1 := hide hC1
  have HBB := hide hB
  clear hGo hJ hJ0 hst hpl hf hn hlv hT hG hg hM1 hC1 hO1
  have HG1 := hide (HGO.out v0 (sN st v0) w1 (.slice none 0 0) [] (fun W => ∃ m', J m' [] W) (fun W => ∃ m', J m' [(v0, sN st v0)] W) HC1.out HM1.out hv0 rfl (Nat.zero_le _) (fun W W' h1 h2 => by obtain ⟨m', h3⟩ := h1; exact ⟨m', HJ.out _ _ _ _ h3 h2⟩) (HF.out w1 HST.out))
  unfold gAgg
  clear eg
  obtain ⟨ga, oa, ca, hva, hca, _⟩ := (HGI.out w0 (Chg.refl _ _)).s.cellAt 0 (by rw [HGD.out.s_len]; omega)
  obtain ⟨bo, cb, hvb⟩ := (HGI.out w0 (Chg.refl _ _)).t.shape
  subst hva hvb
  go_enter Try.func35, Try.ntmps35
  go_upto_region 3 with fail
  rw [← hw1, ← hB]
  clear hw1 hB
  go_wp2_with (first
    | (refine HG1.out.mono ?_; rintro e w2 ⟨rfl, hc2, wv2, hm2⟩; have HC2 := hide hc2; have HM2 := hide hm2; clear hc2 hm2 HG1)
    | fail)
  obtain ⟨l2, m2, hrel0⟩ : ∃ l2 m2, WM B w2 #[.int .i64 n, .slice (some ⟨ga, oa, none⟩) st.length ca, .slice bo tl.length cb, vc] (.func (.func fe) #[] fs) wv2 l2 ∧ J m2 l2 w2 := by
    rcases HM2.out with ⟨h1, m', h2⟩ | ⟨h1, m', h2⟩
    · exact ⟨_, m', h1, h2⟩
    · exact ⟨_, m', h1, h2⟩
  have HR0 := hide hrel0
  clear hrel0 HM2 HM1 HC1 HST HF
  go_loopg [] m2 (fun M wr => ∃ (l : List (Nat × Nat)) (wv : Value), WM B wr #[.int .i64 n, .slice (some ⟨ga, oa, none⟩) st.length ca, .slice bo tl.length cb, vc] (.func (.func fe) #[] fs) wv l ∧ Chg Tn w0 wr ∧ J M l wr)
  case atStart => exact ⟨_, _, HR0.out.1, HC2.out, HR0.out.2⟩
  case round =>
    obtain ⟨l, wv, hm, hc, hj⟩ := hrel
    have HMR := hide hm; have HCR := hide hc; have HJR := hide hj
    clear hm hc hj HR0 HC2
    rcases List.eq_nil_or_concat l with rfl | ⟨l0, a, rfl⟩
    · obtain ⟨ao, cc, rfl⟩ := HMR.out.shape
      have c0 : wr.cell? ⟨B + 1 + 1, 0, none⟩ = some (.slice ao 0 cc) := cell_of HMR.out.wbx (i := 0) rfl
      go_wp2_with fail
      first | go_end0 | refine bodyPost_ret (results_none rfl _ _ _) rfl ?_
      exact ⟨rfl, HCR.out, _, HJR.out⟩
    · rw [List.concat_eq_append] at HMR HJR
      obtain ⟨u, p⟩ := a
      obtain ⟨k, hk⟩ : ∃ k, k = l0.length := ⟨_, rfl⟩
      have hlk : (l0 ++ [(u, p)]).length = k + 1 := by simp [hk]
      obtain ⟨ao, cc, rfl⟩ := HMR.out.shape
      rw [hlk] at HMR
      have how := HMR.out.own
      rw [hlk] at how
      obtain ⟨g, rfl, hlo, hkc, hcm, d0, d1, df, _, _⟩ := way_last how hk.symm
      obtain ⟨hln, hpl⟩ := HPL.out _ _ _ HJR.out
      obtain ⟨hun, hp1, hp2⟩ := hpl (u, p) (by simp)
      have c0 : wr.cell? ⟨B + 1 + 1, 0, none⟩ = some (.slice (some ⟨g, 0, none⟩) (k + 1) cc) := cell_of HMR.out.wbx (i := 0) rfl
      have cf := free_of HMR.out.wbx 0
      have c1 : wr.cell? ⟨B, 1, none⟩ = some (.slice (some ⟨ga, oa, none⟩) st.length ca) := cell_of HMR.out.gbx (i := 1) rfl
      have c2 : wr.cell? ⟨B, 1 + 1, none⟩ = some (.slice bo tl.length cb) := cell_of HMR.out.gbx (i := 2) rfl
      obtain ⟨q, hq⟩ : ∃ q : Nat, at_ st (u + 1) = (q : Int) := ⟨sN st (u + 1), by have := HGD.out.range (u + 1) (by show u + 1 ≤ n; exact hun); unfold sN; omega⟩
      obtain ⟨ga2, oa2, ca2, he2, _, x1⟩ := (HGI.out wr HCR.out).s.cellAt (u + 1) (by rw [HGD.out.s_len]; have : u < n := hun; omega)
      simp only [Value.slice.injEq, Option.some.injEq, Addr.mk.injEq, and_true, true_and] at he2
      obtain ⟨⟨rfl, rfl⟩, rfl⟩ := he2
      rw [hq] at x1
      have HK := hide hk; have HLK := hide hlk; have HHL := hide hlo; have HKC := hide hkc; have HPP := hide hp1; have HPQ := hide hp2; have HQ := hide hq; have HLN := hide hln
      have hus : (u : Int) + 1 < (st.length : Int) := by have := HGD.out.s_len; have : u < n := hun; omega
      have hkb : k < 1048577 := by have := HNL.out; rw [hlk] at hln; omega
      have hk1 : (k : Int) < ((k : Int) + 1) := by omega
      clear hlk hk how hln hpl hp1 hp2 hq hlo hkc hcm
      go_upto_region 6 with fail
      rcases Nat.lt_or_ge p q with hpq | hpq
      · have hpb : ((p : Int) == (q : Int)) = false := by simp; omega
        obtain ⟨t, ht⟩ : ∃ t, t = tN tl p := ⟨_, rfl⟩
        have hpq2 : p < sN st (u + 1) := by have := HQ.out; unfold sN; omega
        have hpm : p < tl.length := by have := HGD.out.range (u + 1) (by have : u < n := hun; omega); unfold sN at hpq2; omega
        have htv := HGD.out.vtx p hpm
        have htn : t < n := by rw [ht]; unfold tN; omega
        obtain ⟨gb2, ob2, cb2, he3, hcb3, x2⟩ := (HGI.out wr HCR.out).t.cellAt p hpm
        simp only [Value.slice.injEq, true_and] at he3
        obtain ⟨rfl, rfl⟩ := he3
        rw [show at_ tl p = (t : Int) by rw [ht]; unfold tN; omega] at x2
        have HTT := hide ht; have HPQ2 := hide hpq2; have HPM := hide hpm
        have hpi : (p : Int) < (tl.length : Int) := by omega
        have HTN := hide htn
        have hpn : p ≤ 4194304 := by have := HGD.out.m_le; omega
        clear htv hcb3 ht hpq2 hpm hpq htn
        go_quiet (fail)
        go_upto_region 9 with fail
        revert nq
        intro n1
        go_quiet (fail)
        revert nq
        intro n2
        have HBQ : Hid (Below wr.heap.size wr ((wr.drewN n1).drewN n2)) := below_drewN (below_drewN (Below.refl _ _) _) _
        generalize (wr.drewN n1).drewN n2 = X at HBQ ⊢
        have hcx : Chg Tn wr X := Chg.of_below HBQ.out
        have hmx := HMR.out.chg hcx HT.out
        have hox := hmx.own
        rw [HLK.out] at hox
        obtain ⟨g', hg', _, _, _, e0, e1, ef, _, _⟩ := way_last hox HK.out.symm
        simp only [Option.some.injEq, Addr.mk.injEq, and_true] at hg'
        subst hg'
        obtain ⟨hnx, hcn⟩ := hmx.next (q := p + 1) HK.out
        rw [show ((p + 1 : Nat) : Int) = (p : Int) + 1 by omega] at hnx hcn
        have HNX := hide hnx
        have HCX : Hid (Chg Tn w0 (X.setCell ⟨g, k * 2 + 1, none⟩ (.int .i64 ((p : Int) + 1)))) := (HCR.out.trans hcx).over hcn HBB.out
        have HOX : Hid (∀ k', k' < B → (X.setCell ⟨g, k * 2 + 1, none⟩ (.int .i64 ((p : Int) + 1))).heap[k']? = wr.heap[k']?) := fun k' hk' => (hcn.block k' (by have := hmx.size; omega) (by omega)).trans (HBQ.out.block k' (by have := HMR.out.size; omega))
        have HCALL := hide (HN.out gk l0 u p _ (HJ.out _ _ _ _ HJR.out HOX.out) HPQ2.out)
        rw [← HTT.out] at HCALL
        have HGC := hide (HGO.out t (sN st t) _ _ (l0 ++ [(u, p + 1)]) (fun W => ∃ m', m' < gk ∧ J m' (l0 ++ [(u, p + 1)]) W) (fun W => ∃ m', m' < gk ∧ J m' (l0 ++ [(u, p + 1)] ++ [(t, sN st t)]) W) HCX.out HNX.out HTN.out rfl (by have := HLN.out; simp at this ⊢; exact this) (fun W W' h1 h2 => by obtain ⟨m', h3, h4⟩ := h1; exact ⟨m', h3, HJ.out _ _ _ _ h4 h2⟩) HCALL.out)
        clear hcx hmx hox hnx hcn HBQ c0 cf c1 c2 d0 d1 df x1 x2 HCALL HOX HNX HCX
        go_wp2_with fail
        refine HGC.out.mono ?_
        rintro e w3 ⟨rfl, hc3, wv3, hm3⟩
        have HC3 := hide hc3; have HM3 := hide hm3
        clear hc3 hm3 HGC e0 e1 ef
        go_wp2_with fail
        rcases HM3.out with ⟨h1, m', h2, h3⟩ | ⟨h1, m', h2, h3⟩
        · go_roundg m'
          case measure => exact h2
          case rel => exact ⟨_, _, h1, HC3.out, h3⟩
        · go_roundg m'
          case measure => exact h2
          case rel => exact ⟨_, _, h1, HC3.out, h3⟩
      · have hpe : p = q := by have := HPQ.out; have := HQ.out; unfold sN at *; simp only at *; omega
        subst hpe
        have HJL : Hid (J gk (l0 ++ [(u, sN st (u + 1))]) wr) := by have := HJR.out; rw [show p = sN st (u + 1) by have := HQ.out; unfold sN; omega] at this; exact this
        have hpb : ((p : Int) == (p : Int)) = true := by simp
        clear HJR hpq
        go_quiet (fail)
        have HBQ : Hid (Below wr.heap.size wr (wr.drewN nq)) := below_drewN (Below.refl _ _) _
        have HLC := hide (HLV.out gk l0 u (wr.drewN nq) (HJ.out _ _ _ _ HJL.out (fun k hk => HBQ.out.block k (by have := HMR.out.size; omega))))
        go_wp2_with fail
        refine HLC.out.mono ?_
        rintro e w3 ⟨rfl, hc3, m', hm', hj3⟩
        have hc4 : Chg Tn wr w3 := (Chg.of_below HBQ.out).trans hc3
        have HM3 := hide (HMR.out.chg hc4 HT.out)
        have HC3 := hide (HCR.out.trans hc4); have HJ3 := hide hj3; have HMM := hide hm'
        clear hc3 hj3 hm' HLC HBQ hc4 c0 cf c1 c2 d0 d1 df x1 HJL
        have c0 : w3.cell? ⟨B + 1 + 1, 0, none⟩ = some (.slice (some ⟨g, 0, none⟩) (k + 1) cc) := cell_of HM3.out.wbx (i := 0) rfl
        have cf := free_of HM3.out.wbx 0
        have hkc1 : (k : Int) ≤ (cc : Int) := by have := HKC.out; omega
        go_wp2_with fail
        obtain ⟨hp1, hp2⟩ := HM3.out.pop HK.out
        go_roundg m'
        case measure => exact HMM.out
        case rel => exact ⟨_, _, hp1, HC3.out.over hp2 HBB.out, HJ.out _ _ _ _ HJ3.out (fun k' hk' => hp2.block k' (by have := HM3.out.size; omega) (by omega))⟩
end Go.Proofs.Ytiohimbifjlfdaa
