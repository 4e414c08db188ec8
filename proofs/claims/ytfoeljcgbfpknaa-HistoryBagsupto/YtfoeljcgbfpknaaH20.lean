/- slices.Delete of one task of a list of one's own. -/
import Derived.Test.YtfoeljcgbfpknaaH19
import Derived.Deep.RegionLaw
namespace Go.Proofs.Ytfoeljcgbfpknaa
open Go.RowKit Go.Lib
set_option linter.unusedVariables false
set_option linter.unusedSimpArgs false
theorem heap_setCells {g : Nat} {t : TypeId} {fr : Nat × Nat} : ∀ (vs : List Value) (o : Nat) (w : World) (cs : Array Value), w.heap[g]? = some (.cells cs t fr) → o + vs.length ≤ cs.size → ∃ cs', (w.setCells g o vs).heap[g]? = some (.cells cs' t fr) ∧ cs'.toList = cs.toList.take o ++ vs ++ cs.toList.drop (o + vs.length)
  | [], o, w, cs, h, _ => ⟨cs, h, by simp⟩
  | v :: r, o, w, cs, h, hl => by
    simp only [List.length_cons] at hl
    obtain ⟨cs', h1, h2⟩ := heap_setCells r (o + 1) (w.setCell ⟨g, o, none⟩ v) _ (heap_set (i := o) h v) (by simp; omega)
    refine ⟨cs', h1, ?_⟩
    have e1 : (cs.toList.set o v).take (o + 1) = cs.toList.take o ++ [v] := by
      rw [List.take_set, List.take_add_one, List.getElem?_eq_getElem (by simp; omega), List.set_append_right _ _ (by simp; omega)]
      simp [List.length_take, Nat.min_eq_left (by omega : o ≤ cs.size)]
    rw [h2, Array.toList_setIfInBounds, e1, List.drop_set_of_lt (by omega), List.length_cons, show o + 1 + r.length = o + (r.length + 1) by omega]
    simp
theorem chg_setCells {S : Nat → Prop} {R : Nat} (hR : S R) : ∀ (vs : List Value) (o : Nat) (a w : World), Chg S a w → Chg S a (w.setCells R o vs)
  | [], _, _, _, h => h
  | v :: r, o, a, w, h => chg_setCells hR r (o + 1) a _ (h.setCell (p := ⟨R, o, none⟩) hR v)
theorem rCells_take {α : Type} {A : α → Array Value} {c : Nat} (hA : ∀ x, (A x).size = c) (l : List α) (i : Nat) (hi : i ≤ l.length) : (rCells A l).take (i * c) = rCells A (l.take i) := by
  conv => lhs; rw [← List.take_append_drop i l, rCells_append]
  rw [List.take_left' (by rw [rCells_length hA, List.length_take, Nat.min_eq_left hi])]
theorem oneTk {l : List Tk} {u : Value} (h : u ∈ rCells Tk.arr l) : u.oneCell' = true := by
  simp only [rCells, List.mem_flatMap] at h
  obtain ⟨x, _, hx⟩ := h
  simp only [Tk.arr, List.mem_cons, List.not_mem_nil, or_false] at hx
  rcases hx with rfl | rfl <;> rfl
/-- The two cells that are cleared. -/
def zz : List Value := [.int .u64 0, .int .u64 0]
theorem run_clear1 {w : World} {g k c : Nat} {cs : Array Value} {t : TypeId} (h : w.heap[g]? = some (.cells cs t (0, 0))) (hk : k + 2 ≤ cs.size) (ty : TypeId) : (Builtin.clear_ #[71] ty #[.slice (some ⟨g, k, none⟩) 1 c]).run Try.prog w = .ok (.tuple #[]) (w.setCells g k zz) := by
  have hst := run_storeCells_cells (P := Try.prog) g k zz 0 w (fun j hj => by
    simp only [zz, List.length_cons, List.length_nil] at hj
    have : cs[k + 0 + j]? = some cs[k + 0 + j] := by simp
    rw [cell_of h this]; rfl) (fun j hj => free_of h _) (fun v hv => by simp only [zz, List.mem_cons, List.not_mem_nil, or_false] at hv; rcases hv with rfl | rfl <;> rfl)
  simp only [Nat.add_zero] at hst
  have e : (Builtin.zeroCells (Value.agg #[.int .u64 0, .int .u64 0]).cells 1) = zz.toArray := by first | (simp [Builtin.zeroCells, Value.cells, zz]; done) | (apply Array.ext'; simp [Builtin.zeroCells, Value.cells, zz, List.range_succ]; done) | (apply Array.ext'; simp [Builtin.zeroCells, Value.cells, zz, Array.toList_range, List.range, List.range.loop])
  simp [Builtin.clear_, run_underlying Try.underlying71, Try.zeroValue67, e, hst]
set_option maxRecDepth 100000 in
set_option maxHeartbeats 2000000 in
theorem delete_any (g n cap i j : Nat) (l : List Tk) (fr : Nat) (w : World) (h : ROwn Tk.arr 2 67 w fr (.slice (some ⟨g, 0, none⟩) n cap) l) (hn : n = l.length) (hi : i < n) (hj : j = i + 1) :
    Calls Try.prog 63 #[.slice (some ⟨g, 0, none⟩) n cap, .int .i64 (i : Int), .int .i64 (j : Int)] w fun x w' => ∃ v', x = .returned v' ∧ ROwn Tk.arr 2 67 w' fr v' (l.eraseIdx i) ∧ v'.ownBlock = some g ∧ Chg (fun k => k = g) w w' := by
  obtain ⟨i0, hi0, hz0, hz1, hz2⟩ := info_parts info67
  rcases ROwn.cut h with ⟨he, _⟩ | ⟨g', cap', cur, he, hg, hh, hnc, hcm, hcur, htake⟩
  · cases he
  simp only [Value.slice.injEq, Option.some.injEq, Addr.mk.injEq, true_and, and_true] at he
  obtain ⟨rfl, he2, rfl⟩ := he
  clear he2 h
  rw [← hn] at hnc htake
  have hcl : cur.toList.length = cap * 2 := by simpa using hcur
  obtain ⟨news, hnw⟩ : ∃ news, news = rCells Tk.arr (l.drop j) := ⟨_, rfl⟩
  have hnl : news.length = (n - j) * 2 := by rw [hnw, rCells_length Tk.size, List.length_drop, hn]
  have hat : ∀ k u, news[k]? = some u → cur[j * 2 + k]? = some u := fun k u hk => by
    have hlt : k < news.length := (List.getElem?_eq_some_iff.1 hk).1
    have e : rCells Tk.arr l = rCells Tk.arr (l.take j) ++ news := by rw [hnw, ← rCells_append, List.take_append_drop]
    have hjl : (rCells Tk.arr (l.take j)).length = j * 2 := by rw [rCells_length Tk.size, List.length_take]; omega
    have e2 : (rCells Tk.arr l)[j * 2 + k]? = some u := by
      rw [e, List.getElem?_append_right (by omega), hjl, show j * 2 + k - j * 2 = k by omega]; exact hk
    rw [← htake, List.getElem?_take_of_lt (by omega)] at e2
    simpa using e2
  -- where s[j:] begins
  obtain ⟨A, hA, hnews⟩ : ∃ A : Addr, (if cap = j then some (⟨g, 0, none⟩ : Addr) else some ⟨g, j * 2, none⟩) = some A ∧ Hid (∀ k u, news[k]? = some u → w.drew.cell? (A.add k) = some u) := by
    by_cases hcj : cap = j
    · refine ⟨⟨g, 0, none⟩, by simp [hcj], fun k u hk => ?_⟩
      have hlt : k < news.length := (List.getElem?_eq_some_iff.1 hk).1
      omega
    · refine ⟨⟨g, j * 2, none⟩, by simp [hcj], fun k u hk => ?_⟩
      rw [Addr.add_lit]
      exact cell_of (w := w.drew) hh (hat k u hk)
  have s1 : Hid (news.length = (n - j) * 2) := hnl
  have s2 : Hid (∀ u ∈ news, u.oneCell' = true) := by intro u hu; rw [hnw] at hu; exact oneTk hu
  have s3 : Hid (∀ k, k < news.length → (w.drew.cell? ⟨g, 0 + i * 2 + k, none⟩).isSome = true ∧ w.drew.frozen? ⟨g, 0 + i * 2 + k, none⟩ = false) := by
    intro k hk
    have hks : 0 + i * 2 + k < cur.size := by omega
    have : cur[0 + i * 2 + k]? = some cur[0 + i * 2 + k] := by simp [hks]
    exact ⟨by rw [cell_of (w := w.drew) hh this]; rfl, free_of (w := w.drew) hh _⟩
  obtain ⟨cs1, g1, g2⟩ := heap_setCells news (0 + i * 2) w.drew cur hh (by omega)
  have g2l : cs1.toList.length = cap * 2 := by rw [g2]; simp [hcl]; omega
  have HCL := hide (fun c ty => run_clear1 (c := c) (k := (n - 1) * 2) g1 (by rw [← Array.length_toList, g2l]; omega) ty)
  obtain ⟨cs2, f1, f2⟩ := heap_setCells zz ((n - 1) * 2) _ cs1 g1 (by rw [← Array.length_toList, g2l]; simp [zz]; omega)
  have HR : Hid (ROwn Tk.arr 2 67 ((w.drew.setCells g (0 + i * 2) news).setCells g ((n - 1) * 2) zz) fr (.slice (some ⟨g, 0, none⟩) (n - 1) cap) (l.eraseIdx i)) := by
    have el : (l.eraseIdx i).length = n - 1 := by rw [List.length_eraseIdx_of_lt (by omega), hn]
    refine ⟨by rw [rCells_length Tk.size], .inr ⟨g, cap, cs2, by rw [el], hg, f1, by rw [el]; omega, hcm, ?_, ?_⟩⟩
    · rw [← Array.length_toList, f2]; simp [zz, g2l]; omega
    · rw [el, f2, List.append_assoc, List.take_append_of_le_length (by rw [List.length_take, g2l]; omega), List.take_take, Nat.min_self, g2, List.take_append_of_le_length (by rw [List.length_append, List.length_take, hcl, hnl]; omega), List.take_of_length_le (by rw [List.length_append, List.length_take, hcl, hnl]; omega)]
      rw [hnw, hj, Nat.zero_add, List.eraseIdx_eq_take_drop_succ, rCells_append]
      congr 1
      rw [← rCells_take Tk.size _ _ (by omega), ← htake, List.take_take, Nat.min_eq_left (by omega)]
  have HG : Hid (Chg (fun k => k = g) w ((w.drew.setCells g (0 + i * 2) news).setCells g ((n - 1) * 2) zz)) := chg_setCells (S := fun k => k = g) rfl _ _ _ _ (chg_setCells (S := fun k => k = g) rfl _ _ _ _ (Chg.refl _ _).drew)
  have hnj : i + (n - j) = n - 1 := by omega
  have hic : i ≤ cap := by omega
  have hin : i ≤ n := by omega
  have hjn : j ≤ n := by omega
  have hij : i ≤ j := by omega
  have hjc : j ≤ cap := by omega
  have hne : ¬ (i : Int) = (j : Int) := by omega
  have hneN : ¬ i = j := by omega
  have hroom : Hid (i + (n - j) ≤ cap) := by show _ ≤ _; omega
  have HNJ := hide hnj
  have hnjI : ((i : Int) == (j : Int)) = false := by simp; omega
  have hn1 : n - 1 ≤ n := by omega
  have hnl1 : n - (n - 1) = 1 := by omega
  have hncap : ¬ cap = n - 1 := by omega
  have HRUN := HCL
  clear hn hj hnj hne hneN hat hnw htake hcl hcur g1 g2 g2l f1 f2 HCL hnl hh
  go_enter Try.func63, Try.ntmps63
  go_wp2_with fail
  go_region_law (refine step_append_room rfl (.tmp 22) (.tmp 25) 71 rfl 67 i0 2 Try.underlying71 hi0 hz1 g 0 i cap (by simp [Act.eval, Act.put]) A (n - j) (cap - j) news (by simp [Act.eval, Act.put]) s1.out hnews.out s2.out hroom.out s3.out ?_)
  rw [HNJ.out]
  rw [Nat.zero_add] at HRUN HR HG
  have hrun := HRUN.out
  go_wp2_with fail
  go_ret
  exact ⟨_, rfl, HR.out, rfl, HG.out⟩
end Go.Proofs.Ytfoeljcgbfpknaa
