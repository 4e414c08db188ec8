/- Copies of spans and of ints with two marks behind them. -/
import Derived.Test.YtfoeljcgbfpknaaMk
import Derived.Test.YtfoeljcgbfpknaaH7
namespace Go.Proofs.Ytfoeljcgbfpknaa
open Go.RowKit Go.Lib
set_option linter.unusedVariables false
set_option linter.unusedSimpArgs false
section
variable {α : Type} {A : α → Array Value} {c : Nat} {t : TypeId}
/-- A copy of a list in a row of one's own, two marks behind it. -/
def RM (A : α → Array Value) (c : Nat) (t : TypeId) (a b : α) (w : World) (fr g cap : Nat) (l : List α) : Prop := ROwn A c t w fr (.slice (some ⟨g, 0, none⟩) (l.length + 2) cap) (l ++ [a, b])
variable {a b : α}
theorem RM.below {w w' : World} {fr g cap : Nat} {l : List α} (h : RM A c t a b w fr g cap l) (hb : Below w.heap.size w w') : RM A c t a b w' fr g cap l := ROwn.below h hb
theorem RM.cap {w : World} {fr g cap : Nat} {l : List α} (h : RM A c t a b w fr g cap l) : l.length + 2 ≤ cap ∧ cap ≤ 9223372036854775807 ∧ fr ≤ g ∧ g < w.heap.size := by
  obtain ⟨g', cap', he, h1, h2, h3, h4⟩ := ROwn.spot h (by simp)
  simp only [Value.slice.injEq, Option.some.injEq, Addr.mk.injEq] at he
  obtain ⟨⟨rfl, _⟩, _, rfl⟩ := he
  exact ⟨by simpa using h1, h2, h3, h4⟩
theorem RM.rat (hA : ∀ x, (A x).size = c) {w : World} {fr g cap : Nat} {l : List α} (h : RM A c t a b w fr g cap l) : RAt A c w (.slice (some ⟨g, 0, none⟩) l.length cap) l := by
  obtain ⟨h1, h2, _, h4⟩ := h.cap
  refine ⟨_, _, rfl, by omega, h2, fun i x hi => ⟨g, 0, rfl, h4, fun j u hu => ?_⟩⟩
  rw [Nat.zero_add]
  refine ROwn.cell hA h ?_ j u hu
  rw [List.getElem?_append_left (List.getElem?_eq_some_iff.1 hi).1]
  exact hi
theorem RM.mark (hA : ∀ x, (A x).size = c) {w : World} {fr g cap : Nat} {l : List α} (h : RM A c t a b w fr g cap l) (j : Nat) (u v : Value) (hu : (A a)[j]? = some u) (hv : (A b)[j]? = some v) : w.cell? ⟨g, l.length * c + j, none⟩ = some u ∧ w.cell? ⟨g, (l.length + 1) * c + j, none⟩ = some v := by
  constructor
  · exact ROwn.cell hA h (k := l.length) (x := a) (by simp) j _ hu
  · exact ROwn.cell hA h (k := l.length + 1) (x := b) (by simp) j _ hv
theorem rm_made {w w1 w2 : World} {v1 v2 : Value} {l : List α} {p : Obj} (h1 : w1.ownsRow w.heap.size t c v1 l.length (rCells A l)) (hb1 : Below w.heap.size w w1)
    (hown : w2.ownsRow w.heap.size t c v2 (l.length + 2) (rCells A l ++ ((A a).toList ++ (A b).toList))) (hgrow : (w1.alloc p).grownBy w2 v1.ownBlock) :
    ∃ g cap, v2 = .slice (some ⟨g, 0, none⟩) (l.length + 2) cap ∧ RM A c t a b w2 w.heap.size g cap l ∧ Below w.heap.size w w2 := by
  have hL : Below w.heap.size w w2 := (hb1.alloc hb1.size _).grown hgrow (by have := hb1.size; simp; omega) (fun j hj => (World.ownsRow.lt h1 j hj).1)
  have h3 : ROwn A c t w2 w.heap.size v2 (l ++ [a, b]) := by
    unfold ROwn
    rw [rCells_append, List.length_append]
    have e : rCells A [a, b] = (A a).toList ++ (A b).toList := by simp [rCells]
    rw [e]
    exact hown
  obtain ⟨g, cap, rfl, _⟩ := h3.spot (by simp)
  have e : (l ++ [a, b]).length = l.length + 2 := by simp
  rw [e] at h3 ⊢
  exact ⟨g, cap, rfl, h3, hL⟩
end
def mkS (x : Int) : Sp := ⟨x, false, 0, 0, 0, 0, 9⟩
def iA (x : Int) : Array Value := #[.int .i64 x]
theorem iA_size (x : Int) : (iA x).size = 1 := rfl
theorem info69 : (Try.prog.info? 69).map (fun i => (i.zero, i.size, i.bytes)) = some (some (.agg #[.int .i64 0, .bool false, .int .u64 0, .int .u64 0, .int .i64 0, .int .i64 0, .int .i64 0]), 7, 56) := by kernel_rfl
theorem info3i : (Try.prog.info? 3).map (fun i => (i.zero, i.size, i.bytes)) = some (some (.int .i64 0), 1, 8) := by kernel_rfl
theorem RowAt.iat {w : World} {v : Value} {l : List Int} (h : RowAt .i64 w v l) : RAt iA 1 w v l := by
  have h0 := h
  obtain ⟨ao, cap, rfl, h1, h2, h3, h4⟩ := h
  refine ⟨ao, cap, rfl, h1, h2, fun i x hi => ?_⟩
  have hlt := (List.getElem?_eq_some_iff.1 hi).1
  obtain ⟨g, o, c, he, hc, hq⟩ := h0.cellAt i hlt
  simp only [Value.slice.injEq, true_and] at he
  obtain ⟨rfl, _⟩ := he
  refine ⟨g, o, rfl, block_of_cell hq, fun j u hu => ?_⟩
  have hj : j = 0 := by have := (Array.getElem?_eq_some_iff.1 hu).1; simp [iA] at this; omega
  subst hj
  simp [iA] at hu
  subst hu
  rw [Nat.mul_one, Nat.add_zero, hq]
  simp [at_, hi]
theorem iat_row {w : World} {ao : Option Addr} {n cap : Nat} {l : List Int} (h : RAt iA 1 w (.slice ao n cap) l) (hn : ao = none → cap = 0) : RowAt .i64 w (.slice ao n cap) l := by
  obtain ⟨ao', cap', he, h1, h2, h3⟩ := h
  simp only [Value.slice.injEq] at he
  obtain ⟨rfl, rfl, rfl⟩ := he
  refine ⟨ao, cap, rfl, h1, h2, hn, fun a ha i hi => ?_⟩
  obtain ⟨g, o, e, hg, p⟩ := h3 i _ (List.getElem?_eq_getElem hi)
  rw [ha] at e
  cases e
  have := p 0 (.int .i64 l[i]) rfl
  rw [Addr.add_lit]
  simpa [hi] using this
set_option maxRecDepth 100000 in
set_option maxHeartbeats 2000000 in
theorem spans_any (v : Value) (l : List Sp) (w : World) (h : RAt Sp.arr 7 w v l) (hlen : l.length ≤ 2513169434880) :
    Calls Try.prog 10 #[v] w fun e w' => ∃ g c, e = .returned (.slice (some ⟨g, 0, none⟩) l.length c) ∧ RM Sp.arr 7 69 (mkS 71) (mkS 72) w' w.heap.size g c l ∧ Below w.heap.size w w' := by
  obtain ⟨i0, hi0, hz0, hz1, hz2⟩ := info_parts info69
  obtain ⟨ao, cap, rfl, hcap, h63⟩ := h.shape
  have H := hide h
  obtain ⟨n, hn⟩ : ∃ n, n = l.length := ⟨_, rfl⟩
  have HN := hide hn
  rw [← hn] at hcap H hlen ⊢
  clear h hn
  go_enter Try.func10, Try.ntmps10
  go_wp2_with (first
    | (at_builtin; refine wpList_freshR Sp.size (by decide) rfl (.tmp 4) (.tmp 5) 22 rfl 69 i0 _ 56 Try.underlying22 hi0 hz0 hz1 hz2 rfl w.heap.size w.heap.size (own_newr w 69 _ 7 rfl) (by simp) _ l rfl rfl (H.out.below (below_alloc (Below.refl _ _) _)) (by rw [← HN.out]; omega) (by rw [← HN.out]; unfold maxLen; omega) ?_; intro v4 w4 hownA hbelA; have HBA := hide (below_on (below_alloc (Below.refl _ _) _) hbelA); clear hbelA)
    | (at_builtin; refine wpList_append_own _ rfl (.tmp 6) (.tmp 9) 22 rfl w.heap.size 69 i0 _ 7 56 Try.underlying22 hi0 hz0 hz1 hz2 rfl (by decide) _ _ _ rfl (hownA.alloc _) ⟨w4.heap.size, 0, none⟩ 2 2 ((mkS 71).arr.toList ++ (mkS 72).arr.toList) rfl rfl (arr_at w4 _ _) (by simp [Value.oneCell', mkS, Sp.arr]) (by unfold maxLen; rw [← HN.out]; omega) (by rw [← HN.out]; omega) (by have hq := HBA.out.size; simp; omega) ?_; intro v5 w5 hownB hgrowB hqB; obtain ⟨g, c, he, hem, hbb⟩ := rm_made hownA HBA.out hownB hgrowB; subst he; rw [← HN.out]; have HEM := hide hem; have hcc := hem.cap; rw [← HN.out] at hcc; have HBB := hide hbb; clear hownA hownB hgrowB hqB hem hbb HBA)
    | fail)
  go_ret
  exact ⟨g, c, rfl, HEM.out, HBB.out⟩
set_option maxRecDepth 100000 in
set_option maxHeartbeats 2000000 in
theorem ints_any (v : Value) (l : List Int) (w : World) (h : RAt iA 1 w v l) (hlen : l.length ≤ 17592186044400) :
    Calls Try.prog 11 #[v] w fun e w' => ∃ g c, e = .returned (.slice (some ⟨g, 0, none⟩) l.length c) ∧ RM iA 1 3 71 72 w' w.heap.size g c l ∧ Below w.heap.size w w' := by
  obtain ⟨i0, hi0, hz0, hz1, hz2⟩ := info_parts info3i
  obtain ⟨ao, cap, rfl, hcap, h63⟩ := h.shape
  have H := hide h
  obtain ⟨n, hn⟩ : ∃ n, n = l.length := ⟨_, rfl⟩
  have HN := hide hn
  rw [← hn] at hcap H hlen ⊢
  clear h hn
  go_enter Try.func11, Try.ntmps11
  go_wp2_with (first
    | (at_builtin; refine wpList_freshR iA_size (by decide) rfl (.tmp 4) (.tmp 5) 23 rfl 3 i0 _ 8 Try.underlying23 hi0 hz0 hz1 hz2 rfl w.heap.size w.heap.size (own_newr w 3 _ 1 rfl) (by simp) _ l rfl rfl (H.out.below (below_alloc (Below.refl _ _) _)) (by rw [← HN.out]; omega) (by rw [← HN.out]; unfold maxLen; omega) ?_; intro v4 w4 hownA hbelA; have HBA := hide (below_on (below_alloc (Below.refl _ _) _) hbelA); clear hbelA)
    | (at_builtin; refine wpList_append_own _ rfl (.tmp 6) (.tmp 7) 23 rfl w.heap.size 3 i0 _ 1 8 Try.underlying23 hi0 hz0 hz1 hz2 rfl (by decide) _ _ _ rfl (hownA.alloc _) ⟨w4.heap.size, 0, none⟩ 2 2 ((iA 71).toList ++ (iA 72).toList) rfl rfl (arr_at w4 _ _) (by simp [Value.oneCell', iA]) (by unfold maxLen; rw [← HN.out]; omega) (by rw [← HN.out]; omega) (by have hq := HBA.out.size; simp; omega) ?_; intro v5 w5 hownB hgrowB hqB; obtain ⟨g, c, he, hem, hbb⟩ := rm_made hownA HBA.out hownB hgrowB; subst he; rw [← HN.out]; have HEM := hide hem; have hcc := hem.cap; rw [← HN.out] at hcc; have HBB := hide hbb; clear hownA hownB hgrowB hqB hem hbb HBA)
    | fail)
  go_ret
  exact ⟨g, c, rfl, HEM.out, HBB.out⟩
end Go.Proofs.Ytfoeljcgbfpknaa
