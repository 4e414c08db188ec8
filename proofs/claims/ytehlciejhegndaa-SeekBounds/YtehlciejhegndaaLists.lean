/- ints, words: a copy in new memory with three marks behind it. -/
import Derived.Test.YtehlciejhegndaaMarks
namespace Go.Proofs.Ytehlciejhegndaa
open Go.RowKit Go.Lib
set_option linter.unusedVariables false

theorem Try.info3 : (Try.prog.info? 3).map (fun i => (i.zero, i.size, i.bytes)) = some (some (.int .i64 0), 1, 8) := by kernel_rfl
theorem Try.info26 : (Try.prog.info? 26).map (fun i => (i.zero, i.size, i.bytes)) = some (some (.int .u64 0), 1, 8) := by kernel_rfl
theorem below_alloc {a w : World} (h : Below a.heap.size a w) (o : Obj) : Below a.heap.size a (w.alloc o) := h.alloc h.size o
theorem below_drew {a w : World} (h : Below a.heap.size a w) : Below a.heap.size a w.drew := h.drew
theorem below_on {a w w' : World} (h : Below a.heap.size a w) (k : Below w.heap.size w w') : Below a.heap.size a w' := h.trans (k.mono h.size)
theorem own_new (X : World) (e : TypeId) (B : Nat) (hB : B = X.heap.size) : (X.alloc (.cells #[] e)).ownsRow X.heap.size e 1 (.slice (some ⟨B, 0, none⟩) 0 0) 0 [] := by
  subst hB
  exact World.ownsRow_made X #[] 0 (Nat.le_refl _) (Nat.zero_le _) rfl

theorem three_at (w : World) (x y z : Value) (t : TypeId) : ∀ j u, [x, y, z][j]? = some u → (w.alloc (.cells #[x, y, z] t)).cell? ((⟨w.heap.size, 0, none⟩ : Addr).add j) = some u := by
  intro j u hj
  have hh : (w.alloc (.cells #[x, y, z] t)).heap[w.heap.size]? = some (.cells #[x, y, z] t (0, 0)) := heap_new _ _
  rw [Addr.add_lit]
  match j, hj with
  | 0, hj => simp at hj; subst hj; exact cell_of hh rfl
  | 1, hj => simp at hj; subst hj; exact cell_of hh rfl
  | 2, hj => simp at hj; subst hj; exact cell_of hh rfl

theorem marks3_made {k : IntKind} {e : TypeId} {m1 m2 m3 : Int} {w w1 w2 : World} {v1 v2 : Value} {ws : List Int} {p : Obj} (h1 : w1.ownsRow w.heap.size e 1 v1 ws.length (ws.map (Value.int k))) (hb1 : Below w.heap.size w w1)
    (hown : w2.ownsRow w.heap.size e 1 v2 (ws.length + 3) (ws.map (Value.int k) ++ [.int k m1, .int k m2, .int k m3])) (hgrow : (w1.alloc p).grownBy w2 v1.ownBlock) :
    ∃ g c, v2 = .slice (some ⟨g, 0, none⟩) (ws.length + 3) c ∧ ws.length + 3 ≤ c ∧ c ≤ 9223372036854775807 ∧ w.heap.size ≤ g ∧ RowAt k w2 (.slice (some ⟨g, 0, none⟩) (ws.length + 3) c) (ws ++ [m1, m2, m3]) ∧ Below w.heap.size w w2 := by
  have hL : Below w.heap.size w w2 := by
    refine (hb1.alloc hb1.size _).grown hgrow (by have := hb1.size; simp; omega) ?_
    intro j hj
    obtain ⟨_, ⟨rfl, _⟩ | ⟨g', cap, cur', rfl, hg', _⟩⟩ := h1
    · simp [Value.ownBlock] at hj
    · simp [Value.ownBlock] at hj; omega
  have hl2 : (ws ++ [m1, m2, m3]).length = ws.length + 3 := by simp
  have hr : RowAt k w2 v2 (ws ++ [m1, m2, m3]) := RowAt.of_owns (base := w.heap.size) (e := e) (by rw [hl2]; simpa using hown)
  obtain ⟨_, ⟨rfl, h0⟩ | ⟨g, cap, cur, rfl, hg, hh, hnc, hcm, hcur, htake⟩⟩ := hown
  · omega
  · exact ⟨g, cap, rfl, hnc, hcm, hg, hr, hL⟩

/-- A list with its three marks behind it, at an own address. -/
def MarkAt (k : IntKind) (w : World) (g c : Nat) (xs : List Int) : Prop := RowAt k w (.slice (some ⟨g, 0, none⟩) (xs.length + 3) c) (xs ++ [71, 72, 73])
theorem MarkAt.row {k : IntKind} {w : World} {g c : Nat} {xs : List Int} (h : MarkAt k w g c xs) : RowAt k w (.slice (some ⟨g, 0, none⟩) xs.length c) xs := RowAt.front h
theorem MarkAt.below {k : IntKind} {w w' : World} {g c : Nat} {xs : List Int} (h : MarkAt k w g c xs) (hb : Below w.heap.size w w') : MarkAt k w' g c xs := RowAt.below h hb
theorem MarkAt.cap {k : IntKind} {w : World} {g c : Nat} {xs : List Int} (h : MarkAt k w g c xs) : xs.length + 3 ≤ c ∧ c ≤ 9223372036854775807 := by
  obtain ⟨ao, c', he, h1, h2, _⟩ := h
  simp only [Value.slice.injEq] at he
  obtain ⟨_, _, rfl⟩ := he
  simp at h1
  exact ⟨h1, h2⟩
theorem MarkAt.ends {k : IntKind} {w : World} {g c : Nat} {xs : List Int} (h : MarkAt k w g c xs) :
    w.cell? ⟨g, xs.length, none⟩ = some (.int k 71) ∧ w.cell? ⟨g, xs.length + 1, none⟩ = some (.int k 72) ∧ w.cell? ⟨g, xs.length + 2, none⟩ = some (.int k 73) := by
  obtain ⟨ao, c', he, h1, _, _, h4⟩ := h
  simp only [Value.slice.injEq] at he
  obtain ⟨rfl, _, rfl⟩ := he
  have a := h4 _ rfl xs.length (by simp)
  have b := h4 _ rfl (xs.length + 1) (by simp)
  have d := h4 _ rfl (xs.length + 2) (by simp)
  rw [Addr.add_lit] at a b d
  rw [show (xs ++ [71, 72, 73] : List Int).getD xs.length 0 = 71 by simp [List.getD], Nat.zero_add] at a
  rw [show (xs ++ [71, 72, 73] : List Int).getD (xs.length + 1) 0 = 72 by simp [List.getD], Nat.zero_add] at b
  rw [show (xs ++ [71, 72, 73] : List Int).getD (xs.length + 2) 0 = 73 by simp [List.getD], Nat.zero_add] at d
  exact ⟨a, b, d⟩

set_option maxRecDepth 100000 in
set_option maxHeartbeats 2000000 in
theorem ints_any (xv : Value) (xs : List Int) (w : World) (hx : RowAt .i64 w xv xs) (hb : xs.length * 8 ≤ 140737488351232) :
    Calls Try.prog 18 #[xv] w fun e w' => ∃ g c, e = .returned (.slice (some ⟨g, 0, none⟩) xs.length c) ∧ w.heap.size ≤ g ∧ MarkAt .i64 w' g c xs ∧ Below w.heap.size w w' := by
  obtain ⟨i0, hi, hz0, hz1, hz2⟩ := info_parts Try.info3
  obtain ⟨ao, ca, rfl⟩ : ∃ ao c, xv = .slice ao xs.length c := by obtain ⟨ao, c, h, _⟩ := hx; exact ⟨ao, c, h⟩
  have HX := hide hx
  clear hx
  go_enter Try.func18, Try.ntmps18
  go_wp2_with (first
    | (at_builtin; refine wpList_fresh rfl (.tmp 4) (.tmp 5) 22 rfl .i64 3 i0 (.int .i64 0) 8 Try.underlying22 hi hz0 hz1 hz2 rfl w.heap.size _ (own_new _ 3 w.heap.size rfl) (by simp) _ xs rfl rfl (HX.out.below (below_alloc (Below.refl _ _) _)) (by omega) (by unfold maxLen; omega) ?_; intro v1 w1a hownA1 hbelA1)
    | (at_builtin; refine wpList_append_own _ rfl (.tmp 6) (.tmp 7) 22 rfl _ 3 i0 (.int .i64 0) 1 8 Try.underlying22 hi hz0 hz1 hz2 rfl (by decide) _ _ _ rfl (hownA1.alloc _) ⟨w1a.heap.size, 0, none⟩ 3 3 [.int .i64 71, .int .i64 72, .int .i64 73] rfl rfl (three_at w1a _ _ _ _) (by simp [Value.oneCell']) (by unfold maxLen; omega) (by omega) (by have hq := hbelA1.size; simp at hq; simp; omega) ?_; intro u1 w1b hownB1 hgrowB1 hqB1; obtain ⟨g1, e1, rfl, ka1, kb1, kc1, hrow1, hbel1⟩ := marks3_made hownA1 (below_on (below_alloc (Below.refl _ _) _) hbelA1) hownB1 hgrowB1; have HROW1 := hide hrow1; have HBEL1 := hide hbel1; clear hownA1 hbelA1 hownB1 hgrowB1 hqB1 hrow1 hbel1)
    | fail)
  go_wp2
  go_ret
  exact ⟨g1, e1, rfl, kc1, HROW1.out, HBEL1.out⟩

set_option maxRecDepth 100000 in
set_option maxHeartbeats 2000000 in
theorem words_any (xv : Value) (xs : List Int) (w : World) (hx : RowAt .u64 w xv xs) (hb : xs.length * 8 ≤ 140737488351232) :
    Calls Try.prog 37 #[xv] w fun e w' => ∃ g c, e = .returned (.slice (some ⟨g, 0, none⟩) xs.length c) ∧ w.heap.size ≤ g ∧ MarkAt .u64 w' g c xs ∧ Below w.heap.size w w' := by
  obtain ⟨i0, hi, hz0, hz1, hz2⟩ := info_parts Try.info26
  obtain ⟨ao, ca, rfl⟩ : ∃ ao c, xv = .slice ao xs.length c := by obtain ⟨ao, c, h, _⟩ := hx; exact ⟨ao, c, h⟩
  have HX := hide hx
  clear hx
  go_enter Try.func37, Try.ntmps37
  go_wp2_with (first
    | (at_builtin; refine wpList_fresh rfl (.tmp 4) (.tmp 5) 23 rfl .u64 26 i0 (.int .u64 0) 8 Try.underlying23 hi hz0 hz1 hz2 rfl w.heap.size _ (own_new _ 26 w.heap.size rfl) (by simp) _ xs rfl rfl (HX.out.below (below_alloc (Below.refl _ _) _)) (by omega) (by unfold maxLen; omega) ?_; intro v1 w1a hownA1 hbelA1)
    | (at_builtin; refine wpList_append_own _ rfl (.tmp 6) (.tmp 7) 23 rfl _ 26 i0 (.int .u64 0) 1 8 Try.underlying23 hi hz0 hz1 hz2 rfl (by decide) _ _ _ rfl (hownA1.alloc _) ⟨w1a.heap.size, 0, none⟩ 3 3 [.int .u64 71, .int .u64 72, .int .u64 73] rfl rfl (three_at w1a _ _ _ _) (by simp [Value.oneCell']) (by unfold maxLen; omega) (by omega) (by have hq := hbelA1.size; simp at hq; simp; omega) ?_; intro u1 w1b hownB1 hgrowB1 hqB1; obtain ⟨g1, e1, rfl, ka1, kb1, kc1, hrow1, hbel1⟩ := marks3_made hownA1 (below_on (below_alloc (Below.refl _ _) _) hbelA1) hownB1 hgrowB1; have HROW1 := hide hrow1; have HBEL1 := hide hbel1; clear hownA1 hbelA1 hownB1 hgrowB1 hqB1 hrow1 hbel1)
    | fail)
  go_wp2
  go_ret
  exact ⟨g1, e1, rfl, kc1, HROW1.out, HBEL1.out⟩
end Go.Proofs.Ytehlciejhegndaa
