import Derived.Test.YthoklgdlnmccmaaSRow
import Derived.Test.YthoklgdlnmccmaaSrc
import Derived.Laws.BitsAllLaws
import Derived.Laws.CopyRow
import Derived.Deep.OwnRows
import Derived.Laws.CopyOwn
import Derived.Test.YthoklgdlnmccmaaTreeA
/- slices.Repeat of one number. -/
namespace Go.Proofs.Ythoklgdlnmccmaa
open Go.RowKit Go.Lib
set_option linter.unusedVariables false
set_option maxRecDepth 100000 in
set_option maxHeartbeats 2000000 in
theorem mul64_one (y : Nat) (hy : (y : Int) ≤ 1048576) (w : World) :
    Calls Try.prog 141 #[.int .u64 1, .int .u64 (y : Int)] w fun e w' => e = .returned (.tuple #[.int .u64 0, .int .u64 (y : Int)]) ∧ w' = w := by
  have e1 : bits .and .u64 1 4294967295 = 1 := by decide +kernel
  have e0 : bits .and .u64 0 4294967295 = 0 := by decide +kernel
  have e2 : bits .and .u64 (y : Int) 4294967295 = (y : Int) := by
    have h := u64_and_nat y 4294967295 (by omega) (by decide)
    rw [show (4294967295 : Nat) = 2 ^ 32 - 1 from rfl, Nat.and_two_pow_sub_one_eq_mod, Nat.mod_eq_of_lt (by omega)] at h
    exact h
  have e3 : (y : Int) / 4294967296 = 0 := by omega
  have e5 : IntKind.u64.wrap 0 = 0 := by decide +kernel
  go_enter Try.func141, Try.ntmps141
  go_wp2
  go_ret2
  exact ⟨rfl, rfl⟩
set_option maxRecDepth 100000 in
set_option maxHeartbeats 2000000 in
theorem mul_one' (y : Nat) (hy : (y : Int) ≤ 1048576) (w : World) :
    Calls Try.prog 130 #[.int .u64 1, .int .u64 (y : Int)] w fun e w' => e = .returned (.tuple #[.int .u64 0, .int .u64 (y : Int)]) ∧ w' = w := by
  have HM := hide (mul64_one y hy w)
  go_enter Try.func130, Try.ntmps130
  go_wp2_with fail
  refine HM.out.mono ?_
  rintro e w' ⟨rfl, rfl⟩
  go_wp2
  go_ret2
  exact ⟨rfl, rfl⟩
theorem size3 : (Try.prog.info? 3).map (·.size) = some 1 := by kernel_rfl
/-- The first j cells are -1. -/
def pad (n j : Nat) : List Int := List.replicate j (-1) ++ List.replicate (n - j) 0
theorem pad_cells (n j : Nat) : (iCells (pad n j)).toList = List.replicate j (.int .i64 (-1)) ++ List.replicate (n - j) (.int .i64 0) := by simp [iCells, pad]
theorem pad_more (n j l : Nat) (h : j + l ≤ n) : (((iCells (pad n j)).toList.take j ++ List.replicate l (Value.int .i64 (-1)) ++ (iCells (pad n j)).toList.drop (j + l)).toArray) = iCells (pad n (j + l)) := by
  apply Array.ext'
  rw [pad_cells, pad_cells]
  show _ = _
  rw [List.take_left' (by simp), List.drop_append, List.drop_replicate, List.length_replicate, List.drop_replicate]
  rw [show j - (j + l) = 0 by omega, show n - j - (j + l - j) = n - (j + l) by omega]
  simp only [List.replicate_zero, List.nil_append]
  rw [List.replicate_append_replicate]
theorem pad_copy {w : World} {g n j dc sc : Nat} (h : Arr w g (pad n j)) (hj : j ≤ n) :
    (Builtin.copy_ #[29, 29] 3 #[.slice (some ⟨g, j, none⟩) (n - j) dc, .slice (some ⟨g, 0, none⟩) j sc]).run Try.prog w = .ok (goInt (min j (n - j) : Nat)) (w.setRow g (iCells (pad n (j + min j (n - j))))) := by
  have hl : (iCells (pad n j)).size = n := by simp [iCells, pad]; omega
  have := run_copy_row Try.prog w 29 29 3 3 g j (n - j) dc ⟨g, 0, none⟩ j sc (iCells (pad n j)) 3 (List.replicate (min j (n - j)) (.int .i64 (-1))) Try.underlying29 size3 h (by simp [Nat.min_def]) (fun i v hi => ?_) (by rw [hl]; simp; omega) (fun v hv => by rw [List.mem_replicate] at hv; rw [hv.2]; rfl)
  · rw [this]
    simp only [List.length_replicate]
    rw [pad_more n j _ (by omega)]
  · have hi2 : i < min j (n - j) := by
      have := (List.getElem?_eq_some_iff.1 hi).1; simpa using this
    rw [List.getElem?_replicate, if_pos hi2] at hi
    rw [Addr.add_lit, Nat.zero_add, h.cell i (by simp [pad]; omega), ← hi]
    unfold at_ pad
    rw [List.getElem?_append_left (by simp; omega), List.getElem?_replicate, if_pos (by omega)]
    rfl
theorem pad_first {w : World} {g n B dc : Nat} (h : Arr w g (pad n 0)) (hB : w.cell? ⟨B, 0, none⟩ = some (.int .i64 (-1))) (hn : 0 < n) :
    (Builtin.copy_ #[29, 29] 3 #[.slice (some ⟨g, 0, none⟩) n dc, .slice (some ⟨B, 0, none⟩) 1 1]).run Try.prog w = .ok (goInt 1) (w.setRow g (iCells (pad n 1))) := by
  have hl : (iCells (pad n 0)).size = n := by simp [iCells, pad]
  have := run_copy_row Try.prog w 29 29 3 3 g 0 n dc ⟨B, 0, none⟩ 1 1 (iCells (pad n 0)) 3 [.int .i64 (-1)] Try.underlying29 size3 h (by simp [Nat.min_def]; omega) (fun i v hi => ?_) (by rw [hl]; simp; omega) (fun v hv => by simp at hv; rw [hv]; rfl)
  · rw [this]
    have e := pad_more n 0 1 (by omega)
    simp only [List.replicate_one, Nat.zero_add] at e ⊢
    rw [show ([Value.int .i64 (-1)] : List Value).length = 1 from rfl, e]
    rfl
  · have : i = 0 := by have := (List.getElem?_eq_some_iff.1 hi).1; simp at this; omega
    subst this
    simp at hi
    rw [← hi]
    exact hB
theorem arr_row {w : World} {g : Nat} {l l2 : List Int} (h : Arr w g l) : Arr (w.setRow g (iCells l2)) g l2 := setRow_heap w g _ _ 3 (0, 0) h
theorem pad_all (n : Nat) : pad n n = tab n (fun _ => -1) := by
  unfold pad tab
  rw [Nat.sub_self, List.replicate_zero, List.append_nil]
  apply List.ext_getElem
  · simp
  · intro i h1 h2; simp
theorem pad_none (n : Nat) : pad n 0 = tab n (fun _ => 0) := by
  unfold pad tab
  rw [Nat.sub_zero, List.replicate_zero, List.nil_append]
  apply List.ext_getElem
  · simp
  · intro i h1 h2; simp
theorem arr_new0 (w : World) (n : Nat) : Arr (w.alloc (.cells (madeCells #[.int .i64 0] n) 3)) w.heap.size (pad n 0) := by
  unfold Arr
  have e : madeCells #[Value.int .i64 0] n = iCells (pad n 0) := by
    rw [pad_none]
    apply Array.ext'
    apply List.ext_getElem
    · simp [madeCells, iCells, tab]
    · intro i h1 h2
      simp [madeCells, iCells, tab, Nat.mod_one]
  rw [e]
  exact heap_new w _
set_option maxRecDepth 100000 in
set_option maxHeartbeats 4000000 in
theorem repeat_any (n B : Nat) (hn : n ≤ 1048576) (w : World) (hB : w.cell? ⟨B, 0, none⟩ = some (.int .i64 (-1))) :
    Calls Try.prog 99 #[.slice (some ⟨B, 0, none⟩) 1 1, .int .i64 (n : Int)] w fun e w' => e = .returned (.slice (some ⟨w.heap.size, 0, none⟩) n n) ∧ Arr w' w.heap.size (tab n (fun _ => -1)) ∧ Below w.heap.size w w' := by
  obtain ⟨i0, hi, hz0, hz1, hz2⟩ := info_parts Try.info3
  have HM := hide (mul_one' n (by omega) w)
  have hBl := block_of_cell hB
  have hA0 := arr_new0 w n
  have hb0 : Below w.heap.size w (w.alloc (.cells (madeCells #[.int .i64 0] n) 3)) := below_alloc (Below.refl _ _) _
  have hB0 : (w.alloc (.cells (madeCells #[.int .i64 0] n) 3)).cell? ⟨B, 0, none⟩ = some (.int .i64 (-1)) := (below_cell hb0 hBl).trans hB
  have d1 : decide ((n : Int) < 0) = false := by simp
  have d2 : decide ((9223372036854775807 : Int) < (n : Int)) = false := by simp; omega
  rcases Nat.eq_zero_or_pos n with h0 | h0
  · subst h0
    have hcp : (Builtin.copy_ #[29, 29] 3 #[.slice (some ⟨w.heap.size, 0, none⟩) 0 0, .slice (some ⟨B, 0, none⟩) 1 1]).run Try.prog (w.alloc (.cells (madeCells #[.int .i64 0] 0) 3)) = .ok (goInt 0) (w.alloc (.cells (madeCells #[.int .i64 0] 0) 3)) := by
      have := run_copy_row Try.prog (w.alloc (.cells (madeCells #[.int .i64 0] 0) 3)) 29 29 3 3 w.heap.size 0 0 0 ⟨B, 0, none⟩ 1 1 (iCells (pad 0 0)) 3 [] Try.underlying29 size3 hA0 (by simp) (fun i v hi => by simp at hi) (by simp) (fun v hv => by simp at hv)
      rw [this]
      have e : (List.take 0 (iCells (pad 0 0)).toList ++ [] ++ List.drop (0 + ([] : List Value).length) (iCells (pad 0 0)).toList).toArray = iCells (pad 0 0) := by simp
      rw [e, setRow_self _ _ _ 3 (0, 0) hA0]
      rfl
    have HA1 := hide hA0
    have HB1 := hide hb0
    have e0 : ((0 : Nat) : Int) = 0 := rfl
    rw [e0] at HM ⊢
    clear hA0 hb0 d1 d2
    go_enter Try.func99, Try.ntmps99
    go_wp2_with fail
    refine HM.out.mono ?_
    rintro e w' ⟨rfl, rfl⟩
    go_wp2_with (first | (at_make; refine wpList_make_row _ rfl _ _ 29 rfl 3 i0 (.int .i64 0) Try.underlying29 hi hz0 hz1 rfl _ _ 0 rfl rfl (by rw [hz2]; omega) (by omega) ?_) | fail)
    refine wp_loop_rounds 1 ?_
    rw [rounds_succ]
    go_wp2
    go_ret
    rw [← pad_all]
    exact ⟨rfl, HA1.out, HB1.out⟩
  · have hcp := pad_first (dc := n) hA0 hB0 h0
    have HA1 := hide (arr_row (l2 := pad n 1) hA0)
    have HB1 := hide (below_setRow hb0 (Nat.le_refl _) (iCells (pad n 1)))
    clear hA0 hb0
    go_enter Try.func99, Try.ntmps99
    go_wp2_with fail
    refine HM.out.mono ?_
    rintro e w' ⟨rfl, rfl⟩
    go_wp2_with (first | (at_make; refine wpList_make_row _ rfl _ _ 29 rfl 3 i0 (.int .i64 0) Try.underlying29 hi hz0 hz1 rfl _ _ n rfl rfl (by rw [hz2]; omega) (by omega) ?_) | fail)
    clear hcp hB0 hB hi hz0 hz1 hz2 HM
    generalize ((w'.alloc (.cells (madeCells #[.int .i64 0] n) 3)).setRow w'.heap.size (iCells (pad n 1))) = w1 at HA1 HB1 ⊢
    obtain ⟨g, hg⟩ : ∃ g, g = w'.heap.size := ⟨_, rfl⟩
    rw [← hg] at HA1 ⊢
    have HG' := hide hg
    have hgw : w'.heap.size ≤ g := by omega
    clear hg
    go_loopw [8] (fun t wr => ∃ j : Nat, 1 ≤ j ∧ j ≤ n ∧ t = .int .i64 j ∧ Arr wr g (pad n j) ∧ Below w'.heap.size w' wr) (fun t _ => n - (RowKit.intOf t).toNat)
    case atStart => exact ⟨1, by omega, by omega, rfl, HA1.out, HB1.out⟩
    case round =>
      clear HA1 HB1
      obtain ⟨j, h1, hjn, rfl, hA, hB⟩ := hrel
      have HA := hide hA; have HB := hide hB
      by_cases hlt : j < n
      · have hAd : Arr wr.drew g (pad n j) := hA.below (below_drew (Below.refl _ _)) (lt_of_heap hA)
        have hcp := pad_copy (dc := n - j) (sc := n) hAd (by omega)
        obtain ⟨l, hl⟩ : ∃ l, l = min j (n - j) := ⟨_, rfl⟩
        rw [← hl] at hcp
        have hl1 : 1 ≤ l := by omega
        have hl2 : j + l ≤ n := by omega
        have HA2 := hide (arr_row (l2 := pad n (j + l)) hAd)
        have HB2 := hide (below_setRow (below_drew hB) hgw (iCells (pad n (j + l))))
        have hji : (j : Int) < (n : Int) := by omega
        have hjne : ¬ n = j := by omega
        clear hA hB hAd hl
        go_wp2_with fail
        go_region
        all_goals
          go_wp2
          exact ⟨⟨j + l, by omega, by omega, by simp, HA2.out, HB2.out⟩, by simp [RowKit.intOf]; omega⟩
      · obtain rfl : j = n := by omega
        have hki : ¬ (j : Int) < (j : Int) := by omega
        clear hA hB
        go_wp2
        go_ret
        have hbb := HB.out
        rw [← HG'.out] at hbb ⊢
        rw [← pad_all]
        exact ⟨rfl, HA.out, hbb⟩
end Go.Proofs.Ythoklgdlnmccmaa

/- The program's tree: its roots and its layers. Plain. -/
namespace Go.Proofs.Ythoklgdlnmccmaa
set_option linter.unusedVariables false
section
variable {n : Nat} {st tl wt : List Int} {k : Int} {S : List Pr} {L D Y D1 : List Int} {d e v p i j a : Nat} {nx Ly : List Int}
theorem set_self_list {l : List Int} {i : Nat} (hi : i < l.length) : l.set i (at_ l i) = l := by
  apply List.ext_getElem?
  intro j
  by_cases e : j = i
  · subst e
    rw [List.getElem?_set_self hi]
    unfold at_
    rw [List.getElem?_eq_getElem hi]; rfl
  · rw [List.getElem?_set_ne (fun h => e h.symm)]
/-- The vertices of a layer. -/
def Lay (n : Nat) (st tl wt : List Int) (k : Int) (S : List Pr) (L : List Int) (d : Nat) (Ly : List Int) : Prop :=
  (∀ x, x ∈ Ly → ∃ v, v < n ∧ x = (v : Int) ∧ dep n st tl wt k S L d v = (d : Int) ∧ at_ L v ≠ Nev) ∧ ∀ v, v < n → dep n st tl wt k S L d v = (d : Int) → at_ L v ≠ Nev → (v : Int) ∈ Ly
/-- Roots under way: the first j starts are looked at. -/
structure RP (n : Nat) (S : List Pr) (L : List Int) (j : Nat) (D Ly : List Int) : Prop where
  dl : D.length = n
  vals : ∀ v, v < n → at_ D v = 0 ∨ at_ D v = -1
  iff_ : ∀ v, v < n → (at_ D v = 0 ↔ ∃ i, i < j ∧ sAt S i = ((v : Int), at_ L v))
  mem : ∀ x, x ∈ Ly → ∃ v, v < n ∧ x = (v : Int) ∧ at_ D v = 0
  inn : ∀ v, v < n → at_ D v = 0 → (v : Int) ∈ Ly
  cnt : Ly.length + nd D n = n
theorem nd_all {m : Nat} (h : ∀ v, v < m → at_ D v = -1) : nd D m = m := by
  induction m with
  | zero => rfl
  | succ m ih => rw [nd, ih (fun v hv => h v (by omega)), if_pos (h m (by omega))]
theorem RP.zero : RP n S L 0 (tab n (fun _ => -1)) [] := by
  have A : ∀ v, v < n → at_ (tab n (fun _ => -1)) v = -1 := fun v hv => tab_at _ _ _ hv
  exact ⟨tab_length _ _, fun v hv => .inr (A v hv), fun v hv => ⟨fun h => by rw [A v hv] at h; omega, fun ⟨i, hi, _⟩ => by omega⟩, fun x hx => by simp at hx, fun v hv h => by rw [A v hv] at h; omega, by rw [nd_all A]; simp⟩
theorem RP.skip (h : RP n S L j D Ly) (hv : v < n) (hs : (sAt S j).1 = (v : Int)) (hno : (sAt S j).2 ≠ at_ L v ∨ at_ D v ≠ -1) : RP n S L (j + 1) D Ly := by
  refine ⟨h.dl, h.vals, fun u hu => ?_, h.mem, h.inn, h.cnt⟩
  rw [h.iff_ u hu]
  constructor
  · rintro ⟨i, hi, he⟩; exact ⟨i, by omega, he⟩
  · rintro ⟨i, hi, he⟩
    rcases Nat.lt_or_ge i j with h1 | h1
    · exact ⟨i, h1, he⟩
    · obtain rfl : i = j := by omega
      have huv : u = v := by rw [he] at hs; simp only at hs; omega
      subst huv
      rcases hno with h2 | h2
      · rw [he] at h2; exact absurd rfl h2
      · rcases h.vals u hu with h3 | h3
        · exact (h.iff_ u hu).1 h3
        · exact absurd h3 h2
theorem RP.take (h : RP n S L j D Ly) (hv : v < n) (hs : (sAt S j).1 = (v : Int)) (hx : (sAt S j).2 = at_ L v) (h0 : at_ D v = -1) : RP n S L (j + 1) (D.set v 0) (Ly ++ [(v : Int)]) := by
  have A : ∀ u, at_ (D.set v 0) u = if u = v then 0 else at_ D u := fun u => at_set _ _ _ _ (by rw [h.dl]; exact hv)
  refine ⟨by rw [List.length_set]; exact h.dl, fun u hu => ?_, fun u hu => ?_, fun x hx => ?_, fun u hu hu0 => ?_, ?_⟩
  · rw [A]
    by_cases e : u = v
    · rw [if_pos e]; exact .inl rfl
    · rw [if_neg e]; exact h.vals u hu
  · rw [A]
    by_cases e : u = v
    · subst e
      rw [if_pos rfl]
      exact ⟨fun _ => ⟨j, by omega, by rw [← hs, ← hx]⟩, fun _ => rfl⟩
    · rw [if_neg e, h.iff_ u hu]
      constructor
      · rintro ⟨i, hi, he⟩; exact ⟨i, by omega, he⟩
      · rintro ⟨i, hi, he⟩
        rcases Nat.lt_or_ge i j with h1 | h1
        · exact ⟨i, h1, he⟩
        · obtain rfl : i = j := by omega
          exfalso; apply e; rw [he] at hs; simp only at hs; omega
  · rw [List.mem_append] at hx
    rcases hx with h1 | h1
    · obtain ⟨u, hu, he, h2⟩ := h.mem x h1
      refine ⟨u, hu, he, ?_⟩
      rw [A]
      by_cases e : u = v
      · rw [if_pos e]
      · rw [if_neg e]; exact h2
    · simp at h1
      exact ⟨v, hv, h1, by rw [A, if_pos rfl]⟩
  · rw [A] at hu0
    by_cases e : u = v
    · subst e; simp
    · rw [if_neg e] at hu0
      exact List.mem_append_left _ (h.inn u hu hu0)
  · have := nd_set (D := D) (m := n) (i := v) (x := 0) hv (by rw [h.dl]; exact hv) h0 (by omega)
    have := h.cnt
    rw [List.length_append, List.length_singleton]; omega
/-- Those that are not reached get the depth 0 too: the first i are looked at. -/
def NevD (n : Nat) (L D1 : List Int) (i : Nat) (D : List Int) : Prop := D.length = n ∧ ∀ v, v < n → at_ D v = if v < i ∧ at_ L v = Nev then 0 else at_ D1 v
theorem NevD.zero (h : D1.length = n) : NevD n L D1 0 D1 := ⟨h, fun v hv => by rw [if_neg (by omega)]⟩
theorem NevD.skip (h : NevD n L D1 i D) (hn : at_ L i ≠ Nev) : NevD n L D1 (i + 1) D := by
  refine ⟨h.1, fun v hv => ?_⟩
  rw [h.2 v hv]
  by_cases h1 : v < i ∧ at_ L v = Nev
  · rw [if_pos h1, if_pos ⟨by omega, h1.2⟩]
  · rw [if_neg h1, if_neg fun h2 => ?_]
    rcases Nat.lt_or_ge v i with h3 | h3
    · exact h1 ⟨h3, h2.2⟩
    · obtain rfl : v = i := by omega
      exact hn h2.2
theorem NevD.take (h : NevD n L D1 i D) (hi : i < n) (hn : at_ L i = Nev) : NevD n L D1 (i + 1) (D.set i 0) := by
  refine ⟨by rw [List.length_set]; exact h.1, fun v hv => ?_⟩
  rw [at_set _ _ _ _ (by rw [h.1]; exact hi)]
  by_cases e : v = i
  · subst e; rw [if_pos rfl, if_pos ⟨by omega, hn⟩]
  · rw [if_neg e, h.2 v hv]
    by_cases h1 : v < i ∧ at_ L v = Nev
    · rw [if_pos h1, if_pos ⟨by omega, h1.2⟩]
    · rw [if_neg h1, if_neg fun h2 => h1 ⟨by omega, h2.2⟩]
theorem roots_done (hok : Sok n S) (h : RP n S L S.length D1 Ly) (g : NevD n L D1 n D) : TD n st tl wt k S L D (tab n (fun _ => -1)) 0 ∧ Lay n st tl wt k S L 0 Ly := by
  have hr : ∀ v, v < n → (at_ D1 v = 0 ↔ ∃ i, i < S.length ∧ sAt S i = ((v : Int), at_ L v)) := h.iff_
  have hne : ∀ v, v < n → at_ D1 v = 0 → at_ L v ≠ Nev := fun v hv h0 => by
    obtain ⟨i, hi, he⟩ := (hr v hv).1 h0
    have := (hok i hi).2
    rw [he] at this
    simp only at this
    unfold Nev
    omega
  have hd : ∀ v, v < n → at_ D v = dep n st tl wt k S L 0 v := fun v hv => by
    rw [g.2 v hv, dep]
    by_cases h1 : at_ L v = Nev
    · rw [if_pos ⟨hv, h1⟩, if_pos (rootB_iff.2 (.inl h1))]
    · rw [if_neg fun h2 => h1 h2.2]
      rcases h.vals v hv with h2 | h2
      · rw [h2, if_pos (rootB_iff.2 (.inr ((hr v hv).1 h2)))]
      · rw [h2, if_neg fun h3 => ?_]
        rcases rootB_iff.1 h3 with h4 | h4
        · exact h1 h4
        · have := (hr v hv).2 h4; omega
  refine ⟨⟨g.1, tab_length _ _, hd, fun v hv => tab_at _ _ _ hv⟩, fun x hx => ?_, fun v hv h0 hn => ?_⟩
  · obtain ⟨v, hv, he, h0⟩ := h.mem x hx
    have hn := hne v hv h0
    refine ⟨v, hv, he, ?_, hn⟩
    rw [← hd v hv, g.2 v hv, if_neg fun h2 => hn h2.2, h0]
    rfl
  · refine h.inn v hv ?_
    rw [← hd v hv, g.2 v hv, if_neg fun h2 => hn h2.2] at h0
    exact h0
variable {E E2 : Nat → Prop}
/-- A layer of the program's under way. -/
structure GL (n : Nat) (st tl wt : List Int) (k : Int) (S : List Pr) (L : List Int) (d : Nat) (E : Nat → Prop) (D Y nx : List Int) (c : Nat) : Prop where
  gi : GI n st tl wt k S L d E D Y
  mem : ∀ x, x ∈ nx → ∃ v, v < n ∧ x = (v : Int) ∧ dep n st tl wt k S L d v = -1 ∧ at_ D v = ((d + 1 : Nat) : Int)
  inn : ∀ v, v < n → dep n st tl wt k S L d v = -1 → at_ D v = ((d + 1 : Nat) : Int) → (v : Int) ∈ nx
  cnt : nx.length + nd D n = c
theorem GL.start (h : TD n st tl wt k S L D Y d) (hE : ∀ e, e < tl.length → ¬ E e) : GL n st tl wt k S L d E D Y [] (nd D n) := by
  refine ⟨GI.start h hE, fun x hx => by simp at hx, fun v hv h0 h1 => ?_, by simp⟩
  rw [h.de v hv, h0] at h1; omega
theorem GL.pass (h : GL n st tl wt k S L d E D Y nx p) (hv : v < n) (hno : dep n st tl wt k S L d v ≠ -1 ∨ ¬ Qe n st tl wt k S L d e v) (htv : tov tl e = v) (hE : ∀ e', E2 e' → E e' ∨ e' = e) (hE2 : ∀ e', E e' → E2 e') : GL n st tl wt k S L d E2 D Y nx p :=
  ⟨h.gi.pass hv hno htv hE hE2, h.mem, h.inn, h.cnt⟩
theorem GL.take (h : GL n st tl wt k S L d E D Y nx p) (he : e < tl.length) (hv : v < n) (h0 : at_ D v = -1) (hq : Qe n st tl wt k S L d e v) (hE : ∀ e', E2 e' → E e' ∨ e' = e) (hE2 : ∀ e', E e' → E2 e') (hEe : E2 e) :
    GL n st tl wt k S L d E2 (D.set v ((d + 1 : Nat) : Int)) (Y.set v (e : Int)) (nx ++ [(v : Int)]) p := by
  obtain ⟨hd, hno⟩ := h.gi.lacks hv h0
  have A : ∀ u, at_ (D.set v ((d + 1 : Nat) : Int)) u = if u = v then ((d + 1 : Nat) : Int) else at_ D u := fun u => at_set _ _ _ _ (by rw [h.gi.dl]; exact hv)
  refine ⟨h.gi.take he hv hd hq (fun e' a b => hno e' (by omega) b) hE hE2 hEe, fun x hx => ?_, fun u hu hu0 h1 => ?_, ?_⟩
  · rw [List.mem_append] at hx
    rcases hx with h1 | h1
    · obtain ⟨u, hu, e1, e2, e3⟩ := h.mem x h1
      refine ⟨u, hu, e1, e2, ?_⟩
      rw [A]
      by_cases e : u = v
      · rw [if_pos e]
      · rw [if_neg e]; exact e3
    · simp at h1
      exact ⟨v, hv, h1, hd, by rw [A, if_pos rfl]⟩
  · by_cases e : u = v
    · subst e; simp
    · rw [A, if_neg e] at h1
      exact List.mem_append_left _ (h.inn u hu hu0 h1)
  · have := nd_set (D := D) (m := n) (i := v) (x := ((d + 1 : Nat) : Int)) hv (by rw [h.gi.dl]; exact hv) h0 (by omega)
    have := h.cnt
    rw [List.length_append, List.length_singleton]; omega
theorem GL.min_ (h : GL n st tl wt k S L d E D Y nx p) (he : e < tl.length) (hv : v < n) (h1 : at_ D v = ((d + 1 : Nat) : Int)) (hq : Qe n st tl wt k S L d e v) (hE : ∀ e', E2 e' → E e' ∨ e' = e) (hE2 : ∀ e', E e' → E2 e') (hEe : E2 e) :
    GL n st tl wt k S L d E2 D (Y.set v (min (at_ Y v) (e : Int))) nx p := by
  have h0 := (h.gi.is_none hv).1 (.inr h1)
  obtain ⟨e0, he0, a, b, c, f⟩ := h.gi.got hv h0 h1
  refine ⟨?_, h.mem, h.inn, h.cnt⟩
  rcases Int.lt_or_le (e : Int) (at_ Y v) with h2 | h2
  · rw [Int.min_eq_right (by omega)]
    have := h.gi.take he hv h0 hq (fun e' x y => f e' (by omega) y) hE hE2 hEe
    rwa [show D.set v ((d + 1 : Nat) : Int) = D by rw [← h1]; exact set_self_list (by rw [h.gi.dl]; exact hv)] at this
  · rw [Int.min_eq_left h2, set_self_list (by rw [h.gi.yl]; exact hv)]
    exact h.gi.keep hv hq.1 h0 h1 h2 hE hE2
theorem GL.room (h : GL n st tl wt k S L d E D Y nx p) (hp : p ≤ n) : nx.length ≤ n := by have := h.cnt; omega
theorem GL.finish (hg : Good n st tl wt) (hb : ∀ v, v < n → 0 ≤ at_ L v ∧ at_ L v ≤ Nev) (h : GL n st tl wt k S L d E D Y nx p) (hE : ∀ e v, e < tl.length → Qe n st tl wt k S L d e v → E e) : TD n st tl wt k S L D Y (d + 1) ∧ Lay n st tl wt k S L (d + 1) nx := by
  have ht := h.gi.finish hE
  refine ⟨ht, fun x hx => ?_, fun v hv h1 hn => ?_⟩
  · obtain ⟨v, hv, e1, e2, e3⟩ := h.mem x hx
    obtain ⟨e, he, a, b, c, f⟩ := h.gi.got hv e2 e3
    refine ⟨v, hv, e1, by rw [← ht.de v hv, e3], ?_⟩
    obtain ⟨c1, c2, c3⟩ := b
    have hr := hb _ (src_lt hg he)
    rw [← c1, ← c2.2]
    intro h2
    have hne := c2.1
    unfold Nev at hne hr h2
    unfold ext at h2
    rw [if_neg hne] at h2
    split at h2
    · split at h2 <;> omega
    · split at h2
      · split at h2 <;> omega
      · split at h2
        · split at h2
          · split at h2 <;> omega
          · exact hne h2
        · exact hne h2
  · have h2 := dep_range (n := n) (st := st) (tl := tl) (wt := wt) (k := k) (S := S) (L := L) d v
    by_cases h0 : dep n st tl wt k S L d v = -1
    · exact h.inn v hv h0 (by rw [ht.de v hv, h1])
    · rw [(dep_old h0).1] at h1
      rcases h2 with h3 | h3
      · exact absurd h3 h0
      · omega
/-- No layer: nothing is to come. -/
theorem Lay.none_ (hg : Good n st tl wt) (h : Lay n st tl wt k S L d []) : Still n st tl wt k S L d := by
  intro v hv
  by_cases h0 : dep n st tl wt k S L d v = -1
  · rw [h0]
    refine (dep_none h0 fun e he hq => ?_).1
    have := h.2 _ (src_lt hg he) hq.2.2 hq.2.1.1
    simp at this
  · exact (dep_old h0).1
/-- A layer is no deeper than there are vertices. -/
theorem Lay.few (hg : Good n st tl wt) (h : Lay n st tl wt k S L d Ly) (hl : 0 < Ly.length) : d ≤ n := by
  rcases Nat.lt_or_ge n d with h1 | h1
  · exfalso
    obtain ⟨x, hx⟩ : ∃ x, x ∈ Ly := ⟨Ly[0], List.getElem_mem hl⟩
    obtain ⟨v, hv, _, h2, _⟩ := h.1 x hx
    have h3 := ((still_at (k := k) (S := S) (L := L) hg).on hg (d - n)).2 v hv
    rw [show n + (d - n) = d by omega] at h3
    have h4 := dep_range (n := n) (st := st) (tl := tl) (wt := wt) (k := k) (S := S) (L := L) n v
    rcases h4 with h4 | h4 <;> omega
  · exact h1
end
end Go.Proofs.Ythoklgdlnmccmaa

/- The program's tree in memory; its roots. -/
namespace Go.Proofs.Ythoklgdlnmccmaa
open Go.RowKit Go.Lib
set_option linter.unusedVariables false

/-- The tree's struct and its lists. -/
structure TB (w0 w : World) (T n : Nat) (va vb vc lv : Value) (k : Int) (GY GD : Nat) (Y D : List Int) : Prop where
  box : w.heap[T]? = some (.cells #[.int .i64 n, va, vb, vc, .int .i64 k, lv, .slice (some ⟨GY, 0, none⟩) n n, .slice (some ⟨GD, 0, none⟩) n n] 148 (0, 0))
  ay : Arr w GY Y
  ad : Arr w GD D
  bel : Below w0.heap.size w0 w
  y0 : w0.heap.size ≤ GY
  d0 : w0.heap.size ≤ GD
  yd : GD ≠ GY
  ty : T ≠ GY
  td : T ≠ GD
section
variable {w0 w w' : World} {T n : Nat} {va vb vc lv : Value} {k : Int} {GY GD : Nat} {Y D : List Int}
theorem TB.below (h : TB w0 w T n va vb vc lv k GY GD Y D) (hb : Below w.heap.size w w') : TB w0 w' T n va vb vc lv k GY GD Y D :=
  ⟨(hb.block _ (lt_of_heap h.box)).trans h.box, h.ay.below hb (lt_of_heap h.ay), h.ad.below hb (lt_of_heap h.ad), below_on h.bel hb, h.y0, h.d0, h.yd, h.ty, h.td⟩
theorem TB.putd (h : TB w0 w T n va vb vc lv k GY GD Y D) (i : Nat) (x : Int) : TB w0 (w.setCell ⟨GD, i, none⟩ (.int .i64 x)) T n va vb vc lv k GY GD Y (D.set i x) :=
  ⟨(Below.heap_setCell _ _ _ _ h.td).trans h.box, (Below.heap_setCell _ _ _ _ (fun e => h.yd e.symm)).trans h.ay, h.ad.put i x, h.bel.setCell (p := ⟨GD, i, none⟩) h.d0 _, h.y0, h.d0, h.yd, h.ty, h.td⟩
theorem TB.puty (h : TB w0 w T n va vb vc lv k GY GD Y D) (i : Nat) (x : Int) : TB w0 (w.setCell ⟨GY, i, none⟩ (.int .i64 x)) T n va vb vc lv k GY GD (Y.set i x) D :=
  ⟨(Below.heap_setCell _ _ _ _ h.ty).trans h.box, h.ay.put i x, (Below.heap_setCell _ _ _ _ h.yd).trans h.ad, h.bel.setCell (p := ⟨GY, i, none⟩) h.y0 _, h.y0, h.d0, h.yd, h.ty, h.td⟩
/-- What turns only rows behind B leaves the tree. -/
theorem TB.keep {B : Nat} (h : TB w0 w T n va vb vc lv k GY GD Y D) (hb : Below B w w') (hT : T < B) (hY : GY < B) (hD : GD < B) (h0 : w0.heap.size ≤ B) : TB w0 w' T n va vb vc lv k GY GD Y D :=
  ⟨(hb.block _ hT).trans h.box, h.ay.below hb hY, h.ad.below hb hD, h.bel.trans (hb.mono h0), h.y0, h.d0, h.yd, h.ty, h.td⟩
end
/-- A list that grows, in a row of its own behind B. -/
def LRow (w : World) (B : Nat) (v : Value) (l : List Int) : Prop := w.ownsRow B 3 1 v l.length (l.map (Value.int .i64))
section
variable {w w' : World} {B : Nat} {v : Value} {l : List Int}
theorem LRow.below (h : LRow w B v l) (hb : Below w.heap.size w w') : LRow w' B v l := by
  obtain ⟨hl, ⟨rfl, h0⟩ | ⟨g, cap, cur, rfl, hg, hh, r⟩⟩ := h
  · exact ⟨hl, .inl ⟨rfl, h0⟩⟩
  · exact ⟨hl, .inr ⟨g, cap, cur, rfl, hg, (hb.block g (lt_of_heap hh)).trans hh, r⟩⟩
theorem LRow.put (h : LRow w B v l) (g i : Nat) (hg : g < B) (x : Value) : LRow (w.setCell ⟨g, i, none⟩ x) B v l := by
  obtain ⟨hl, ⟨rfl, h0⟩ | ⟨g', cap, cur, rfl, hg', hh, r⟩⟩ := h
  · exact ⟨hl, .inl ⟨rfl, h0⟩⟩
  · exact ⟨hl, .inr ⟨g', cap, cur, rfl, hg', (Below.heap_setCell _ _ _ _ (show g' ≠ g by omega)).trans hh, r⟩⟩
theorem LRow.shape (h : LRow w B v l) : ∃ ao c, v = .slice ao l.length c := owns_len h
theorem LRow.row (h : LRow w B v l) : RowAt .i64 w v l := by
  obtain ⟨hl, ⟨rfl, h0⟩ | ⟨g, cap, cur, rfl, hg, hh, hnc, hcm, hcur, htake⟩⟩ := h
  · obtain rfl : l = [] := List.eq_nil_of_length_eq_zero h0
    exact RowAt.nil _
  · refine ⟨_, _, rfl, hnc, hcm, (fun e => by cases e), fun a ha i hi => ?_⟩
    cases ha
    rw [Addr.add_lit, Nat.zero_add]
    have h1 : (l.map (Value.int .i64))[i]? = some (.int .i64 (l.getD i 0)) := by
      rw [List.getElem?_map, List.getElem?_eq_getElem hi]
      simp [List.getD, hi]
    rw [← htake, List.getElem?_take_of_lt (by omega)] at h1
    simp only [World.cell?, hh]
    simpa using h1
/-- One more at the end. -/
theorem LRow.more {w1 w2 : World} {v2 : Value} {x : Int} (hown : w2.ownsRow B 3 1 v2 (l.length + 1) (l.map (Value.int .i64) ++ [.int .i64 x])) : LRow w2 B v2 (l ++ [x]) := by
  unfold LRow
  rw [List.length_append, List.length_singleton, List.map_append]
  exact hown
end
theorem grown_keep {B n size : Nat} {e : TypeId} {w1 w2 : World} {v : Value} {xs : List Value} {p : Obj} (h1 : w1.ownsRow B e size v n xs) (hgrow : (w1.alloc p).grownBy w2 v.ownBlock) (hB : B ≤ w1.heap.size) : Below B w1 w2 := by
  refine ((Below.refl B w1).alloc hB _).grown hgrow (by simp; omega) ?_
  intro j hj
  obtain ⟨_, ⟨rfl, _⟩ | ⟨g', cap, cur', rfl, hg', _⟩⟩ := h1
  · simp [Value.ownBlock] at hj
  · simp [Value.ownBlock] at hj; omega
def RootsPost (n : Nat) (st tl wt : List Int) (k : Int) (S : List Pr) (L : List Int) (w0 w : World) (T : Nat) (va vb vc lv : Value) (GY GD : Nat) (e : Ending) (w' : World) : Prop :=
  ∃ (ly : Value) (Ly D : List Int), e = .returned ly ∧ TB w0 w' T n va vb vc lv k GY GD (tab n (fun _ => -1)) D ∧ LRow w' w.heap.size ly Ly ∧ TD n st tl wt k S L D (tab n (fun _ => -1)) 0 ∧ Lay n st tl wt k S L 0 Ly
set_option maxRecDepth 100000 in
set_option maxHeartbeats 8000000 in
theorem roots_any (n : Nat) (va vb vc : Value) (st tl wt : List Int) (k : Int) (sv : Value) (S : List Pr) (lv : Value) (L : List Int) (w0 w : World) (T GY GD : Nat) (hn : n ≤ 1048576) (hb : TB w0 w T n va vb vc lv k GY GD (tab n (fun _ => -1)) (tab n (fun _ => -1))) (hs : SAt w0 sv S) (hok : Sok n S) (hS : S.length * 16 ≤ 140737488353280) (hl : RowAt .u64 w0 lv L) (hLl : L.length = n) :
    Calls Try.prog 100 #[.pointer (some ⟨T, 0, none⟩), sv] w (RootsPost n st tl wt k S L w0 w T va vb vc lv GY GD) := by
  obtain ⟨i0, hi, hz0, hz1, hz2⟩ := info_parts Try.info3
  obtain ⟨so, sc, rfl, hsc, hscm⟩ := hs.shape
  obtain ⟨lo, lc, rfl⟩ := hl.shape
  have HSC := hide (fun W (h : Below w0.heap.size w0 W) i (hi : i < S.length) => (hs.below h).cellAt i hi)
  have HLC := hide (fun W (h : Below w0.heap.size w0 W) i (hi : i < n) => (hl.below h).cellAt i (by rw [hLl]; exact hi))
  rw [hLl] at HLC hb ⊢
  have hTl := lt_of_heap hb.box
  have hYl := lt_of_heap hb.ay
  have hDl := lt_of_heap hb.ad
  have h0l := hb.bel.size
  have HTB := hide hb
  have HOK := hide hok
  have HRP := hide (RP.zero (n := n) (S := S) (L := L))
  have HLR : Hid (LRow w w.heap.size (.slice none 0 0) []) := World.ownsRow_nil _ _ _ _
  obtain ⟨M, hM⟩ : ∃ M, M = S.length := ⟨_, rfl⟩
  have HM := hide hM
  rw [← hM] at HSC hsc hS ⊢
  clear hM hb hs hl hok
  go_enter Try.func100, Try.ntmps100
  go_wp2
  go_loopw [12, 5] (fun t u wr => ∃ (j : Nat) (D Ly : List Int), j ≤ M ∧ t = .int .i64 j ∧ TB w0 wr T n va vb vc (.slice lo n lc) k GY GD (tab n (fun _ => -1)) D ∧ LRow wr w.heap.size u Ly ∧ RP n S L j D Ly ∧ w.heap.size ≤ wr.heap.size) (fun t _ _ => M - (RowKit.intOf t).toNat)
  case atStart => exact ⟨0, _, [], by omega, rfl, HTB.out, HLR.out, HRP.out, Nat.le_refl _⟩
  case round =>
    clear HTB HRP HLR
    obtain ⟨j, D, Ly, hjM, rfl, hb, hlr, hrp, hwz⟩ := hrel
    obtain ⟨uo, uc, rfl⟩ := hlr.shape
    by_cases hlt : j < M
    · have hji : (j : Int) < (M : Int) := by omega
      obtain ⟨gs, os, hss, s0, s1⟩ := HSC.out _ hb.bel j hlt
      subst hss
      obtain ⟨v, hv⟩ : ∃ v : Nat, (sAt S j).1 = (v : Int) := ⟨((sAt S j).1).toNat, by have := (HOK.out j (by rw [← HM.out]; exact hlt)).1; omega⟩
      have hvn : v < n := by have := (HOK.out j (by rw [← HM.out]; exact hlt)).1; omega
      obtain ⟨x, hx⟩ : ∃ x, x = (sAt S j).2 := ⟨_, rfl⟩
      rw [hv] at s0
      rw [← hx] at s1
      -- the box of the start
      have hba : Below wr.heap.size wr (wr.alloc (.cells #[.int .i64 (v : Int), .int .u64 x] 41)) := below_alloc (Below.refl _ _) _
      have hbx : (wr.alloc (.cells #[.int .i64 (v : Int), .int .u64 x] 41)).heap[wr.heap.size]? = some (.cells #[.int .i64 (v : Int), .int .u64 x] 41 (0, 0)) := heap_new _ _
      have b0 := cell_of hbx (i := 0) rfl
      have b1 := cell_of hbx (i := 1) rfl
      have hb2 := hb.below hba
      have hlr2 := hlr.below hba
      have t5 := cell_of hb2.box (i := 5) rfl
      have t7 := cell_of hb2.box (i := 7) rfl
      obtain ⟨gl, ol, cl', hsl, hcl, l0⟩ := HLC.out _ hb2.bel v hvn
      simp only [Value.slice.injEq, true_and] at hsl
      obtain ⟨rfl, rfl⟩ := hsl
      have d0 := hb2.ad.cell v (by rw [hrp.dl]; exact hvn)
      have df := hb2.ad.free v
      have hvi : (v : Int) < (n : Int) := by omega
      have hlen : Ly.length ≤ n := by have := hrp.cnt; omega
      have HSK := hide (fun h => hrp.skip hvn hv h)
      have HTK := hide (fun h1 h2 => hrp.take hvn hv h1 h2)
      rw [← hx] at HSK HTK
      obtain ⟨y, hy⟩ : ∃ y, y = at_ L v := ⟨_, rfl⟩
      rw [← hy] at l0 HSK HTK
      obtain ⟨a, ha⟩ : ∃ a, a = at_ D v := ⟨_, rfl⟩
      rw [← ha] at d0 HSK HTK
      have hwz2 : w.heap.size ≤ (wr.alloc (.cells #[.int .i64 (v : Int), .int .u64 x] 41)).heap.size := by simp; omega
      have HWZ := hide hwz2
      have HB := hide hb2; have HLR := hide hlr2
      clear hb hlr hrp hv hx hy ha hba hbx hb2 hlr2 hwz2 hcl
      go_wp2_with fail
      generalize (wr.alloc (.cells #[.int .i64 (v : Int), .int .u64 x] 41)) = w2 at b0 b1 t5 t7 l0 d0 df HWZ HB HLR ⊢
      by_cases h1 : x = y
      · have hb1 : (x == y) = true := by simp [h1]
        by_cases h2 : a = -1
        · have hb2 : (a == -1) = true := by simp [h2]
          have HN := hide (HTK.out h1 h2)
          clear HSK HTK h1 h2
          go_quiet (fail)
          go_wp2_with fail
          go_region
          have HB3 := hide ((HB.out.below (below_drewN (Below.refl _ _) (nq + 1))).putd v 0)
          have HO3 : Hid (((w2.drewN (nq + 1)).setCell ⟨GD, v, none⟩ (.int .i64 0)).ownsRow w.heap.size 3 1 (.slice uo Ly.length uc) Ly.length (Ly.map (Value.int .i64))) := (HLR.out.below (below_drewN (Below.refl _ _) (nq + 1))).put GD v hDl _
          have b03 : ((w2.drewN (nq + 1)).setCell ⟨GD, v, none⟩ (.int .i64 0)).cell? ⟨wr.heap.size, 0, none⟩ = some (.int .i64 (v : Int)) := by
            rw [World.cell?, Below.heap_setCell _ _ _ _ (show wr.heap.size ≠ GD by omega)]
            exact b0
          have HW3 : Hid (w.heap.size ≤ ((w2.drewN (nq + 1)).setCell ⟨GD, v, none⟩ (.int .i64 0)).heap.size) := by
            have := HWZ.out
            show _ ≤ _
            simp [World.setCell]; exact this
          clear b0 b1 t5 t7 l0 d0 df HB HLR HWZ
          generalize ((w2.drewN (nq + 1)).setCell ⟨GD, v, none⟩ (.int .i64 0)) = w3 at HB3 HO3 b03 HW3 ⊢
          have hw3 := HW3.out
          go_wp2_with (at_builtin; refine wpList_append_own _ rfl (.tmp 45) (.tmp 48) 29 rfl _ 3 i0 (.int .i64 0) 1 8 Try.underlying29 hi hz0 hz1 hz2 rfl (by decide) _ _ _ rfl (HO3.out.alloc _) ⟨w3.heap.size, 0, none⟩ 1 1 [.int .i64 (v : Int)] rfl rfl (one_at w3 _ _) (by simp [Value.oneCell']) (by unfold maxLen; omega) (by omega) (by simp; omega) ?_; intro u1 w5 hown hgrow hq; have HL5 : Hid (LRow w5 w.heap.size u1 (Ly ++ [(v : Int)])) := LRow.more (w1 := w3) hown; have HK5 := hide (grown_keep HO3.out hgrow hw3); clear hown hgrow hq)
          exact ⟨⟨j + 1, _, _, by omega, by simp, HB3.out.keep HK5.out hTl hYl hDl h0l, HL5.out, HN.out, Nat.le_trans hw3 HK5.out.size⟩, by simp [RowKit.intOf]; omega⟩
        · have hb2 : (a == -1) = false := by simp [h2]
          have HN := hide (HSK.out (.inr h2))
          clear HSK HTK h1 h2
          go_quiet (fail)
          go_wp2
          exact ⟨⟨j + 1, D, Ly, by omega, by simp, HB.out.below (below_drewN (Below.refl _ _) _), HLR.out.below (below_drewN (Below.refl _ _) _), HN.out, HWZ.out⟩, by simp [RowKit.intOf]; omega⟩
      · have hb1 : (x == y) = false := by simp [h1]
        have HN := hide (HSK.out (.inl h1))
        clear HSK HTK h1
        go_quiet (fail)
        go_wp2
        exact ⟨⟨j + 1, D, Ly, by omega, by simp, HB.out.below (below_drewN (Below.refl _ _) _), HLR.out.below (below_drewN (Below.refl _ _) _), HN.out, HWZ.out⟩, by simp [RowKit.intOf]; omega⟩
    · obtain rfl : j = M := by omega
      have hji : ¬ (j : Int) < (j : Int) := by omega
      have HB := hide hb; have HLR := hide hlr
      have HRP : Hid (RP n S L S.length D Ly) := by rw [← HM.out]; exact hrp
      have t5 := cell_of hb.box (i := 5) rfl
      have HND := hide (NevD.zero (L := L) hrp.dl)
      clear hb hlr hrp
      go_wp2
      clear t5
      go_loopw [56] (fun t wr => ∃ (i : Nat) (D2 : List Int), i ≤ n ∧ t = .int .i64 i ∧ TB w0 wr T n va vb vc (.slice lo n lc) k GY GD (tab n (fun _ => -1)) D2 ∧ LRow wr w.heap.size (.slice uo Ly.length uc) Ly ∧ NevD n L D i D2) (fun t _ => n - (RowKit.intOf t).toNat)
      case atStart => exact ⟨0, D, by omega, rfl, HB.out, HLR.out, HND.out⟩
      case round =>
        clear HB HLR HND
        obtain ⟨i, D2, hin, rfl, hb, hlr, hnd⟩ := hrel
        by_cases hlt2 : i < n
        · have hii : (i : Int) < (n : Int) := by omega
          obtain ⟨gl, ol, cl', hsl, hcl, l0⟩ := HLC.out _ hb.bel i hlt2
          simp only [Value.slice.injEq, true_and] at hsl
          obtain ⟨rfl, rfl⟩ := hsl
          have t7 := cell_of hb.box (i := 7) rfl
          have d0 := hb.ad.cell i (by rw [hnd.1]; exact hlt2)
          have df := hb.ad.free i
          have HSK := hide (fun h => hnd.skip h)
          have HTK := hide (fun h => hnd.take hlt2 h)
          have HB := hide hb; have HLR := hide hlr
          have HB2 := hide (hb.putd i 0)
          have HL2 := hide (hlr.put GD i hDl (.int .i64 0))
          obtain ⟨y, hy⟩ : ∃ y, y = at_ L i := ⟨_, rfl⟩
          rw [← hy] at l0 HSK HTK
          clear hb hlr hnd hy hcl
          by_cases h1 : y = 18446744073709551615
          · have hb1 : (y == 18446744073709551615) = true := by simp [h1]
            have HN := hide (HTK.out h1)
            clear h1 HSK HTK
            go_wp2
            exact ⟨⟨i + 1, _, by omega, by simp, HB2.out, HL2.out, HN.out⟩, by simp [RowKit.intOf]; omega⟩
          · have hb1 : (y == 18446744073709551615) = false := by simp [h1]
            have HN := hide (HSK.out h1)
            clear h1 HSK HTK
            go_wp2
            exact ⟨⟨i + 1, _, by omega, by simp, HB.out, HLR.out, HN.out⟩, by simp [RowKit.intOf]; omega⟩
        · obtain rfl : i = n := by omega
          have hii : ¬ (i : Int) < (i : Int) := by omega
          have HE : Hid (RootsPost i st tl wt k S L w0 w T va vb vc (.slice lo i lc) GY GD (.returned (.slice uo Ly.length uc)) wr) := by
            obtain ⟨r1, r2⟩ := roots_done (st := st) (tl := tl) (wt := wt) (k := k) HOK.out HRP.out hnd
            exact ⟨_, Ly, D2, rfl, hb, hlr, r1, r2⟩
          clear hb hlr hnd
          go_wp2
          go_ret
          exact HE.out
end Go.Proofs.Ythoklgdlnmccmaa

/- The program's tree: a layer grown. -/
namespace Go.Proofs.Ythoklgdlnmccmaa
open Go.RowKit Go.Lib
set_option linter.unusedVariables false
section
variable {n : Nat} {st tl wt : List Int} {k : Int} {S : List Pr} {L D Y nx Ly : List Int} {d c a uu i v : Nat} {E E2 : Nat → Prop}
theorem GL.congr (h : GL n st tl wt k S L d E D Y nx c) (hE : ∀ e, e < tl.length → (E e ↔ E2 e)) : GL n st tl wt k S L d E2 D Y nx c := by
  refine ⟨⟨h.gi.dl, h.gi.yl, h.gi.old, fun v hv h0 => ?_⟩, h.mem, h.inn, h.cnt⟩
  rcases h.gi.new v hv h0 with ⟨p, q, r⟩ | ⟨p, e, he, q, r, s, t⟩
  · exact .inl ⟨p, q, fun e he h1 => r e he ((hE e he).2 h1)⟩
  · exact .inr ⟨p, e, he, (hE e he).1 q, r, s, fun e' he' h1 => t e' he' ((hE e' (by omega)).2 h1)⟩
/-- The edges that are gone over: of the first a vertices of the layer, and of uu those ahead of i. -/
def EA (st : List Int) (n : Nat) (Ly : List Int) (a : Nat) (e : Nat) : Prop := ∃ b, b < a ∧ at_ Ly b = (src st n e : Int)
def EB (st : List Int) (n : Nat) (Ly : List Int) (a uu i : Nat) (e : Nat) : Prop := EA st n Ly a e ∨ (src st n e = uu ∧ e < i)
theorem eb_old {e : Nat} (h : EB st n Ly a uu i e) : EB st n Ly a uu (i + 1) e := by
  rcases h with h | h
  · exact .inl h
  · exact .inr ⟨h.1, by omega⟩
theorem eb_new {e : Nat} (h : EB st n Ly a uu (i + 1) e) : EB st n Ly a uu i e ∨ e = i := by
  rcases h with h | h
  · exact .inl (.inl h)
  · rcases Nat.lt_or_ge e i with h1 | h1
    · exact .inl (.inr ⟨h.1, h1⟩)
    · exact .inr (by omega)
/-- A layer under way, within the row of uu. -/
structure GR (n : Nat) (st tl wt : List Int) (k : Int) (S : List Pr) (L : List Int) (d : Nat) (Ly : List Int) (a uu i : Nat) (D Y nx : List Int) (c : Nat) : Prop where
  gl : GL n st tl wt k S L d (EB st n Ly a uu i) D Y nx c
  lo : at_ st uu ≤ (i : Int)
  hi : (i : Int) ≤ at_ st (uu + 1)
  un : uu < n
  ud : dep n st tl wt k S L d uu = (d : Int)
  ul : at_ L uu ≠ Nev
theorem GR.start (hg : Good n st tl wt) (h : GL n st tl wt k S L d (EA st n Ly a) D Y nx c) (hu : uu < n) (ud : dep n st tl wt k S L d uu = (d : Int)) (ul : at_ L uu ≠ Nev) (hi : (i : Int) = at_ st uu) : GR n st tl wt k S L d Ly a uu i D Y nx c := by
  refine ⟨h.congr fun e he => ⟨.inl, fun h1 => ?_⟩, by omega, by have := hg.step uu hu; omega, hu, ud, ul⟩
  rcases h1 with h1 | h1
  · exact h1
  · have := (src_row hg he).1; rw [h1.1] at this; omega
theorem GR.finish (hg : Good n st tl wt) (h : GR n st tl wt k S L d Ly a uu i D Y nx c) (hi : (i : Int) = at_ st (uu + 1)) (ha : at_ Ly a = (uu : Int)) : GL n st tl wt k S L d (EA st n Ly (a + 1)) D Y nx c := by
  refine h.gl.congr fun e he => ⟨fun h1 => ?_, fun h1 => ?_⟩
  · rcases h1 with ⟨b, hb, h2⟩ | h1
    · exact ⟨b, by omega, h2⟩
    · exact ⟨a, by omega, by rw [ha, h1.1]⟩
  · obtain ⟨b, hb, h2⟩ := h1
    rcases Nat.lt_or_ge b a with h3 | h3
    · exact .inl ⟨b, h3, h2⟩
    · obtain rfl : b = a := by omega
      have h4 : src st n e = uu := by rw [ha] at h2; omega
      have := (src_row hg he).2
      rw [h4] at this
      exact .inr ⟨h4, by omega⟩
theorem GR.pass (hg : Good n st tl wt) (h : GR n st tl wt k S L d Ly a uu i D Y nx c) (hlt : (i : Int) < at_ st (uu + 1)) (hno : ext k (at_ L uu) (at_ wt i) ≠ at_ L (tov tl i) ∨ (at_ D (tov tl i) ≠ -1 ∧ at_ D (tov tl i) ≠ ((d + 1 : Nat) : Int))) : GR n st tl wt k S L d Ly a uu (i + 1) D Y nx c := by
  have hs := src_eq hg h.un h.lo hlt
  have he : i < tl.length := by have := (hg.range (uu + 1) (by have := h.un; omega)).2; omega
  have hv := (tov_lt hg he).1
  refine ⟨h.gl.pass (e := i) hv ?_ rfl (fun e' => eb_new) (fun e' => eb_old), by have := h.lo; omega, by omega, h.un, h.ud, h.ul⟩
  rcases hno with h1 | h1
  · right; intro hq; have := hq.2.1.2; rw [hs] at this; exact h1 this
  · left; intro h2
    rcases (h.gl.gi.is_none hv).2 h2 with h3 | h3
    · exact h1.1 h3
    · exact h1.2 h3
theorem GR.qe (hg : Good n st tl wt) (h : GR n st tl wt k S L d Ly a uu i D Y nx c) (hlt : (i : Int) < at_ st (uu + 1)) (hx : ext k (at_ L uu) (at_ wt i) = at_ L (tov tl i)) : Qe n st tl wt k S L d i (tov tl i) := by
  have hs := src_eq hg h.un h.lo hlt
  refine ⟨rfl, ⟨?_, ?_⟩, ?_⟩
  · rw [hs]; exact h.ul
  · rw [hs]; exact hx
  · rw [hs]; exact h.ud
theorem GR.take (hg : Good n st tl wt) (h : GR n st tl wt k S L d Ly a uu i D Y nx c) (hlt : (i : Int) < at_ st (uu + 1)) (hx : ext k (at_ L uu) (at_ wt i) = at_ L (tov tl i)) (h0 : at_ D (tov tl i) = -1) : GR n st tl wt k S L d Ly a uu (i + 1) (D.set (tov tl i) ((d + 1 : Nat) : Int)) (Y.set (tov tl i) (i : Int)) (nx ++ [(tov tl i : Int)]) c := by
  have hs := src_eq hg h.un h.lo hlt
  have he : i < tl.length := by have := (hg.range (uu + 1) (by have := h.un; omega)).2; omega
  exact ⟨h.gl.take he (tov_lt hg he).1 h0 (h.qe hg hlt hx) (fun e' => eb_new) (fun e' => eb_old) (.inr ⟨hs, by omega⟩), by have := h.lo; omega, by omega, h.un, h.ud, h.ul⟩
theorem GR.min_ (hg : Good n st tl wt) (h : GR n st tl wt k S L d Ly a uu i D Y nx c) (hlt : (i : Int) < at_ st (uu + 1)) (hx : ext k (at_ L uu) (at_ wt i) = at_ L (tov tl i)) (h0 : at_ D (tov tl i) = ((d + 1 : Nat) : Int)) : GR n st tl wt k S L d Ly a uu (i + 1) D (Y.set (tov tl i) (min (at_ Y (tov tl i)) (i : Int))) nx c := by
  have hs := src_eq hg h.un h.lo hlt
  have he : i < tl.length := by have := (hg.range (uu + 1) (by have := h.un; omega)).2; omega
  exact ⟨h.gl.min_ he (tov_lt hg he).1 h0 (h.qe hg hlt hx) (fun e' => eb_new) (fun e' => eb_old) (.inr ⟨hs, by omega⟩), by have := h.lo; omega, by omega, h.un, h.ud, h.ul⟩
theorem lay_all (hg : Good n st tl wt) (h : Lay n st tl wt k S L d Ly) (e v : Nat) (he : e < tl.length) (hq : Qe n st tl wt k S L d e v) : EA st n Ly Ly.length e := by
  have := h.2 _ (src_lt hg he) hq.2.2 hq.2.1.1
  obtain ⟨b, hb, h1⟩ := List.getElem_of_mem this
  refine ⟨b, hb, ?_⟩
  unfold at_
  rw [List.getElem?_eq_getElem hb, h1]; rfl
theorem lay_at (h : Lay n st tl wt k S L d Ly) (ha : a < Ly.length) : ∃ u : Nat, u < n ∧ at_ Ly a = (u : Int) ∧ dep n st tl wt k S L d u = (d : Int) ∧ at_ L u ≠ Nev := by
  obtain ⟨v, hv, e1, e2, e3⟩ := h.1 _ (List.getElem_mem ha)
  refine ⟨v, hv, ?_, e2, e3⟩
  unfold at_
  rw [List.getElem?_eq_getElem ha, e1]; rfl
end
section
variable {w w' : World} {B : Nat} {v : Value} {l : List Int}
theorem LRow.kept {B2 : Nat} (h : LRow w B v l) (hb : Below B2 w w') (hv : ∀ g, v.ownBlock = some g → g < B2) : LRow w' B v l := by
  obtain ⟨hl, ⟨rfl, h0⟩ | ⟨g, cap, cur, rfl, hg, hh, r⟩⟩ := h
  · exact ⟨hl, .inl ⟨rfl, h0⟩⟩
  · exact ⟨hl, .inr ⟨g, cap, cur, rfl, hg, (hb.block g (hv g rfl)).trans hh, r⟩⟩
theorem LRow.lt (h : LRow w B v l) (g : Nat) (hg : v.ownBlock = some g) : g < w.heap.size := by
  obtain ⟨hl, ⟨rfl, h0⟩ | ⟨g', cap, cur, rfl, hg', hh, r⟩⟩ := h
  · simp [Value.ownBlock] at hg
  · simp [Value.ownBlock] at hg; subst hg; exact lt_of_heap hh
end
/-- The memory while a layer grows. -/
structure GM (w0 w wr : World) (T n : Nat) (va vb vc lv : Value) (k : Int) (GY GD B0 : Nat) (ly : Value) (Ly : List Int) (Y D : List Int) (u : Value) (nx : List Int) : Prop where
  tb : TB w0 wr T n va vb vc lv k GY GD Y D
  lr : LRow wr w.heap.size u nx
  lay : LRow wr B0 ly Ly
  sz : w.heap.size ≤ wr.heap.size
section
variable {w0 w wr w' : World} {T n : Nat} {va vb vc lv : Value} {k : Int} {GY GD B0 : Nat} {ly : Value} {Ly Y D : List Int} {u : Value} {nx : List Int}
theorem GM.drew (h : GM w0 w wr T n va vb vc lv k GY GD B0 ly Ly Y D u nx) (m : Nat) : GM w0 w (wr.drewN m) T n va vb vc lv k GY GD B0 ly Ly Y D u nx := by
  have hb : Below wr.heap.size wr (wr.drewN m) := below_drewN (Below.refl _ _) m
  exact ⟨h.tb.below hb, h.lr.below hb, h.lay.below hb, h.sz⟩
theorem GM.puty (h : GM w0 w wr T n va vb vc lv k GY GD B0 ly Ly Y D u nx) (hY : GY < B0) (hYw : GY < w.heap.size) (i : Nat) (x : Int) : GM w0 w (wr.setCell ⟨GY, i, none⟩ (.int .i64 x)) T n va vb vc lv k GY GD B0 ly Ly (Y.set i x) D u nx :=
  ⟨h.tb.puty i x, h.lr.put GY i hYw _, h.lay.put GY i hY _, by have := h.sz; simpa [World.setCell] using this⟩
theorem GM.putd (h : GM w0 w wr T n va vb vc lv k GY GD B0 ly Ly Y D u nx) (hD : GD < B0) (hDw : GD < w.heap.size) (i : Nat) (x : Int) : GM w0 w (wr.setCell ⟨GD, i, none⟩ (.int .i64 x)) T n va vb vc lv k GY GD B0 ly Ly Y (D.set i x) u nx :=
  ⟨h.tb.putd i x, h.lr.put GD i hDw _, h.lay.put GD i hD _, by have := h.sz; simpa [World.setCell] using this⟩
end
def GrowPost (n : Nat) (st tl wt : List Int) (k : Int) (S : List Pr) (L : List Int) (w0 w : World) (T : Nat) (va vb vc lv : Value) (GY GD d : Nat) (e : Ending) (w' : World) : Prop :=
  ∃ (ly : Value) (Ly Y D : List Int), e = .returned ly ∧ TB w0 w' T n va vb vc lv k GY GD Y D ∧ LRow w' w.heap.size ly Ly ∧ TD n st tl wt k S L D Y (d + 1) ∧ Lay n st tl wt k S L (d + 1) Ly ∧ w.heap.size ≤ w'.heap.size
set_option maxRecDepth 100000 in
set_option maxHeartbeats 8000000 in
theorem grow_any (n : Nat) (va vb vc : Value) (st tl wt : List Int) (k : Int) (S : List Pr) (lv : Value) (L : List Int) (w0 w : World) (T GY GD B0 d : Nat) (ly : Value) (Ly Y D : List Int) (hg : GIs w0 n va vb vc st tl wt) (hgd : Good n st tl wt) (hwb : ∀ e, 0 ≤ at_ wt e ∧ at_ wt e ≤ 18446744073709551615) (hb : TB w0 w T n va vb vc lv k GY GD Y D) (hl : RowAt .u64 w0 lv L) (hF : Found n st tl wt k S L) (hTD : TD n st tl wt k S L D Y d) (hLay : Lay n st tl wt k S L d Ly) (hLR : LRow w B0 ly Ly) (hT : T < B0) (hY : GY < B0) (hD : GD < B0) (hd : d ≤ n) (hLl : Ly.length ≤ 9223372036854775807) :
    Calls Try.prog 101 #[.pointer (some ⟨T, 0, none⟩), ly, .int .i64 ((d + 1 : Nat) : Int)] w (GrowPost n st tl wt k S L w0 w T va vb vc lv GY GD d) := by
  obtain ⟨i0, hi, hz0, hz1, hz2⟩ := info_parts Try.info3
  obtain ⟨ga, oa, ca, rfl, hca, hcm, hcell⟩ := hg.s.spot (by intro e; have := hgd.s_len; rw [e] at this; simp at this)
  obtain ⟨bo, cb, rfl⟩ := hg.t.shape
  obtain ⟨co, cc, rfl⟩ := hg.u.shape
  obtain ⟨lo, lc, rfl⟩ := hl.shape
  have hlen := hF.len
  have hn := hgd.n_le
  have hm := hgd.m_le
  have hsl := hgd.s_len
  rw [hsl] at hca hcell hb ⊢
  rw [hlen] at hb ⊢
  have hga : ga < w0.heap.size := block_of_cell (hcell 0 (by omega))
  have HS := hide (fun W (h : Below w0.heap.size w0 W) i (hi : i < n + 1) => show W.cell? ⟨ga, oa + i, none⟩ = some (.int .i64 (at_ st i)) from (below_cell h hga).trans (hcell i (by omega)))
  have HGT := hide (fun W (h : Below w0.heap.size w0 W) i (hi : i < tl.length) => (hg.t.below h).cellAt i hi)
  have HGU := hide (fun W (h : Below w0.heap.size w0 W) i (hi : i < wt.length) => (hg.u.below h).cellAt i hi)
  have HLC := hide (fun W (h : Below w0.heap.size w0 W) i (hi : i < n) => (hl.below h).cellAt i (by rw [hlen]; exact hi))
  rw [hlen] at HLC
  have hTl := lt_of_heap hb.box
  have hYl := lt_of_heap hb.ay
  have hDl := lt_of_heap hb.ad
  have h0l := hb.bel.size
  have HLT := hide (fun g hg => hLR.lt g hg)
  obtain ⟨lyo, lyc, rfl⟩ := hLR.shape
  have HGM : Hid (GM w0 w w T n (.slice (some ⟨ga, oa, none⟩) (n + 1) ca) (.slice bo tl.length cb) (.slice co wt.length cc) (.slice lo n lc) k GY GD B0 (.slice lyo Ly.length lyc) Ly Y D (.slice none 0 0) []) := ⟨hb, World.ownsRow_nil _ _ _ _, hLR, Nat.le_refl _⟩
  have HGL := hide (GL.start (E := EA st n Ly 0) hTD (fun e he => by rintro ⟨b, hb, _⟩; omega))
  have hcn : nd D n ≤ n := nd_le D n
  have HLAT := hide (fun a ha => lay_at (a := a) hLay ha)
  have HALL := hide (fun e v he hq => lay_all hgd hLay e v he hq)
  have HEX := hide (fun a x W p q r s => extend_any k a x W p q r s)
  have HDG := hide hgd; have HWB := hide hwb; have HFD := hide hF
  obtain ⟨M, hM⟩ : ∃ M, M = Ly.length := ⟨_, rfl⟩
  rw [← hM] at HGM HLAT HALL hLl HLT ⊢
  have HMM := hide hM
  obtain ⟨cn, hcn2⟩ : ∃ cn, cn = nd D n := ⟨_, rfl⟩
  rw [← hcn2] at HGL hcn
  have hd1 : ((d + 1 : Nat) : Int) = (d : Int) + 1 := by omega
  rw [hd1]
  clear hg hgd hwb hb hl hF hTD hLay hLR hsl hcell hlen hM hcn2 hd1
  go_enter Try.func101, Try.ntmps101
  go_wp2
  go_loopw [14, 7] (fun t u wr => ∃ (a : Nat) (nx Y D : List Int), a ≤ M ∧ t = .int .i64 a ∧ GM w0 w wr T n (.slice (some ⟨ga, oa, none⟩) (n + 1) ca) (.slice bo tl.length cb) (.slice co wt.length cc) (.slice lo n lc) k GY GD B0 (.slice lyo M lyc) Ly Y D u nx ∧ GL n st tl wt k S L d (EA st n Ly a) D Y nx cn) (fun t _ _ => M - (RowKit.intOf t).toNat)
  case atStart => exact ⟨0, [], Y, D, by omega, rfl, HGM.out, HGL.out⟩
  case round =>
    clear HGM HGL
    obtain ⟨a, nx, Y1, D1, haM, rfl, hgm, hgl⟩ := hrel
    by_cases hlt : a < M
    · have hai : (a : Int) < (M : Int) := by omega
      obtain ⟨uu, hun, hua, hud, hul⟩ := HLAT.out a hlt
      obtain ⟨gy, oy, cy, hsy, hcy, l0⟩ := hgm.lay.row.cellAt a (by rw [← HMM.out]; exact hlt)
      rw [hua] at l0
      rw [← HMM.out] at hsy
      simp only [Value.slice.injEq, true_and] at hsy
      obtain ⟨rfl, hsy2⟩ := hsy
      clear hcy hsy2
      obtain ⟨i1, hi1⟩ : ∃ i1 : Nat, (i1 : Int) = at_ st uu := ⟨(at_ st uu).toNat, by have := (HDG.out.range uu (by omega)).1; omega⟩
      have HGR := hide (GR.start HDG.out hgl hun hud hul hi1)
      have t1 := cell_of hgm.tb.box (i := 1) rfl
      have s0 : wr.cell? ⟨ga, oa + uu, none⟩ = some (.int .i64 (i1 : Int)) := by rw [hi1]; exact HS.out _ hgm.tb.bel uu (by omega)
      have HGM := hide hgm
      obtain ⟨ie, hie⟩ : ∃ ie : Nat, at_ st (uu + 1) = (ie : Int) := ⟨(at_ st (uu + 1)).toNat, by have := (HDG.out.range (uu + 1) (by omega)).1; omega⟩
      have hiem : ie ≤ tl.length := by have := (HDG.out.range (uu + 1) (by omega)).2; omega
      have HIE := hide hie
      have HUA := hide hua
      have huI : (uu : Int) < (n : Int) + 1 := by omega
      have hu1I : (uu : Int) + 1 < (n : Int) + 1 := by omega
      clear hgm hgl hud hul hi1 hua hie
      go_wp2_with fail
      clear t1 s0 l0
      go_loopw [10, 7] (fun t u wr => ∃ (i : Nat) (nx Y D : List Int), t = .int .i64 i ∧ GM w0 w wr T n (.slice (some ⟨ga, oa, none⟩) (n + 1) ca) (.slice bo tl.length cb) (.slice co wt.length cc) (.slice lo n lc) k GY GD B0 (.slice (some ⟨gy, oy, none⟩) M lyc) Ly Y D u nx ∧ GR n st tl wt k S L d Ly a uu i D Y nx cn) (fun t _ _ => ie - (RowKit.intOf t).toNat)
      case atStart => exact ⟨i1, nx, Y1, D1, rfl, HGM.out, HGR.out⟩
      case round =>
        clear HGM HGR
        obtain ⟨i, nx2, Y2, D2, rfl, hgm, hgr⟩ := hrel
        obtain ⟨uo, uc, rfl⟩ := hgm.lr.shape
        have t1 := cell_of hgm.tb.box (i := 1) rfl
        have e1 : wr.cell? ⟨ga, oa + (uu + 1), none⟩ = some (.int .i64 (ie : Int)) := by rw [← HIE.out]; exact HS.out _ hgm.tb.bel (uu + 1) (by omega)
        have hiie : i ≤ ie := by have := hgr.hi; rw [HIE.out] at this; omega
        have HGM := hide hgm
        by_cases hlt2 : i < ie
        · have him : i < tl.length := by omega
          have hii : (i : Int) < (ie : Int) := by omega
          have hlti : (i : Int) < at_ st (uu + 1) := by rw [HIE.out]; omega
          have t2 := cell_of hgm.tb.box (i := 2) rfl
          have t3 := cell_of hgm.tb.box (i := 3) rfl
          have t4 := cell_of hgm.tb.box (i := 4) rfl
          have t5 := cell_of hgm.tb.box (i := 5) rfl
          have t6 := cell_of hgm.tb.box (i := 6) rfl
          have t7 := cell_of hgm.tb.box (i := 7) rfl
          obtain ⟨gt, ot, ct', hst', hct, z0⟩ := HGT.out wr hgm.tb.bel i him
          simp only [Value.slice.injEq, true_and] at hst'
          obtain ⟨rfl, rfl⟩ := hst'
          obtain ⟨gu, ou, cu', hsu, hcu, z1⟩ := HGU.out wr hgm.tb.bel i (by have := HDG.out.w_len; omega)
          simp only [Value.slice.injEq, true_and] at hsu
          obtain ⟨rfl, rfl⟩ := hsu
          obtain ⟨htn, hte⟩ := tov_lt HDG.out him
          rw [hte] at z0
          obtain ⟨gl, ol, cl', hsl, hcl, l1⟩ := HLC.out _ hgm.tb.bel uu hun
          obtain ⟨gl2, ol2, cl2, hsl2, hcl2, l2⟩ := HLC.out _ hgm.tb.bel (tov tl i) htn
          simp only [Value.slice.injEq, true_and] at hsl
          obtain ⟨rfl, rfl⟩ := hsl
          simp only [Value.slice.injEq, Option.some.injEq, Addr.mk.injEq, and_true, true_and] at hsl2
          obtain ⟨⟨rfl, rfl⟩, hcl3⟩ := hsl2
          have dv := hgm.tb.ad.cell (tov tl i) (by rw [hgr.gl.gi.dl]; exact htn)
          have df := hgm.tb.ad.free (tov tl i)
          have yv := hgm.tb.ay.cell (tov tl i) (by rw [hgr.gl.gi.yl]; exact htn)
          have yf := hgm.tb.ay.free (tov tl i)
          have hyd := hgm.tb.yd
          have hru := HFD.out.rng _ hun
          have hwe := HWB.out i
          have HEXX := hide (fun W => HEX.out (at_ L uu) (at_ wt i) W hru.1 (by have := hru.2; unfold Nev at this; omega) hwe.1 hwe.2)
          have hroom := hgr.gl.room hcn
          have HPA := hide (fun h => hgr.pass HDG.out hlti h)
          have HTA := hide (fun h1 h2 => hgr.take HDG.out hlti h1 h2)
          have HMI := hide (fun h1 h2 => hgr.min_ HDG.out hlti h1 h2)
          have HW1 := hide (fun m => ((HGM.out.drew m).putd hD hDl (tov tl i) ((d + 1 : Nat) : Int)).puty hY hYl (tov tl i) (i : Int))
          have HW2 := hide (fun m => (HGM.out.drew m).puty hY hYl (tov tl i) (min (at_ Y2 (tov tl i)) (i : Int)))
          obtain ⟨x, hx⟩ : ∃ x, x = ext k (at_ L uu) (at_ wt i) := ⟨_, rfl⟩
          rw [← hx] at HEXX HPA HTA HMI
          obtain ⟨yu, hyu⟩ : ∃ y, y = at_ L uu := ⟨_, rfl⟩
          rw [← hyu] at l1 HEXX
          obtain ⟨t, htt⟩ : ∃ t, t = tov tl i := ⟨_, rfl⟩
          rw [← htt] at z0 l2 dv df yv yf HPA HTA HMI HW1 HW2 htn
          obtain ⟨b, hb⟩ : ∃ b, b = at_ D2 t := ⟨_, rfl⟩
          rw [← hb] at dv HPA HTA HMI
          obtain ⟨yt, hyt⟩ : ∃ y, y = at_ L t := ⟨_, rfl⟩
          rw [← hyt] at l2 HPA HTA HMI
          obtain ⟨wz, hwz⟩ : ∃ z, z = at_ wt i := ⟨_, rfl⟩
          rw [← hwz] at z1 HEXX
          obtain ⟨yy, hyy⟩ : ∃ z, z = at_ Y2 t := ⟨_, rfl⟩
          rw [← hyy] at yv HMI HW2
          rw [show ((d + 1 : Nat) : Int) = (d : Int) + 1 by omega] at HPA HTA HMI HW1
          have hlI : (i : Int) < (tl.length : Int) := by omega
          have hlW : (i : Int) < (wt.length : Int) := by have := HDG.out.w_len; omega
          have hti : (t : Int) < (n : Int) := by omega
          have huni : (uu : Int) < (n : Int) := by omega
          clear hgm hgr hx hyu htt hb hyt hwz hyy hte hru hwe hct hcu hcl hcl2 hcl3
          by_cases h1 : x = yt
          · have b1 : (x != yt) = false := by simp [h1]
            by_cases h2 : b = -1
            · have b2 : (b == -1) = true := by simp [h2]
              have HN := hide (HTA.out h1 h2)
              clear HPA HTA HMI h1 h2
              go_wp2_with fail
              go_quiet (first | (go_at_call 71; exact (HEXX.out _).mono fun _ _ h => ⟨h.1, _, h.2⟩))
              go_wp2_with fail
              go_region
              have HG3 := hide (HW1.out (nq + 1))
              clear HW1 HW2 HGM t1 t2 t3 t4 t5 t6 t7 z0 z1 l1 l2 dv df yv yf e1
              generalize (((wr.drewN (nq + 1)).setCell ⟨GD, t, none⟩ (.int .i64 ((d : Int) + 1))).setCell ⟨GY, t, none⟩ (.int .i64 (i : Int))) = w3 at HG3 ⊢
              have hw3 := HG3.out.sz
              have HO3 : Hid (w3.ownsRow w.heap.size 3 1 (.slice uo nx2.length uc) nx2.length (nx2.map (Value.int .i64))) := HG3.out.lr
              go_wp2_with (at_builtin; refine wpList_append_own _ rfl (.tmp 98) (.tmp 100) 29 rfl _ 3 i0 (.int .i64 0) 1 8 Try.underlying29 hi hz0 hz1 hz2 rfl (by decide) _ _ _ rfl (HO3.out.alloc _) ⟨w3.heap.size, 0, none⟩ 1 1 [.int .i64 (t : Int)] rfl rfl (one_at w3 _ _) (by simp [Value.oneCell']) (by unfold maxLen; omega) (by omega) (by simp; omega) ?_; intro u1 w5 hown hgrow hq; have HL5 : Hid (LRow w5 w.heap.size u1 (nx2 ++ [(t : Int)])) := LRow.more (w1 := w3) hown; have HK5 := hide (grown_keep HO3.out hgrow hw3); clear hown hgrow hq)
              exact ⟨⟨i + 1, _, _, _, by simp, ⟨HG3.out.tb.keep HK5.out hTl hYl hDl h0l, HL5.out, HG3.out.lay.kept HK5.out HLT.out, Nat.le_trans hw3 HK5.out.size⟩, HN.out⟩, by simp [RowKit.intOf]; omega⟩
            · have b2 : (b == -1) = false := by simp [h2]
              by_cases h3 : b = (d : Int) + 1
              · have b3 : (b == (d : Int) + 1) = true := by simp [h3]
                have HN := hide (HMI.out h1 h3)
                clear HPA HTA HMI h1 h2 h3
                go_wp2_with fail
                go_quiet (first | (go_at_call 71; exact (HEXX.out _).mono fun _ _ h => ⟨h.1, _, h.2⟩))
                go_wp2_with fail
                go_region
                have HG3 := hide (HW2.out (nq + 1))
                clear HW1 HW2 HGM t1 t2 t3 t4 t5 t6 t7 z0 z1 l1 l2 dv df yv yf e1
                go_wp2
                exact ⟨⟨i + 1, _, _, _, by simp, HG3.out, HN.out⟩, by simp [RowKit.intOf]; omega⟩
              · have b3 : (b == (d : Int) + 1) = false := by simp [h3]
                have HN := hide (HPA.out (.inr ⟨h2, h3⟩))
                clear HPA HTA HMI h1 h2 h3
                go_wp2_with fail
                go_quiet (first | (go_at_call 71; exact (HEXX.out _).mono fun _ _ h => ⟨h.1, _, h.2⟩))
                go_wp2
                exact ⟨⟨i + 1, nx2, Y2, D2, by simp, HGM.out.drew _, HN.out⟩, by simp [RowKit.intOf]; omega⟩
          · have b1 : (x != yt) = true := by simp [h1]
            have HN := hide (HPA.out (.inl h1))
            clear HPA HTA HMI h1
            go_wp2_with fail
            go_quiet (first | (go_at_call 71; exact (HEXX.out _).mono fun _ _ h => ⟨h.1, _, h.2⟩))
            go_wp2
            exact ⟨⟨i + 1, nx2, Y2, D2, by simp, HGM.out.drew _, HN.out⟩, by simp [RowKit.intOf]; omega⟩
        · obtain rfl : i = ie := by omega
          have hii : ¬ (i : Int) < (i : Int) := by omega
          have HN := hide (hgr.finish HDG.out HIE.out.symm HUA.out)
          clear hgm hgr
          go_wp2
          exact ⟨⟨a + 1, nx2, Y2, D2, by omega, by simp, HGM.out, HN.out⟩, by simp [RowKit.intOf]; omega⟩
    · obtain rfl : a = M := by omega
      have hai : ¬ (a : Int) < (a : Int) := by omega
      have HE : Hid (∀ ly, LRow wr w.heap.size ly nx → GrowPost n st tl wt k S L w0 w T (.slice (some ⟨ga, oa, none⟩) (n + 1) ca) (.slice bo tl.length cb) (.slice co wt.length cc) (.slice lo n lc) GY GD d (.returned ly) wr) := fun ly hly => by
        obtain ⟨r1, r2⟩ := hgl.finish HDG.out HFD.out.rng HALL.out
        exact ⟨ly, nx, Y1, D1, rfl, hgm.tb, hly, r1, r2, hgm.sz⟩
      have HLR := hide hgm.lr
      clear hgm hgl
      go_wp2
      go_ret
      exact HE.out _ HLR.out
end Go.Proofs.Ythoklgdlnmccmaa
