/- LoomFair: the walk of the law itself. -/
import Derived.Test.YtmmjfngcaioepaaLawWalk
namespace Go.Proofs.Ytmmjfngcaioepaa
open Go.RowKit Go.Lib

theorem RowAt.below {k : IntKind} {w w' : World} {v : Value} {xs : List Int} (h : RowAt k w v xs) (hb : Below w.heap.size w w') : RowAt k w' v xs := by
  obtain ⟨ao, c, rfl, h1, h2, h3, h4⟩ := h
  refine ⟨ao, c, rfl, h1, h2, h3, fun a ha i hi => ?_⟩
  have h5 := h4 a ha i hi
  have hl : (a.add i).block < w.heap.size := block_of_cell h5
  rw [World.cell?, hb.block _ hl]
  exact h5
theorem ref_one (ws : List Int) : ∀ u ∈ ws.map (Value.int .i64), u.oneCell' = true := by
  intro u hu; obtain ⟨x, _, rfl⟩ := List.mem_map.1 hu; rfl

theorem news_at {w : World} {a : Addr} {ws : List Int} {o : Obj} (h : ∀ b, some a = some b → ∀ i, i < ws.length → w.cell? (b.add i) = some (.int .i64 (ws.getD i 0))) :
    ∀ j u, (ws.map (Value.int .i64))[j]? = some u → (w.alloc o).cell? (a.add j) = some u := by
  intro j u hj
  have hjn : j < ws.length := by
    have := (List.getElem?_eq_some_iff.1 hj).1
    simpa using this
  refine Lib.cell?_alloc_some _ ?_
  rw [h a rfl j hjn]
  have e : (ws.map (Value.int .i64))[j]? = some (Value.int .i64 (ws.getD j 0)) := by simp [List.getD, List.getElem?_eq_getElem hjn]
  rw [e] at hj
  exact hj

theorem two_at (w : World) (x y : Value) (t : TypeId) : ∀ j u, [x, y][j]? = some u → (w.alloc (.cells #[x, y] t)).cell? ((⟨w.heap.size, 0, none⟩ : Addr).add j) = some u := by
  intro j u hj
  have hh : (w.alloc (.cells #[x, y] t)).heap[w.heap.size]? = some (.cells #[x, y] t (0, 0)) := heap_new _ _
  rw [Addr.add_lit]
  match j, hj with
  | 0, hj => simp at hj; subst hj; exact cell_of hh rfl
  | 1, hj => simp at hj; subst hj; exact cell_of hh rfl

theorem two_at1 (w : World) (o : Obj) (x y : Value) (t : TypeId) : ∀ j u, [x, y][j]? = some u → ((w.alloc o).alloc (.cells #[x, y] t)).cell? ((⟨w.heap.size + 1, 0, none⟩ : Addr).add j) = some u := by
  have h := two_at (w.alloc o) x y t
  simpa using h

/-- What the full list is behind both appends. -/
theorem given_made {w w1 w2 : World} {v1 v2 : Value} {ws : List Int} {p : Obj} (h1 : w1.ownsRow w.heap.size 3 1 v1 ws.length (ws.map (Value.int .i64))) (hb1 : Below w.heap.size w w1)
    (hown : w2.ownsRow w.heap.size 3 1 v2 (ws.length + 2) (ws.map (Value.int .i64) ++ [.int .i64 (-71), .int .i64 (-72)])) (hgrow : (w1.alloc p).grownBy w2 v1.ownBlock) :
    ∃ g c, v2 = .slice (some ⟨g, 0, none⟩) (ws.length + 2) c ∧ ws.length + 2 ≤ c ∧ c ≤ 9223372036854775807 ∧ w.heap.size ≤ g ∧ Hid (RowAt .i64 w2 (.slice (some ⟨g, 0, none⟩) (ws.length + 2) c) (ws ++ [-71, -72]) ∧ RowAt .i64 w2 (.slice (some ⟨g, 0, none⟩) ws.length c) ws ∧ Below w.heap.size w w2) := by
  have hL : Below w.heap.size w w2 := by
    refine (hb1.alloc hb1.size _).grown hgrow (by have := hb1.size; simp; omega) ?_
    intro j hj
    obtain ⟨_, ⟨rfl, _⟩ | ⟨g', cap, cur', rfl, hg', _⟩⟩ := h1
    · simp [Value.ownBlock] at hj
    · simp [Value.ownBlock] at hj; omega
  have hl2 : (ws ++ [-71, -72]).length = ws.length + 2 := by simp
  have hr : RowAt .i64 w2 v2 (ws ++ [-71, -72]) := RowAt.of_owns (base := w.heap.size) (e := 3) (by rw [hl2]; simpa using hown)
  obtain ⟨_, ⟨rfl, h0⟩ | ⟨g, cap, cur, rfl, hg, hh, hnc, hcm, hcur, htake⟩⟩ := hown
  · omega
  · refine ⟨g, cap, rfl, hnc, hcm, hg, hr, ?_, hL⟩
    obtain ⟨ao, c, he, k1, k2, k3, k4⟩ := hr
    simp only [Value.slice.injEq, hl2, true_and] at he
    obtain ⟨rfl, rfl⟩ := he
    refine ⟨_, cap, rfl, by omega, hcm, (fun e => by cases e), fun a ha i hi => ?_⟩
    have := k4 a ha i (by omega)
    rw [this]
    simp [List.getD, List.getElem?_append_left hi]

theorem own_le (w : World) : ∀ k, (Value.slice (some ⟨w.heap.size, 0, none⟩) 0 0).ownBlock = some k → w.heap.size ≤ k := by
  intro k hk
  have h : some w.heap.size = some k := hk
  cases h
  exact Nat.le_refl _

theorem full_end (ws : List Int) : (ws ++ [-71, -72])[ws.length]?.getD 0 = -71 ∧ (ws ++ [-71, -72])[ws.length + 1]?.getD 0 = -72 := by
  constructor
  · rw [List.getElem?_append_right (Nat.le_refl _)]; simp
  · rw [List.getElem?_append_right (by omega)]; simp
theorem full_at (ws : List Int) (i : Nat) (h : i < ws.length) : (ws ++ [-71, -72])[i]?.getD 0 = ws[i]?.getD 0 := by rw [List.getElem?_append_left h]


theorem full_cells {w : World} {g c : Nat} {ws : List Int} (h : RowAt .i64 w (.slice (some ⟨g, 0, none⟩) (ws.length + 2) c) (ws ++ [-71, -72])) :
    w.cell? ⟨g, ws.length, none⟩ = some (.int .i64 (-71)) ∧ w.cell? ⟨g, ws.length + 1, none⟩ = some (.int .i64 (-72)) := by
  obtain ⟨ao, c', he, _, _, _, h4⟩ := h
  simp only [Value.slice.injEq] at he
  obtain ⟨rfl, _, rfl⟩ := he
  have a := h4 _ rfl ws.length (by simp)
  have b := h4 _ rfl (ws.length + 1) (by simp)
  rw [Addr.add_lit] at a b
  have e := full_end ws
  simp only [List.getD, e.1, e.2, Nat.zero_add] at a b
  exact ⟨a, b⟩

set_option maxRecDepth 100000 in
set_option maxHeartbeats 2000000 in
theorem law_any (v : Value) (xs : List Int) (n n' k : Int) (w : World) (hv : RowAt .i64 w v xs) (hn : (n ≤ 1000 ∧ n' = n) ∨ (1000 < n ∧ n' = 1000)) (hk : k ≤ 9223372036854775807) (hbig : xs.length * 8 ≤ 140737488351232) :
    Calls Try.prog 3 #[v, .int .i64 n, .int .i64 k] w fun e w' => e = .returned (.bool true) ∧ Below w.heap.size w w' := by
  have HV := hide hv
  have HF := hide (fun (W : World) (u : Value) (h : RowAt .i64 W u xs) => fair_any u xs n' k W h (by omega) hk (by omega))
  have HG := hide (fun (W : World) (u : Value) (h : RowAt .i64 W u xs) => refFair_any u xs n' k W h (by omega) hk (by omega))
  obtain ⟨i0, hi, hz0, hz1, hz2⟩ := info_parts Try.info3
  obtain ⟨ao, c, rfl, h1, h2, h3, h4⟩ := hv
  have H4 := hide h4
  clear h4
  cases ao with
  | none =>
    have hn0 : xs.length = 0 := by have := h3 rfl; omega
    obtain rfl : xs = [] := List.eq_nil_of_length_eq_zero hn0
    obtain rfl : c = 0 := h3 rfl
    clear h3 hn0
    rcases hn with ⟨hn, rfl⟩ | ⟨hn, rfl⟩
    all_goals
      go_enter Try.func3, Try.ntmps3
      go_wp2_with (first
        | (at_builtin; refine wpList_append_own_none rfl (.tmp 12) (.tmp 13) 22 rfl w.heap.size 3 i0 1 Try.underlying22 hi _ _ _ rfl (World.ownsRow_made w #[] 0 (Nat.le_refl _) (Nat.zero_le _) rfl) rfl ?_)
        | (at_builtin; refine wpList_append_own _ rfl (.tmp 14) (.tmp 15) 22 rfl w.heap.size 3 i0 (.int .i64 0) 1 8 Try.underlying22 hi hz0 hz1 hz2 rfl (by decide) _ _ _ rfl ((World.ownsRow_made w #[] 0 (Nat.le_refl _) (Nat.zero_le _) rfl).alloc _) ⟨w.heap.size + 1, 0, none⟩ 2 2 [.int .i64 (-71), .int .i64 (-72)] rfl rfl (two_at1 w _ _ _ _) (by simp [Value.oneCell']) (by unfold maxLen; omega) (by omega) (by simp; omega) ?_; intro v2 w2 hown2 hgrow2 hq2; obtain ⟨g, c2, rfl, k1, k2, k3, HM⟩ := given_made (ws := []) (World.ownsRow_made w #[] 0 (Nat.le_refl _) (Nat.zero_le _) rfl) ((Below.refl _ w).alloc (Nat.le_refl _) _) hown2 hgrow2; clear hown2 hgrow2 hq2)
        | fail)
      refine (HF.out w2 _ HM.out.2.1).mono ?_
      rintro e w3 ⟨b, rfl, hb, hB3⟩
      have HB3 := hide hB3; have HBB := hide hb
      clear hB3 hb
      go_wp2_with fail
      refine (HG.out w3 _ ((HV.out.below HM.out.2.2).below HB3.out)).mono ?_
      rintro e w4 ⟨b', rfl, hb', hB4⟩
      have HB4 := hide hB4
      obtain rfl : b = b' := by
        have h5 := HBB.out
        have h6 := h5.trans hb'.symm
        cases b <;> cases b' <;> simp_all
      clear hB4 hb' HBB
      go_wp2_with fail
      refine (same_any _ _ [] w4 ((HM.out.2.1.below HB3.out).below HB4.out) (((HV.out.below HM.out.2.2).below HB3.out).below HB4.out)).mono ?_
      rintro e w5 ⟨rfl, hB5⟩
      have hcc := full_cells (((HM.out.1.below HB3.out).below HB4.out).below hB5)
      have d1 := hcc.1
      have d2 := hcc.2
      simp only [List.length_nil, Nat.zero_add] at d1 d2
      have HL := hide (((HM.out.2.2.trans (HB3.out.mono HM.out.2.2.size)).trans (HB4.out.mono (HM.out.2.2.trans (HB3.out.mono HM.out.2.2.size)).size)).trans (hB5.mono ((HM.out.2.2.trans (HB3.out.mono HM.out.2.2.size)).trans (HB4.out.mono (HM.out.2.2.trans (HB3.out.mono HM.out.2.2.size)).size)).size))
      clear hcc hB5
      go_wp2
      go_ret
      exact ⟨rfl, HL.out⟩
  | some a =>
    clear h3
    rcases hn with ⟨hn, rfl⟩ | ⟨hn, rfl⟩
    all_goals
      go_enter Try.func3, Try.ntmps3
      go_wp2_with (first
        | (at_builtin; refine wpList_append_own _ rfl (.tmp 12) (.tmp 13) 22 rfl w.heap.size 3 i0 (.int .i64 0) 1 8 Try.underlying22 hi hz0 hz1 hz2 rfl (by decide) _ _ _ rfl (World.ownsRow_made w #[] 0 (Nat.le_refl _) (Nat.zero_le _) rfl) a xs.length c (xs.map (Value.int .i64)) rfl (by simp) (news_at H4.out) (ref_one xs) (by unfold maxLen; omega) (by omega) (by simp) ?_; intro v1 w1 hown1 hgrow1 hq1; simp only [Nat.zero_add, List.nil_append] at hown1; have hs1 := hgrow1.size; simp at hs1)
        | (at_builtin; refine wpList_append_own _ rfl (.tmp 14) (.tmp 15) 22 rfl w.heap.size 3 i0 (.int .i64 0) 1 8 Try.underlying22 hi hz0 hz1 hz2 rfl (by decide) _ _ _ rfl (hown1.alloc _) ⟨w1.heap.size, 0, none⟩ 2 2 [.int .i64 (-71), .int .i64 (-72)] rfl rfl (two_at w1 _ _ _) (by simp [Value.oneCell']) (by unfold maxLen; omega) (by omega) (by simp; omega) ?_; intro v2 w2 hown2 hgrow2 hq2; obtain ⟨g, c2, rfl, k1, k2, k3, HM⟩ := given_made hown1 (((Below.refl _ w).alloc (Nat.le_refl _) _).grown hgrow1 (by simp) (own_le w)) hown2 hgrow2; clear hown1 hgrow1 hown2 hgrow2 hq1 hq2)
        | fail)
      refine (HF.out w2 _ HM.out.2.1).mono ?_
      rintro e w3 ⟨b, rfl, hb, hB3⟩
      have HB3 := hide hB3; have HBB := hide hb
      clear hB3 hb
      go_wp2_with fail
      refine (HG.out w3 _ ((HV.out.below HM.out.2.2).below HB3.out)).mono ?_
      rintro e w4 ⟨b', rfl, hb', hB4⟩
      have HB4 := hide hB4
      obtain rfl : b = b' := by
        have h5 := HBB.out
        have h6 := h5.trans hb'.symm
        cases b <;> cases b' <;> simp_all
      clear hB4 hb' HBB
      go_wp2_with fail
      refine (same_any _ _ xs w4 ((HM.out.2.1.below HB3.out).below HB4.out) (((HV.out.below HM.out.2.2).below HB3.out).below HB4.out)).mono ?_
      rintro e w5 ⟨rfl, hB5⟩
      have hcc := full_cells (((HM.out.1.below HB3.out).below HB4.out).below hB5)
      have d1 := hcc.1
      have d2 := hcc.2
      have HL := hide (((HM.out.2.2.trans (HB3.out.mono HM.out.2.2.size)).trans (HB4.out.mono (HM.out.2.2.trans (HB3.out.mono HM.out.2.2.size)).size)).trans (hB5.mono ((HM.out.2.2.trans (HB3.out.mono HM.out.2.2.size)).trans (HB4.out.mono (HM.out.2.2.trans (HB3.out.mono HM.out.2.2.size)).size)).size))
      clear hcc hB5
      go_wp2
      go_ret
      exact ⟨rfl, HL.out⟩
end Go.Proofs.Ytmmjfngcaioepaa
