/- given and kept. -/
import Derived.Test.YtglgflibpgmilaaRefFrom
namespace Go.Proofs.Ytglgflibpgmilaa
open Go.RowKit Go.Lib

theorem news_at {w : World} {a : Addr} {ws : List Int} {o : Obj} (h : ∀ b, some a = some b → ∀ i, i < ws.length → w.cell? (b.add i) = some (.int .u64 (ws.getD i 0))) :
    ∀ j u, (ws.map (Value.int .u64))[j]? = some u → (w.alloc o).cell? (a.add j) = some u := by
  intro j u hj
  have hjn : j < ws.length := by
    have := (List.getElem?_eq_some_iff.1 hj).1
    simpa using this
  refine Lib.cell?_alloc_some _ ?_
  rw [h a rfl j hjn]
  have e : (ws.map (Value.int .u64))[j]? = some (Value.int .u64 (ws.getD j 0)) := by simp [List.getD, List.getElem?_eq_getElem hjn]
  rw [e] at hj
  exact hj

theorem two_at (w : World) (x y : Value) (t : TypeId) : ∀ j u, [x, y][j]? = some u → (w.alloc (.cells #[x, y] t)).cell? ((⟨w.heap.size, 0, none⟩ : Addr).add j) = some u := by
  intro j u hj
  have hh : (w.alloc (.cells #[x, y] t)).heap[w.heap.size]? = some (.cells #[x, y] t (0, 0)) := heap_new _ _
  rw [Addr.add_lit]
  match j, hj with
  | 0, hj => simp at hj; subst hj; exact cell_of hh rfl
  | 1, hj => simp at hj; subst hj; exact cell_of hh rfl

theorem two_at1 (w : World) (o : Obj) (x y : Value) (t : TypeId) : ∀ j u, [x, y][j]? = some u → ((w.alloc o).alloc (.cells #[x, y] t)).cell? ((⟨w.heap.size + 1, 0, none⟩ : Addr).add j) = some u := by
  have h := two_at (w.alloc o) x y t
  simpa using h

/-- What the full list is behind both appends. -/
theorem given_made {w w1 w2 : World} {v1 v2 : Value} {ws : List Int} {p : Obj} (h1 : w1.ownsRow w.heap.size 22 1 v1 ws.length (ws.map (Value.int .u64))) (hb1 : Below w.heap.size w w1)
    (hown : w2.ownsRow w.heap.size 22 1 v2 (ws.length + 2) (ws.map (Value.int .u64) ++ [.int .u64 71, .int .u64 72])) (hgrow : (w1.alloc p).grownBy w2 v1.ownBlock) :
    ∃ g c, v2 = .slice (some ⟨g, 0, none⟩) (ws.length + 2) c ∧ ws.length + 2 ≤ c ∧ c ≤ 9223372036854775807 ∧ w.heap.size ≤ g ∧ Hid (RowAt .u64 w2 (.slice (some ⟨g, 0, none⟩) (ws.length + 2) c) (ws ++ [71, 72]) ∧ RowAt .u64 w2 (.slice (some ⟨g, 0, none⟩) ws.length c) ws ∧ Below w.heap.size w w2) := by
  have hL : Below w.heap.size w w2 := by
    refine (hb1.alloc hb1.size _).grown hgrow (by have := hb1.size; simp; omega) ?_
    intro j hj
    obtain ⟨_, ⟨rfl, _⟩ | ⟨g', cap, cur', rfl, hg', _⟩⟩ := h1
    · simp [Value.ownBlock] at hj
    · simp [Value.ownBlock] at hj; omega
  have hl2 : (ws ++ [71, 72]).length = ws.length + 2 := by simp
  have hr : RowAt .u64 w2 v2 (ws ++ [71, 72]) := RowAt.of_owns (base := w.heap.size) (e := 22) (by rw [hl2]; simpa using hown)
  obtain ⟨_, ⟨rfl, h0⟩ | ⟨g, cap, cur, rfl, hg, hh, hnc, hcm, hcur, htake⟩⟩ := hown
  · omega
  · refine ⟨g, cap, rfl, hnc, hcm, hg, hr, ?_, hL⟩
    obtain ⟨ao, c, he, k1, k2, k3, k4⟩ := hr
    simp only [Value.slice.injEq, hl2, true_and] at he
    obtain ⟨rfl, rfl⟩ := he
    refine ⟨_, cap, rfl, by omega, hcm, (fun e => by cases e), fun a ha i hi => ?_⟩
    have := k4 a ha i (by omega)
    rw [this]
    simp [List.getD, List.getElem?_append_left hi]

theorem own_le (w : World) : ∀ k, (Value.slice (some ⟨w.heap.size, 0, none⟩) 0 0).ownBlock = some k → w.heap.size ≤ k := by
  intro k hk
  have h : some w.heap.size = some k := hk
  cases h
  exact Nat.le_refl _

set_option maxRecDepth 100000 in
set_option maxHeartbeats 2000000 in
theorem given2_any (v : Value) (ws : List Int) (w : World) (hv : RowAt .u64 w v ws) (hbig : ws.length * 8 ≤ 140737488351232) :
    Calls Try.prog 11 #[v] w fun e w' => ∃ g c, e = .returned (.tuple #[.slice (some ⟨g, 0, none⟩) (ws.length + 2) c, .slice (some ⟨g, 0, none⟩) ws.length c]) ∧ w.heap.size ≤ g ∧
      RowAt .u64 w' (.slice (some ⟨g, 0, none⟩) (ws.length + 2) c) (ws ++ [71, 72]) ∧ RowAt .u64 w' (.slice (some ⟨g, 0, none⟩) ws.length c) ws ∧ Below w.heap.size w w' := by
  obtain ⟨i0, hi, hz0, hz1, hz2⟩ := info_parts Try.info22
  obtain ⟨ao, c, rfl, h1, h2, h3, h4⟩ := hv
  have H4 := hide h4
  clear h4
  cases ao with
  | none =>
    have hn0 : ws.length = 0 := by have := h3 rfl; omega
    obtain rfl : ws = [] := List.eq_nil_of_length_eq_zero hn0
    have hc0 : c = 0 := h3 rfl
    subst hc0
    clear h3 hn0
    go_enter Try.func11, Try.ntmps11
    go_wp2_with (first
      | (at_builtin; refine wpList_append_own_none rfl (.tmp 5) (.tmp 6) 23 rfl w.heap.size 22 i0 1 Try.underlying23 hi _ _ _ rfl (World.ownsRow_made w #[] 0 (Nat.le_refl _) (Nat.zero_le _) rfl) rfl ?_)
      | (at_builtin; refine wpList_append_own _ rfl (.tmp 8) (.tmp 9) 23 rfl w.heap.size 22 i0 (.int .u64 0) 1 8 Try.underlying23 hi hz0 hz1 hz2 rfl (by decide) _ _ _ rfl ((World.ownsRow_made w #[] 0 (Nat.le_refl _) (Nat.zero_le _) rfl).alloc _) ⟨w.heap.size + 1, 0, none⟩ 2 2 [.int .u64 71, .int .u64 72] rfl rfl (two_at1 w _ _ _ _) (by simp [Value.oneCell']) (by unfold maxLen; omega) (by omega) (by simp; omega) ?_; intro v2 w2 hown2 hgrow2 _; obtain ⟨g, c2, rfl, k1, k2, k3, HG⟩ := given_made (ws := []) (World.ownsRow_made w #[] 0 (Nat.le_refl _) (Nat.zero_le _) rfl) ((Below.refl _ w).alloc (Nat.le_refl _) _) hown2 hgrow2; clear hown2 hgrow2))
    have bl : ((0 : Nat) : Int) ≤ (c2 : Int) := by omega
    go_region
    all_goals go_wp2
    all_goals go_ret2
    all_goals exact ⟨g, c2, rfl, k3, HG.out.1, HG.out.2.1, HG.out.2.2.drew⟩
  | some a =>
    clear h3
    go_enter Try.func11, Try.ntmps11
    go_wp2_with (first
      | (at_builtin; refine wpList_append_own _ rfl (.tmp 5) (.tmp 6) 23 rfl w.heap.size 22 i0 (.int .u64 0) 1 8 Try.underlying23 hi hz0 hz1 hz2 rfl (by decide) _ _ _ rfl (World.ownsRow_made w #[] 0 (Nat.le_refl _) (Nat.zero_le _) rfl) a ws.length c (ws.map (Value.int .u64)) rfl (by simp) (news_at H4.out) (ref_one ws) (by unfold maxLen; omega) (by omega) (by simp) ?_; intro v1 w1 hown1 hgrow1 _; simp only [Nat.zero_add, List.nil_append] at hown1; have hs1 := hgrow1.size; simp at hs1)
      | (at_builtin; refine wpList_append_own _ rfl (.tmp 8) (.tmp 9) 23 rfl w.heap.size 22 i0 (.int .u64 0) 1 8 Try.underlying23 hi hz0 hz1 hz2 rfl (by decide) _ _ _ rfl (hown1.alloc _) ⟨w1.heap.size, 0, none⟩ 2 2 [.int .u64 71, .int .u64 72] rfl rfl (two_at w1 _ _ _) (by simp [Value.oneCell']) (by unfold maxLen; omega) (by omega) (by simp; omega) ?_; intro v2 w2 hown2 hgrow2 _; obtain ⟨g, c2, rfl, k1, k2, k3, HG⟩ := given_made hown1 (((Below.refl _ w).alloc (Nat.le_refl _) _).grown hgrow1 (by simp) (own_le w)) hown2 hgrow2; clear hown1 hgrow1 hown2 hgrow2))
    have bl : (ws.length : Int) ≤ (c2 : Int) := by omega
    go_region
    all_goals go_wp2
    all_goals go_ret2
    all_goals exact ⟨g, c2, rfl, k3, HG.out.1, HG.out.2.1, HG.out.2.2.drew⟩
theorem full_end (ws : List Int) : (ws ++ [71, 72])[ws.length]?.getD 0 = 71 ∧ (ws ++ [71, 72])[ws.length + 1]?.getD 0 = 72 := by
  constructor
  · rw [List.getElem?_append_right (Nat.le_refl _)]; simp
  · rw [List.getElem?_append_right (by omega)]; simp
theorem full_at (ws : List Int) (i : Nat) (h : i < ws.length) : (ws ++ [71, 72])[i]?.getD 0 = ws[i]?.getD 0 := by rw [List.getElem?_append_left h]

set_option maxRecDepth 100000 in
set_option maxHeartbeats 2000000 in
theorem kept_any (v1 v2 : Value) (ws : List Int) (w : World) (h1 : RowAt .u64 w v1 (ws ++ [71, 72])) (h2 : RowAt .u64 w v2 ws) (hl : ws.length ≤ 17592186044416) :
    Calls Try.prog 17 #[v1, v2] w fun e w' => e = .returned (.bool true) ∧ Below w.heap.size w w' := by
  obtain ⟨g, o, c, rfl, hc, hm, hcell⟩ := h1.spot (by simp)
  have hlen : (ws ++ [71, 72]).length = ws.length + 2 := by simp
  rw [hlen] at hc hcell ⊢
  have d0 := hcell ws.length (by omega)
  have d1 := hcell (ws.length + 1) (by omega)
  rw [(full_end ws).1] at d0
  rw [(full_end ws).2] at d1
  have H1 := hide (fun i (hi : i < ws.length) => (hcell i (by omega)).trans (by rw [full_at ws i hi]))
  obtain ⟨ao, c2, rfl⟩ : ∃ ao c2, v2 = .slice ao ws.length c2 := by obtain ⟨ao, c, h, _⟩ := h2; exact ⟨ao, c, h⟩
  have H2 := hide h2
  clear h1 h2 hcell hlen
  go_enter Try.func17, Try.ntmps17
  go_wp2
  go_loopw [6] (fun t wr => ∃ k : Nat, k ≤ ws.length ∧ t = .int .i64 k ∧ ∃ m, wr = w.drewN m) (fun t _ => ws.length - (RowKit.intOf t).toNat)
  case atStart => exact ⟨0, by omega, rfl, 0, rfl⟩
  case round =>
    obtain ⟨k, hk, rfl, m, rfl⟩ := hrel
    by_cases hlt : k < ws.length
    · have hne : ws ≠ [] := by intro e; rw [e] at hlt; simp at hlt
      obtain ⟨g2, o2, c', hsl, _, _, hcell2⟩ := H2.out.spot hne
      simp only [Value.slice.injEq, true_and] at hsl
      obtain ⟨rfl, rfl⟩ := hsl
      have e1 := H1.out k hlt
      have e2 := hcell2 k hlt
      clear hcell2 hne
      go_wp2
      go_region
      all_goals
        go_wp2
        go_roundw
        case rel => exact ⟨k + 1, by omega, by go_num, m + 1, rfl⟩
        case measure => simp [RowKit.intOf]; omega
    · go_wp2
      go_ret
      exact ⟨rfl, below_drewN (Below.refl _ _) _⟩
end Go.Proofs.Ytglgflibpgmilaa
