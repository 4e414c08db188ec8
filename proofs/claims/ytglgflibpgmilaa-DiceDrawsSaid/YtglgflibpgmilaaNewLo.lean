/- New, For and given, which tell besides where the words lie. -/
import Derived.Test.YtglgflibpgmilaaDrB
namespace Go.Proofs.Ytglgflibpgmilaa
open Go.RowKit Go.Lib
set_option linter.unusedVariables false
def LoV (B : Nat) (v : Value) : Prop := ∀ g o n c, v = .slice (some ⟨g, o, none⟩) n c → B ≤ g
theorem LoV.mono {B C : Nat} {v : Value} (h : LoV C v) (hb : B ≤ C) : LoV B v := fun g o n c e => Nat.le_trans hb (h g o n c e)
theorem lo_of_owns {w : World} {B : Nat} {v : Value} {n : Nat} {l : List Value} (h : w.ownsRow B 22 1 v n l) : LoV B v := by
  intro g o n' c e
  obtain ⟨_, ⟨he, hn⟩ | ⟨g', cap, cur, he, hg, _⟩⟩ := h
  · rw [he] at e; cases e
  · rw [he] at e; cases e; exact hg
set_option maxRecDepth 100000 in
theorem of_lo (s : St) (v : Value) (xs : List Int) (w : World) (h : RowAt .u64 w v xs) (hbig : xs.length * 8 ≤ 140737488355328) :
    Calls Try.prog 38 #[.agg #[.int .u64 s.a, .int .u64 s.b, .int .u64 s.c, .int .u64 s.d], v] w fun e w' => ∃ b v', e = .returned (.pointer (some ⟨b, 0, none⟩)) ∧ w.heap.size ≤ b ∧
      w'.heap[b]? = some (DObj (fnv 41) v' s 0) ∧ WordsAt w' b v' xs ∧ Below w.heap.size w w' ∧ LoV w.heap.size v' := by
  have H : Hid (RowAt .u64 w v xs) := h
  clear h
  go_enter Try.func38, Try.ntmps38
  go_wp2
  go_region_with (go_at_call 47; refine (clone_any v xs _ ?_ hbig).mono ?_; exact H.out.alloc _; rintro e w1 ⟨v', rfl, hown, hbel⟩; obtain ⟨ao, cc, rfl⟩ := owns_shape hown; obtain ⟨d0, d1, d2, d3⟩ := st_cells hbel (b := w.heap.size) (by simp) (heap_new w _); have HO := hide hown; have HLO := hide ((lo_of_owns hown).mono (B := w.heap.size) (by simp)); have HB := hide hbel; clear hown hbel)
  all_goals (go_wp2; go_ret; (have hoe := of_end w w1 _ s ao cc xs HO HB); exact ⟨_, _, rfl, hoe.1, hoe.2.1, hoe.2.2.1, hoe.2.2.2, HLO.out⟩)
set_option maxRecDepth 100000 in
set_option maxHeartbeats 1000000 in
theorem new_lo (seed : Nat) (v : Value) (xs : List Int) (w : World) (h : RowAt .u64 w v xs) (hbig : xs.length * 8 ≤ 140737488355328) (hs : seed < 18446744073709551616) :
    Calls Try.prog 12 #[.int .u64 seed, v] w fun e w' => ∃ b v', e = .returned (.pointer (some ⟨b, 0, none⟩)) ∧ w.heap.size ≤ b ∧
      w'.heap[b]? = some (DObj (fnv 41) v' (newSt seed) 0) ∧ WordsAt w' b v' xs ∧ Below w.heap.size w w' ∧ LoV w.heap.size v' := by
  have H : Hid (RowAt .u64 w v xs) := h
  clear h
  go_enter Try.func12, Try.ntmps12
  go_wp2
  go_loopw [0, 7] (fun t i wr => ∃ k : Nat, k ≤ 4 ∧ i = .int .i64 k ∧ t = .int .u64 (sd seed k : Nat) ∧ wr = w.alloc (.cells (newArr seed k) 41)) (fun _ i _ => 4 - (RowKit.intOf i).toNat)
  case atStart => exact ⟨0, by omega, rfl, by rw [sd_zero seed hs], rfl⟩
  case round =>
    obtain ⟨k, hk, rfl, rfl, rfl⟩ := hrel
    by_cases hlt : k < 4
    · rcases (show k = 0 ∨ k = 1 ∨ k = 2 ∨ k = 3 by omega) with rfl | rfl | rfl | rfl
      · simp only [newArr]
        go_wp2_with fail
        rw [sd_next seed 0 1 rfl]
        refine (mix_nat _ _ (sd_lt _ _)).mono ?_
        rintro e w' ⟨rfl, rfl⟩
        go_wp2_with fail
        go_roundw
        case rel => exact ⟨1, by decide, rfl, rfl, rfl⟩
        case measure => simp [RowKit.intOf]
      · simp only [newArr]
        go_wp2_with fail
        rw [sd_next seed 1 2 rfl]
        refine (mix_nat _ _ (sd_lt _ _)).mono ?_
        rintro e w' ⟨rfl, rfl⟩
        go_wp2_with fail
        go_roundw
        case rel => exact ⟨2, by decide, rfl, rfl, rfl⟩
        case measure => simp [RowKit.intOf]
      · simp only [newArr]
        go_wp2_with fail
        rw [sd_next seed 2 3 rfl]
        refine (mix_nat _ _ (sd_lt _ _)).mono ?_
        rintro e w' ⟨rfl, rfl⟩
        go_wp2_with fail
        go_roundw
        case rel => exact ⟨3, by decide, rfl, rfl, rfl⟩
        case measure => simp [RowKit.intOf]
      · simp only [newArr]
        go_wp2_with fail
        rw [sd_next seed 3 4 rfl]
        refine (mix_nat _ _ (sd_lt _ _)).mono ?_
        rintro e w' ⟨rfl, rfl⟩
        go_wp2_with fail
        go_roundw
        case rel => exact ⟨4, by decide, rfl, rfl, rfl⟩
        case measure => simp [RowKit.intOf]
    · obtain rfl : k = 4 := by omega
      simp only [newArr]
      go_wp2_with fail
      have hO := of_lo (newSt seed) v xs (w.alloc (.cells (newArr seed 4) 41)) (H.out.alloc _) hbig
      refine hO.mono ?_
      rintro e w' ⟨b, v', rfl, hb, hh, hw, hbel, hlo⟩
      have P : Hid (w.heap.size ≤ b ∧ w'.heap[b]? = some (DObj (fnv 41) v' (newSt seed) 0) ∧ WordsAt w' b v' xs ∧ Below w.heap.size w w' ∧ LoV w.heap.size v') :=
        ⟨by simp at hb; omega, hh, hw, ((Below.refl _ w).alloc (Nat.le_refl _) _).trans (hbel.mono (by simp)), hlo.mono (by simp)⟩
      clear hb hh hw hbel hlo
      go_wp2_with fail
      go_ret
      exact ⟨b, v', rfl, P.out⟩
set_option maxRecDepth 100000 in
theorem for_lo (seed k : Nat) (v : Value) (ws : List Int) (w : World) (hv : RowAt .u64 w v ws) (hbig : ws.length * 8 ≤ 140737488355328) (hs : seed < 18446744073709551616) (hk : k < 9223372036854775808) :
    Calls Try.prog 13 #[.int .u64 seed, .int .i64 k, v] w fun e w' => ∃ b v', e = .returned (.tuple #[.pointer (some ⟨b, 0, none⟩), .int .i64 0]) ∧ w.heap.size ≤ b ∧
      w'.heap[b]? = some (DObj (fnv 41) v' (newSt (wseed seed k)) 0) ∧ WordsAt w' b v' ws ∧ Below w.heap.size w w' ∧ LoV w.heap.size v' := by
  have H : Hid (RowAt .u64 w v ws) := hv
  have hx : bits .xor .u64 (seed : Int) ((Scat.mix (k + 1) : Nat) : Int) = ((seed ^^^ Scat.mix (k + 1) : Nat) : Int) := u64_xor_nat _ _ hs (Scat.mix_lt _)
  have hlt := xor_lt hs (Scat.mix_lt (k + 1))
  have HX := hide hx
  have HM := hide (mix_nat (k + 1) w (by omega))
  have HM2 := hide (mix_nat (seed ^^^ Scat.mix (k + 1)) w hlt)
  clear hv hx hlt
  have hk0 : decide ((k : Int) < 0) = false := by simp
  go_enter Try.func13, Try.ntmps13
  go_wp2_with fail
  refine HM.out.mono ?_
  rintro e w1 ⟨rfl, rfl⟩
  go_wp2_with fail
  rw [HX.out]
  refine HM2.out.mono ?_
  rintro e w1 ⟨rfl, rfl⟩
  go_wp2_with fail
  refine (new_lo (wseed seed k) _ _ _ H.out hbig (wseed_lt _ _)).mono ?_
  rintro e w1 ⟨b, v', rfl, hP⟩
  have HP := hide hP
  clear hP
  go_wp2_with fail
  go_ret2
  exact ⟨b, v', rfl, HP.out⟩
theorem given_made2 {w w1 w2 : World} {v1 v2 : Value} {ws : List Int} {p : Obj} (h1 : w1.ownsRow w.heap.size 22 1 v1 ws.length (ws.map (Value.int .u64))) (hb1 : Below w.heap.size w w1)
    (hown : w2.ownsRow w.heap.size 22 1 v2 (ws.length + 2) (ws.map (Value.int .u64) ++ [.int .u64 71, .int .u64 72])) (hgrow : (w1.alloc p).grownBy w2 v1.ownBlock) :
    ∃ g c, v2 = .slice (some ⟨g, 0, none⟩) (ws.length + 2) c ∧ ws.length + 2 ≤ c ∧ c ≤ 9223372036854775807 ∧ w.heap.size ≤ g ∧ Hid (RowAt .u64 w2 (.slice (some ⟨g, 0, none⟩) (ws.length + 2) c) (ws ++ [71, 72]) ∧ RowAt .u64 w2 (.slice (some ⟨g, 0, none⟩) ws.length c) ws ∧ Below w.heap.size w w2 ∧ ∃ cs, w2.heap[g]? = some (.cells cs 22 (0, 0)) ∧ ws.length ≤ cs.size) := by
  have hL : Below w.heap.size w w2 := by
    refine (hb1.alloc hb1.size _).grown hgrow (by have := hb1.size; simp; omega) ?_
    intro j hj
    obtain ⟨_, ⟨rfl, _⟩ | ⟨g', cap, cur', rfl, hg', _⟩⟩ := h1
    · simp [Value.ownBlock] at hj
    · simp [Value.ownBlock] at hj; omega
  have hl2 : (ws ++ [71, 72]).length = ws.length + 2 := by simp
  have hr : RowAt .u64 w2 v2 (ws ++ [71, 72]) := RowAt.of_owns (base := w.heap.size) (e := 22) (by rw [hl2]; simpa using hown)
  obtain ⟨_, ⟨rfl, h0⟩ | ⟨g, cap, cur, rfl, hg, hh, hnc, hcm, hcur, htake⟩⟩ := hown
  · omega
  · refine ⟨g, cap, rfl, hnc, hcm, hg, hr, ?_, hL, cur, hh, by omega⟩
    obtain ⟨ao, c, he, k1, k2, k3, k4⟩ := hr
    simp only [Value.slice.injEq, hl2, true_and] at he
    obtain ⟨rfl, rfl⟩ := he
    refine ⟨_, cap, rfl, by omega, hcm, (fun e => by cases e), fun a ha i hi => ?_⟩
    have := k4 a ha i (by omega)
    rw [this]
    simp [List.getD, List.getElem?_append_left hi]
set_option maxRecDepth 100000 in
set_option maxHeartbeats 2000000 in
theorem given3_any (v : Value) (ws : List Int) (w : World) (hv : RowAt .u64 w v ws) (hbig : ws.length * 8 ≤ 140737488351232) :
    Calls Try.prog 11 #[v] w fun e w' => ∃ g c, e = .returned (.tuple #[.slice (some ⟨g, 0, none⟩) (ws.length + 2) c, .slice (some ⟨g, 0, none⟩) ws.length c]) ∧ w.heap.size ≤ g ∧
      RowAt .u64 w' (.slice (some ⟨g, 0, none⟩) (ws.length + 2) c) (ws ++ [71, 72]) ∧ RowAt .u64 w' (.slice (some ⟨g, 0, none⟩) ws.length c) ws ∧ Below w.heap.size w w' ∧ ∃ cs, w'.heap[g]? = some (.cells cs 22 (0, 0)) ∧ ws.length ≤ cs.size := by
  obtain ⟨i0, hi, hz0, hz1, hz2⟩ := info_parts Try.info22
  obtain ⟨ao, c, rfl, h1, h2, h3, h4⟩ := hv
  have H4 := hide h4
  clear h4
  cases ao with
  | none =>
    have hn0 : ws.length = 0 := by have := h3 rfl; omega
    obtain rfl : ws = [] := List.eq_nil_of_length_eq_zero hn0
    have hc0 : c = 0 := h3 rfl
    subst hc0
    clear h3 hn0
    go_enter Try.func11, Try.ntmps11
    go_wp2_with (first
      | (at_builtin; refine wpList_append_own_none rfl (.tmp 5) (.tmp 6) 23 rfl w.heap.size 22 i0 1 Try.underlying23 hi _ _ _ rfl (World.ownsRow_made w #[] 0 (Nat.le_refl _) (Nat.zero_le _) rfl) rfl ?_)
      | (at_builtin; refine wpList_append_own _ rfl (.tmp 8) (.tmp 9) 23 rfl w.heap.size 22 i0 (.int .u64 0) 1 8 Try.underlying23 hi hz0 hz1 hz2 rfl (by decide) _ _ _ rfl ((World.ownsRow_made w #[] 0 (Nat.le_refl _) (Nat.zero_le _) rfl).alloc _) ⟨w.heap.size + 1, 0, none⟩ 2 2 [.int .u64 71, .int .u64 72] rfl rfl (two_at1 w _ _ _ _) (by simp [Value.oneCell']) (by unfold maxLen; omega) (by omega) (by simp; omega) ?_; intro v2 w2 hown2 hgrow2 _; obtain ⟨g, c2, rfl, k1, k2, k3, HG⟩ := given_made2 (ws := []) (World.ownsRow_made w #[] 0 (Nat.le_refl _) (Nat.zero_le _) rfl) ((Below.refl _ w).alloc (Nat.le_refl _) _) hown2 hgrow2; clear hown2 hgrow2))
    have bl : ((0 : Nat) : Int) ≤ (c2 : Int) := by omega
    go_region
    all_goals go_wp2
    all_goals go_ret2
    all_goals exact ⟨g, c2, rfl, k3, HG.out.1, HG.out.2.1, HG.out.2.2.1.drew, HG.out.2.2.2⟩
  | some a =>
    clear h3
    go_enter Try.func11, Try.ntmps11
    go_wp2_with (first
      | (at_builtin; refine wpList_append_own _ rfl (.tmp 5) (.tmp 6) 23 rfl w.heap.size 22 i0 (.int .u64 0) 1 8 Try.underlying23 hi hz0 hz1 hz2 rfl (by decide) _ _ _ rfl (World.ownsRow_made w #[] 0 (Nat.le_refl _) (Nat.zero_le _) rfl) a ws.length c (ws.map (Value.int .u64)) rfl (by simp) (news_at H4.out) (ref_one ws) (by unfold maxLen; omega) (by omega) (by simp) ?_; intro v1 w1 hown1 hgrow1 _; simp only [Nat.zero_add, List.nil_append] at hown1; have hs1 := hgrow1.size; simp at hs1)
      | (at_builtin; refine wpList_append_own _ rfl (.tmp 8) (.tmp 9) 23 rfl w.heap.size 22 i0 (.int .u64 0) 1 8 Try.underlying23 hi hz0 hz1 hz2 rfl (by decide) _ _ _ rfl (hown1.alloc _) ⟨w1.heap.size, 0, none⟩ 2 2 [.int .u64 71, .int .u64 72] rfl rfl (two_at w1 _ _ _) (by simp [Value.oneCell']) (by unfold maxLen; omega) (by omega) (by simp; omega) ?_; intro v2 w2 hown2 hgrow2 _; obtain ⟨g, c2, rfl, k1, k2, k3, HG⟩ := given_made2 hown1 (((Below.refl _ w).alloc (Nat.le_refl _) _).grown hgrow1 (by simp) (own_le w)) hown2 hgrow2; clear hown1 hgrow1 hown2 hgrow2))
    have bl : (ws.length : Int) ≤ (c2 : Int) := by omega
    go_region
    all_goals go_wp2
    all_goals go_ret2
    all_goals exact ⟨g, c2, rfl, k3, HG.out.1, HG.out.2.1, HG.out.2.2.1.drew, HG.out.2.2.2⟩
end Go.Proofs.Ytglgflibpgmilaa
