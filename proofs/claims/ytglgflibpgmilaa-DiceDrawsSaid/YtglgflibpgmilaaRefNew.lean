/- The reference's New. -/
import Derived.Test.YtglgflibpgmilaaRefOrder
namespace Go.Proofs.Ytglgflibpgmilaa
open Go.RowKit Go.Lib

theorem refMix_nat (n : Nat) (w : World) (h1 : n < 18446744073709551616) :
    Calls Try.prog 24 #[.int .u64 n] w fun e w' => e = .returned (.int .u64 (Scat.mix n : Nat)) ∧ w' = w := refMix_any n w h1

def partSt (seed : Nat) : Nat → St
  | 0 => ⟨0, 0, 0, 0⟩
  | 1 => ⟨Scat.mix (sd seed 1), 0, 0, 0⟩
  | 2 => ⟨Scat.mix (sd seed 1), Scat.mix (sd seed 2), 0, 0⟩
  | 3 => ⟨Scat.mix (sd seed 1), Scat.mix (sd seed 2), Scat.mix (sd seed 3), 0⟩
  | _ => newSt seed

theorem RefIs.spots {w : World} {base b : Nat} {all : List Int} {s : St} {u : Nat} (h : RefIs w base b all s u) :
    (∃ v, w.cell? ⟨b, 2, none⟩ = some v) ∧ (∃ v, w.cell? ⟨b, 3, none⟩ = some v) ∧ (∃ v, w.cell? ⟨b, 4, none⟩ = some v) ∧ (∃ v, w.cell? ⟨b, 5, none⟩ = some v) ∧ (∀ i, w.frozen? ⟨b, i, none⟩ = false) ∧
      w.cell? ⟨b, 1, none⟩ = some (.int .i64 (u : Int)) := by
  obtain ⟨hb, v, hh, _⟩ := h
  exact ⟨⟨_, cell_of hh rfl⟩, ⟨_, cell_of hh rfl⟩, ⟨_, cell_of hh rfl⟩, ⟨_, cell_of hh rfl⟩, fun i => free_of hh i, cell_of hh rfl⟩

theorem RefIs.put {w : World} {base b : Nat} {all : List Int} {s s' : St} {u : Nat} (h : RefIs w base b all s u) (i : Nat) (x : Value)
    (hx : ∀ v : Value, (#[v, .int .i64 (u : Int), .int .u64 s.a, .int .u64 s.b, .int .u64 s.c, .int .u64 s.d] : Array Value).setIfInBounds i x = #[v, .int .i64 (u : Int), .int .u64 s'.a, .int .u64 s'.b, .int .u64 s'.c, .int .u64 s'.d]) :
    RefIs (w.setCell ⟨b, i, none⟩ x) base b all s' u := by
  have h0 := h
  obtain ⟨hb, v, hh, _⟩ := h0
  refine h.own (But.setCell w ⟨b, i, none⟩ x) ⟨v, hh, rfl⟩ ?_
  unfold RObj at hh
  rw [heap_set hh, hx v]
  rfl

abbrev ROb0 : Obj := RObj (.slice none 0 0) 0 ⟨0, 0, 0, 0⟩
theorem ref_made0 {w w2 : World} {ao : Option Addr} {c : Nat} {ws : List Int} (hB : Below (w.heap.size + 1) (w.alloc ROb0) w2)
    (hO : w2.ownsRow (w.heap.size + 1) 22 1 (.slice ao ws.length c) ws.length (ws.map (Value.int .u64))) :
    RefIs (w2.setCell ⟨w.heap.size, 0, none⟩ (.slice ao ws.length c)) w.heap.size w.heap.size ws ⟨0, 0, 0, 0⟩ 0 ∧ Below w.heap.size w (w2.setCell ⟨w.heap.size, 0, none⟩ (.slice ao ws.length c)) := by
  have hb2 : w2.heap[w.heap.size]? = some ROb0 := (hB.block _ (by omega)).trans (heap_new w _)
  have hL : Below w.heap.size w w2 := ((Below.refl _ w).alloc (Nat.le_refl _) _).trans (hB.mono (by omega))
  refine ⟨⟨by omega, .slice ao ws.length c, heap_set hb2 _, ?_⟩, hL.setCell (by simp) _⟩
  obtain ⟨_, ⟨he, hn⟩ | ⟨g, cap, cur, he, hg, hh, hnc, hcm, hcur, htake⟩⟩ := hO
  · exact .inl ⟨he, List.eq_nil_of_length_eq_zero hn⟩
  · simp only [Value.slice.injEq, true_and] at he
    obtain ⟨rfl, rfl⟩ := he
    have hgl := lt_of_heap hh
    have hh' : (w2.setCell ⟨w.heap.size, 0, none⟩ (.slice (some ⟨g, 0, none⟩) ws.length c)).heap[g]? = some (.cells cur 22 (0, 0)) := by
      rw [Below.heap_setCell _ _ _ _ (by show g ≠ w.heap.size; omega)]; exact hh
    refine .inr ⟨g, c, rfl, by omega, by omega, ⟨by simpa [World.setCell] using hgl, cur, (0, 0), hh'⟩, hnc, hcm, fun i hi => ?_⟩
    refine cell_of hh' ?_
    have e1 : (cur.toList.take (ws.length * 1))[i]? = (ws.map (Value.int .u64))[i]? := by rw [htake]
    rw [List.getElem?_take_of_lt (by omega)] at e1
    have e2 : cur[i]? = cur.toList[i]? := by simp
    rw [e2, e1]
    simp [List.getElem?_eq_getElem hi]
theorem ref_app0 {w w2 : World} {v' : Value} {ws : List Int} (hown : w2.ownsRow (w.heap.size + 1) 22 1 v' (0 + ws.length) ([] ++ ws.map (Value.int .u64)))
    (hgrow : (w.alloc ROb0).grownBy w2 (Value.slice none 0 0).ownBlock) :
    ∃ ao c, v' = .slice ao ws.length c ∧ w2.cell? ⟨w.heap.size, 0, none⟩ = some (.slice none 0 0) ∧ w2.frozen? ⟨w.heap.size, 0, none⟩ = false ∧
      Hid (RefIs (w2.setCell ⟨w.heap.size, 0, none⟩ (.slice ao ws.length c)) w.heap.size w.heap.size ws ⟨0, 0, 0, 0⟩ 0 ∧ Below w.heap.size w (w2.setCell ⟨w.heap.size, 0, none⟩ (.slice ao ws.length c))) := by
  simp only [Nat.zero_add, List.nil_append] at hown
  obtain ⟨ao2, c2, rfl⟩ := owns_shape hown
  have hB : Below (w.heap.size + 1) (w.alloc ROb0) w2 := (Below.refl _ _).grown hgrow (by simp) (by intro k hk; simp [Value.ownBlock] at hk)
  have hb2 : w2.heap[w.heap.size]? = some ROb0 := (hB.block _ (by omega)).trans (heap_new w _)
  exact ⟨ao2, c2, rfl, cell_of hb2 rfl, free_of hb2 0, ref_made0 hB hown⟩
theorem ref_news0 {w : World} {a : Addr} {ws : List Int} {o : Obj} (h : ∀ b, some a = some b → ∀ i, i < ws.length → w.cell? (b.add i) = some (.int .u64 (ws.getD i 0))) :
    ∀ j u, (ws.map (Value.int .u64))[j]? = some u → (w.alloc o).cell? (a.add j) = some u := by
  intro j u hj
  have hjn : j < ws.length := by
    have := (List.getElem?_eq_some_iff.1 hj).1
    simpa using this
  refine Lib.cell?_alloc_some _ ?_
  rw [h a rfl j hjn]
  have e : (ws.map (Value.int .u64))[j]? = some (Value.int .u64 (ws.getD j 0)) := by simp [List.getD, List.getElem?_eq_getElem hjn]
  rw [e] at hj
  exact hj

set_option maxRecDepth 100000 in
set_option maxHeartbeats 2000000 in
theorem refNew_any (seed : Nat) (v : Value) (ws : List Int) (w : World) (hv : RowAt .u64 w v ws) (hbig : ws.length * 8 ≤ 140737488355328) (hs : seed < 18446744073709551616) :
    Calls Try.prog 14 #[.int .u64 seed, v] w fun e w' => ∃ b, e = .returned (.pointer (some ⟨b, 0, none⟩)) ∧ w.heap.size ≤ b ∧ RefIs w' w.heap.size b ws (newSt seed) 0 ∧ Below w.heap.size w w' := by
  obtain ⟨i0, hi, hz0, hz1, hz2⟩ := info_parts Try.info22
  obtain ⟨ao, c, rfl, h1, h2, h3, h4⟩ := hv
  have H4 := hide h4
  clear h4
  cases ao with
  | none =>
    have hn0 : ws.length = 0 := by have := h3 rfl; omega
    obtain rfl : ws = [] := List.eq_nil_of_length_eq_zero hn0
    have hc0 : c = 0 := h3 rfl
    subst hc0
    clear h3 hn0
    have HM : Hid (RefIs (w.alloc ROb0) w.heap.size w.heap.size [] ⟨0, 0, 0, 0⟩ 0 ∧ Below w.heap.size w (w.alloc ROb0)) :=
      ⟨⟨Nat.le_refl _, .slice none 0 0, heap_new w _, .inl ⟨rfl, rfl⟩⟩, (Below.refl _ w).alloc (Nat.le_refl _) _⟩
    go_enter Try.func14, Try.ntmps14
    go_wp2_with (at_builtin; refine wpList_append_own_none rfl _ _ 23 rfl (w.heap.size + 1) 22 i0 1 Try.underlying23 hi (.slice none 0 0) 0 [] rfl (World.ownsRow_nil _ _ _ _) rfl ?_)
    go_loopw [6, 7] (fun t i wr => ∃ k : Nat, k ≤ 4 ∧ i = .int .i64 k ∧ t = .int .u64 (sd seed k : Nat) ∧ RefIs wr w.heap.size w.heap.size [] (partSt seed k) 0 ∧ Below w.heap.size w wr) (fun _ i _ => 4 - (RowKit.intOf i).toNat)
    case atStart => exact ⟨0, by omega, rfl, by rw [sd_zero seed hs], HM.out.1, HM.out.2⟩
    case round =>
      clear HM
      obtain ⟨k, hk, rfl, rfl, hR, hL⟩ := hrel
      by_cases hlt : k < 4
      · rcases (show k = 0 ∨ k = 1 ∨ k = 2 ∨ k = 3 by omega) with rfl | rfl | rfl | rfl
        · obtain ⟨⟨vA, cA⟩, ⟨vB, cB⟩, ⟨vC, cC⟩, ⟨vD, cD⟩, hfz, _⟩ := hR.spots
          have fz := hfz 2
          have HR := hide hR; have HL := hide hL
          clear hR hL hfz
          go_wp2_with fail
          rw [sd_next seed 0 1 rfl]
          have HX := hide (fun W => refMix_nat (sd seed 1) W (sd_lt _ _))
          go_region_with (go_at_call 24; refine (HX.out _).mono ?_; rintro e w' ⟨rfl, rfl⟩)
          all_goals
            go_wp2_with fail
            go_roundw
            case rel => exact ⟨1, by decide, rfl, rfl, HR.out.put (s' := partSt seed 1) 2 _ (fun _ => rfl), (HL.out.drew.setCell (Nat.le_refl _) _)⟩
            case measure => simp [RowKit.intOf]
        · obtain ⟨⟨vA, cA⟩, ⟨vB, cB⟩, ⟨vC, cC⟩, ⟨vD, cD⟩, hfz, _⟩ := hR.spots
          have fz := hfz 3
          have HR := hide hR; have HL := hide hL
          clear hR hL hfz
          go_wp2_with fail
          rw [sd_next seed 1 2 rfl]
          have HX := hide (fun W => refMix_nat (sd seed 2) W (sd_lt _ _))
          go_region_with (go_at_call 24; refine (HX.out _).mono ?_; rintro e w' ⟨rfl, rfl⟩)
          all_goals
            go_wp2_with fail
            go_roundw
            case rel => exact ⟨2, by decide, rfl, rfl, HR.out.put (s' := partSt seed 2) 3 _ (fun _ => rfl), (HL.out.drew.setCell (Nat.le_refl _) _)⟩
            case measure => simp [RowKit.intOf]
        · obtain ⟨⟨vA, cA⟩, ⟨vB, cB⟩, ⟨vC, cC⟩, ⟨vD, cD⟩, hfz, _⟩ := hR.spots
          have fz := hfz 4
          have HR := hide hR; have HL := hide hL
          clear hR hL hfz
          go_wp2_with fail
          rw [sd_next seed 2 3 rfl]
          have HX := hide (fun W => refMix_nat (sd seed 3) W (sd_lt _ _))
          go_region_with (go_at_call 24; refine (HX.out _).mono ?_; rintro e w' ⟨rfl, rfl⟩)
          all_goals
            go_wp2_with fail
            go_roundw
            case rel => exact ⟨3, by decide, rfl, rfl, HR.out.put (s' := partSt seed 3) 4 _ (fun _ => rfl), (HL.out.drew.setCell (Nat.le_refl _) _)⟩
            case measure => simp [RowKit.intOf]
        · obtain ⟨⟨vA, cA⟩, ⟨vB, cB⟩, ⟨vC, cC⟩, ⟨vD, cD⟩, hfz, _⟩ := hR.spots
          have fz := hfz 5
          have HR := hide hR; have HL := hide hL
          clear hR hL hfz
          go_wp2_with fail
          rw [sd_next seed 3 4 rfl]
          have HX := hide (fun W => refMix_nat (sd seed 4) W (sd_lt _ _))
          go_region_with (go_at_call 24; refine (HX.out _).mono ?_; rintro e w' ⟨rfl, rfl⟩)
          all_goals
            go_wp2_with fail
            go_roundw
            case rel => exact ⟨4, by decide, rfl, rfl, HR.out.put (s' := partSt seed 4) 5 _ (fun _ => rfl), (HL.out.drew.setCell (Nat.le_refl _) _)⟩
            case measure => simp [RowKit.intOf]
      · obtain rfl : k = 4 := by omega
        have HR := hide hR; have HL := hide hL
        clear hR hL
        go_wp2_with fail
        go_ret
        exact ⟨_, rfl, Nat.le_refl _, HR.out, HL.out⟩
  | some a =>
    clear h3
    go_enter Try.func14, Try.ntmps14
    go_wp2_with (at_builtin; refine wpList_append_own _ rfl _ _ 23 rfl (w.heap.size + 1) 22 i0 (.int .u64 0) 1 8 Try.underlying23 hi hz0 hz1 hz2 rfl (by decide) _ _ _ rfl (World.ownsRow_nil _ _ _ _) a ws.length c (ws.map (Value.int .u64)) rfl (by simp) (ref_news0 H4.out) (ref_one ws) (by unfold maxLen; omega) (by omega) (by simp) ?_; intro v' w2 hown hgrow _; obtain ⟨ao2, c2, rfl, c0, f0, HM⟩ := ref_app0 hown hgrow; clear hown hgrow)
    go_loopw [6, 7] (fun t i wr => ∃ k : Nat, k ≤ 4 ∧ i = .int .i64 k ∧ t = .int .u64 (sd seed k : Nat) ∧ RefIs wr w.heap.size w.heap.size ws (partSt seed k) 0 ∧ Below w.heap.size w wr) (fun _ i _ => 4 - (RowKit.intOf i).toNat)
    case atStart => exact ⟨0, by omega, rfl, by rw [sd_zero seed hs], HM.out.1, HM.out.2⟩
    case round =>
      clear HM
      obtain ⟨k, hk, rfl, rfl, hR, hL⟩ := hrel
      by_cases hlt : k < 4
      · rcases (show k = 0 ∨ k = 1 ∨ k = 2 ∨ k = 3 by omega) with rfl | rfl | rfl | rfl
        · obtain ⟨⟨vA, cA⟩, ⟨vB, cB⟩, ⟨vC, cC⟩, ⟨vD, cD⟩, hfz, _⟩ := hR.spots
          have fz := hfz 2
          have HR := hide hR; have HL := hide hL
          clear hR hL hfz
          go_wp2_with fail
          rw [sd_next seed 0 1 rfl]
          have HX := hide (fun W => refMix_nat (sd seed 1) W (sd_lt _ _))
          go_region_with (go_at_call 24; refine (HX.out _).mono ?_; rintro e w' ⟨rfl, rfl⟩)
          all_goals
            go_wp2_with fail
            go_roundw
            case rel => exact ⟨1, by decide, rfl, rfl, HR.out.put (s' := partSt seed 1) 2 _ (fun _ => rfl), (HL.out.drew.setCell (Nat.le_refl _) _)⟩
            case measure => simp [RowKit.intOf]
        · obtain ⟨⟨vA, cA⟩, ⟨vB, cB⟩, ⟨vC, cC⟩, ⟨vD, cD⟩, hfz, _⟩ := hR.spots
          have fz := hfz 3
          have HR := hide hR; have HL := hide hL
          clear hR hL hfz
          go_wp2_with fail
          rw [sd_next seed 1 2 rfl]
          have HX := hide (fun W => refMix_nat (sd seed 2) W (sd_lt _ _))
          go_region_with (go_at_call 24; refine (HX.out _).mono ?_; rintro e w' ⟨rfl, rfl⟩)
          all_goals
            go_wp2_with fail
            go_roundw
            case rel => exact ⟨2, by decide, rfl, rfl, HR.out.put (s' := partSt seed 2) 3 _ (fun _ => rfl), (HL.out.drew.setCell (Nat.le_refl _) _)⟩
            case measure => simp [RowKit.intOf]
        · obtain ⟨⟨vA, cA⟩, ⟨vB, cB⟩, ⟨vC, cC⟩, ⟨vD, cD⟩, hfz, _⟩ := hR.spots
          have fz := hfz 4
          have HR := hide hR; have HL := hide hL
          clear hR hL hfz
          go_wp2_with fail
          rw [sd_next seed 2 3 rfl]
          have HX := hide (fun W => refMix_nat (sd seed 3) W (sd_lt _ _))
          go_region_with (go_at_call 24; refine (HX.out _).mono ?_; rintro e w' ⟨rfl, rfl⟩)
          all_goals
            go_wp2_with fail
            go_roundw
            case rel => exact ⟨3, by decide, rfl, rfl, HR.out.put (s' := partSt seed 3) 4 _ (fun _ => rfl), (HL.out.drew.setCell (Nat.le_refl _) _)⟩
            case measure => simp [RowKit.intOf]
        · obtain ⟨⟨vA, cA⟩, ⟨vB, cB⟩, ⟨vC, cC⟩, ⟨vD, cD⟩, hfz, _⟩ := hR.spots
          have fz := hfz 5
          have HR := hide hR; have HL := hide hL
          clear hR hL hfz
          go_wp2_with fail
          rw [sd_next seed 3 4 rfl]
          have HX := hide (fun W => refMix_nat (sd seed 4) W (sd_lt _ _))
          go_region_with (go_at_call 24; refine (HX.out _).mono ?_; rintro e w' ⟨rfl, rfl⟩)
          all_goals
            go_wp2_with fail
            go_roundw
            case rel => exact ⟨4, by decide, rfl, rfl, HR.out.put (s' := partSt seed 4) 5 _ (fun _ => rfl), (HL.out.drew.setCell (Nat.le_refl _) _)⟩
            case measure => simp [RowKit.intOf]
      · obtain rfl : k = 4 := by omega
        have HR := hide hR; have HL := hide hL
        clear hR hL
        go_wp2_with fail
        go_ret
        exact ⟨_, rfl, Nat.le_refl _, HR.out, HL.out⟩
end Go.Proofs.Ytglgflibpgmilaa
