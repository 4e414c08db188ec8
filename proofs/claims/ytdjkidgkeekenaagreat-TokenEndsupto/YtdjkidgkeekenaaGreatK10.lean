/- The document's node: Open. -/
import Derived.Test.YtdjkidgkeekenaaGreatK9
import Derived.Test.YtdjkidgkeekenaaGreatK5
import Derived.Test.YtdjkidgkeekenaaGreatK3
import Derived.Deep.AppendLies
import Derived.Deep.RegionLaw
namespace Go.Proofs.YtdjkidgkeekenaaGreat
open Go.RowKit Go.Lib
set_option linter.unusedVariables false
set_option linter.unusedSimpArgs false
/-- The document's node while its sends are laid. -/
structure RO (w1 wr : World) (p0 p1 p3 y1 y2 y3 : Value) (a : Bool) (k v : Value) (i : Nat) : Prop where
  own : ∃ vals, wr.ownsRow (w1.heap.size + 1) 3 1 v i vals
  blk : wr.heap[w1.heap.size]? = some (.cells #[p0, p1, v, p3, .int .i64 1, .bool a, k, .int .i64 0, .int .i64 0, .bool false, y1, y2, y3] 124 (0, 0))
  bel : Below w1.heap.size w1 wr
theorem RO.step {w1 wr X w2 : World} {p0 p1 p3 y1 y2 y3 k v : Value} {a : Bool} {i g cap : Nat} {vals : List Value} (h : RO w1 wr p0 p1 p3 y1 y2 y3 a k v i) (hX : Below wr.heap.size wr X) (hown : w2.ownsRow (w1.heap.size + 1) 3 1 (.slice (some ⟨g, 0, none⟩) (i + 1) cap) (i + 1) vals) (hgrow : X.grownBy w2 v.ownBlock) :
    w2.cell? ⟨w1.heap.size, 2, none⟩ = some v ∧ w2.frozen? ⟨w1.heap.size, 2, none⟩ = false ∧ RO w1 (w2.setCell ⟨w1.heap.size, 2, none⟩ (.slice (some ⟨g, 0, none⟩) (i + 1) cap)) p0 p1 p3 y1 y2 y3 a k (.slice (some ⟨g, 0, none⟩) (i + 1) cap) (i + 1) := by
  obtain ⟨vals0, ho⟩ := h.own
  have hl := lt_of_heap h.blk
  have hb2 : w2.heap[w1.heap.size]? = some (.cells #[p0, p1, v, p3, .int .i64 1, .bool a, k, .int .i64 0, .int .i64 0, .bool false, y1, y2, y3] 124 (0, 0)) := by
    rw [hgrow.block _ (Nat.lt_of_lt_of_le hl hX.size) (fun e => by have := (ho.lt _ e.symm).1; omega), hX.block _ hl, h.blk]
  have hg := (hown.lt g rfl).1
  refine ⟨cell_of hb2 rfl, free_of hb2 _, ⟨vals, own_stayR hown (fun q hq => ?_)⟩, by rw [heap_set hb2]; rfl, ?_⟩
  · cases hq
    exact Below.heap_setCell _ _ _ _ (by simp; omega)
  · refine ((below_on h.bel hX).grown hgrow (below_on h.bel hX).size (fun j hj => by have := (ho.lt j hj).1; omega)).setCell (p := ⟨w1.heap.size, 2, none⟩) (Nat.le_refl _) _
theorem RO.wake {w1 wr : World} {p0 p1 p3 y1 y2 y3 k v : Value} {a : Bool} {i : Nat} (h : RO w1 wr p0 p1 p3 y1 y2 y3 a k v i) (k' : Value) :
    RO w1 ((wr.setCell ⟨w1.heap.size, 5, none⟩ (.bool true)).setCell ⟨w1.heap.size, 6, none⟩ k') p0 p1 p3 y1 y2 y3 true k' v i := by
  obtain ⟨vals, ho⟩ := h.own
  refine ⟨⟨vals, own_stayR ho (fun q hq => ?_)⟩, by rw [heap_set (heap_set h.blk _) _]; rfl, (h.bel.setCell (p := ⟨w1.heap.size, 5, none⟩) (Nat.le_refl _) _).setCell (p := ⟨w1.heap.size, 6, none⟩) (Nat.le_refl _) _⟩
  have := (ho.lt q hq).1
  rw [Below.heap_setCell _ _ _ _ (by simp; omega), Below.heap_setCell _ _ _ _ (by simp; omega)]
/-- The document's node, as far as Tell sees it. -/
def RefT (w : World) (B : Nat) (a : Bool) : Prop := ∃ (p0 p1 p2 p3 k y1 y2 y3 : Value), w.heap[B]? = some (.cells #[p0, p1, p2, p3, .int .i64 1, .bool a, k, .int .i64 0, .int .i64 0, .bool false, y1, y2, y3] 124 (0, 0))
def ReP (ls : List (List Int)) (aw : List Int) (b x : Int) (w : World) (e : Ending) (w' : World) : Prop := Below w.heap.size w w' ∧ ∃ p r, e = .returned (.tuple #[p, .int .i64 r]) ∧ OpA ls aw b x r ∧ (r = 0 → ∃ B a, p = .pointer (some ⟨B, 0, none⟩) ∧ RefT w' B a ∧ (a = true ↔ x ∈ aw))
theorem ReP.bad {ls : List (List Int)} {aw : List Int} {b x r : Int} {w w' : World} {e : Ending} {p : Value} (hb : Below w.heap.size w w') (he : e = .returned (.tuple #[p, .int .i64 r])) (h : OpA ls aw b x r) (h0 : r ≠ 0) : ReP ls aw b x w e w' := ⟨hb, _, _, he, h, fun q => (h0 q).elim⟩
theorem ReP.good {ls : List (List Int)} {aw : List Int} {b x : Int} {w w' : World} {e : Ending} {B : Nat} {a : Bool} (hb : Below w.heap.size w w') (he : e = .returned (.tuple #[.pointer (some ⟨B, 0, none⟩), .int .i64 0])) (h : OpA ls aw b x 0) (hn : RefT w' B a) (ha : a = true ↔ x ∈ aw) : ReP ls aw b x w e w' := ⟨hb, _, _, he, h, fun _ => ⟨B, a, rfl, hn, ha⟩⟩
set_option maxRecDepth 100000 in
set_option maxHeartbeats 4000000 in
theorem open_any (v u : Value) (b x : Int) (ls : List (List Int)) (aw : List Int) (w : World) (h : RwsI w v ls) (hu : RowAt .i64 w u aw) (hb : Bnd ls aw) : Calls Tryz.prog 25 #[.agg #[v, u, .int .i64 b], .int .i64 x] w (ReP ls aw b x w) := by
  obtain ⟨i0, hi, hz0, hz1, hz2⟩ := info_parts info3i
  have HCK := hide (fun W (q : Below w.heap.size w W) => refCheck_any v u b ls aw W (h.below q) (hu.below q) hb)
  obtain ⟨so, sc, rfl, hsc⟩ := h.shape
  obtain ⟨bo, bc, rfl⟩ := hu.shape
  obtain ⟨n, hn⟩ : ∃ n, n = ls.length := ⟨_, rfl⟩
  have HN := hide hn
  have H := hide h
  have HU := hide hu
  have hnb := hb.n
  have HBD := hide hb
  rw [← hn] at H HCK hsc hnb ⊢
  obtain ⟨W0, hW0⟩ : ∃ W0, W0 = w.alloc (.cells #[.slice so n sc, .slice bo aw.length bc, .int .i64 b] 25) := ⟨_, rfl⟩
  have hA : W0.heap[w.heap.size]? = some (.cells #[.slice so n sc, .slice bo aw.length bc, .int .i64 b] 25 (0, 0)) := by rw [hW0]; exact heap_new w _
  have HA := hide hA
  have HB0 : Hid (Below w.heap.size w W0) := by rw [hW0]; exact below_alloc (Below.refl _ _) _
  clear h hu hb hn hA
  go_enter Tryz.func25, Tryz.ntmps25
  go_wp2_with fail
  rw [← hW0]
  clear hW0
  refine (HCK.out W0 HB0.out).mono ?_
  rintro e w1 ⟨hb1, r, rfl, hr⟩
  have HB1 := hide hb1
  have HR := hide hr
  have HA1 := hide ((hb1.block _ (lt_of_heap HA.out)).trans HA.out)
  have HT1 := hide (below_on HB0.out hb1)
  clear hb1 hr HCK HA
  by_cases hr0 : r = 0
  · subst hr0
    have a0 := cell_of HA1.out (i := 0) rfl; have a1 := cell_of HA1.out (i := 1) rfl; have a2 := cell_of HA1.out (i := 2) rfl
    by_cases hx0 : x < 0
    · go_wp2_with fail
      go_ret2
      exact ReP.bad HT1.out rfl (.inr ⟨HR.out, .inl ⟨fun q => by omega, rfl⟩⟩) (by decide)
    · by_cases hx1 : (n : Int) ≤ x
      · go_wp2_with fail
        go_ret2
        exact ReP.bad HT1.out rfl (.inr ⟨HR.out, .inl ⟨fun q => by rw [← HN.out] at q; omega, rfl⟩⟩) (by decide)
      · obtain ⟨xx, rfl⟩ : ∃ xx : Nat, x = (xx : Int) := ⟨x.toNat, by omega⟩
        have hxn : xx < n := by omega
        have hxi : (xx : Int) < (n : Int) := by omega
        have hnx : ¬ n ≤ xx := by omega
        have hxx : ¬ (xx : Int) < 0 := by omega
        clear hx0 hx1
        have HOK : Hid (OpA ls aw b (xx : Int) 0) := .inr ⟨HR.out, .inr ⟨⟨by omega, by rw [← HN.out]; exact hxi⟩, rfl⟩⟩
        obtain ⟨gg, oo, io, ic, rfl, hgl, d0, hrow⟩ := RwsI.at (n := n) H.out xx (by rw [← HN.out]; exact hxn)
        have d1 := (below_cell HT1.out hgl).trans d0
        have hmb := HBD.out.r xx
        obtain ⟨m, hm⟩ : ∃ m, m = (rowL ls xx).length := ⟨_, rfl⟩
        have HM := hide hm
        rw [← hm] at hmb d1 hrow
        have HROW := hide (hrow.below HT1.out)
        have hkp : ∀ X, Below w1.heap.size w1 X → (X.cell? ⟨w.heap.size, 0, none⟩ = some (.slice (some ⟨gg, oo, none⟩) n sc) ∧ X.cell? ⟨w.heap.size, 1, none⟩ = some (.slice bo aw.length bc) ∧ X.cell? ⟨w.heap.size, 2, none⟩ = some (.int .i64 b)) ∧ X.cell? ⟨gg, oo + xx, none⟩ = some (.slice io m ic) := fun X hX => by
          have q := (hX.block _ (lt_of_heap HA1.out)).trans HA1.out
          exact ⟨⟨cell_of q rfl, cell_of q rfl, cell_of q rfl⟩, (below_cell hX (block_of_cell d1)).trans d1⟩
        have HKP := hide hkp
        clear d0 d1 hrow hkp hm
        go_wp2_with fail
        obtain ⟨X, hX⟩ : ∃ X, X = w1.alloc (.cells #[.int .i64 (xx : Int), .int .i64 (n : Int), .slice none 0 0, .int .i64 b, .int .i64 1, .bool false, .int .i64 0, .int .i64 0, .int .i64 0, .bool false, .int .u64 0, .int .u64 0, .int .u64 0] 124) := ⟨_, rfl⟩
        have HRO : Hid (RO w1 X (.int .i64 (xx : Int)) (.int .i64 (n : Int)) (.int .i64 b) (.int .u64 0) (.int .u64 0) (.int .u64 0) false (.int .i64 0) (.slice none 0 0) 0) := by
          rw [hX]; exact ⟨⟨[], World.ownsRow_nil _ _ _ _⟩, heap_new w1 _, below_alloc (Below.refl _ _) _⟩
        rw [← hX]
        clear hX a0 a1 a2
        go_loopw [8] (fun t wr => ∃ (i : Nat) (v : Value), i ≤ m ∧ t = .int .i64 (i : Int) ∧ Hid (RO w1 wr (.int .i64 (xx : Int)) (.int .i64 (n : Int)) (.int .i64 b) (.int .u64 0) (.int .u64 0) (.int .u64 0) false (.int .i64 0) v i)) (fun t _ => m - (RowKit.intOf t).toNat)
        case atStart => exact ⟨0, _, Nat.zero_le _, rfl, HRO⟩
        case round =>
          obtain ⟨i, v, him, rfl, HO⟩ := hrel
          clear HRO
          obtain ⟨⟨x0, x1, x2⟩, x3⟩ := HKP.out wr HO.out.bel
          obtain ⟨vals, ho⟩ := HO.out.own
          obtain ⟨vo, vc, rfl⟩ := owns_shape ho
          have HOWN := hide ho
          have c2 := cell_of HO.out.blk (i := 2) rfl
          have hls := lt_of_heap HO.out.blk
          clear ho
          by_cases hlt : i < m
          · have hli : (i : Int) < (m : Int) := by omega
            obtain ⟨gs, os, cc1, he1, hgs, p0⟩ := (HROW.out.below HO.out.bel).cellAt i (by rw [← HM.out]; exact hlt)
            simp only [Value.slice.injEq] at he1
            obtain ⟨rfl, _⟩ := he1
            generalize at_ (rowL ls xx) i = s at p0
            go_wp2_with fail
            refine wp_region_noPanic ?_
            go_region_law ((refine step_append_lies _ (by rfl) _ _ _ (by rfl) (w1.heap.size + 1) 3 i0 (.int .i64 0) 1 8 Tryz.underlying23 hi hz0 hz1 hz2 rfl (by omega) (.slice vo i vc) i vals (by rfl) ((HOWN.out.alloc _).drew) ⟨wr.heap.size, 0, none⟩ 1 1 [.int .i64 s] (by rfl) (by rfl) (arr_at wr _ _) (by simp [Value.oneCell']) (by omega) (by unfold maxLen; omega) (by omega) (by simp; omega) (wr.heap.size + 1) (by simp) ?_; intro g cap w2 hown hgrow hat hlt2; obtain ⟨z0, zf, hpw⟩ := HO.out.step (X := (wr.alloc (.cells #[.int .i64 s] 3)).drew) (below_drew (below_alloc (Below.refl _ _) _)) hown hgrow; have HPW := hide hpw; clear hown hgrow hat hpw))
            all_goals
              refine NoPanic.normal ?_
              go_wp2_with fail
              exact ⟨⟨i + 1, _, hlt, by simp, HPW⟩, mdecR hlt⟩
          · obtain rfl : i = m := by omega
            have hab := HBD.out.a
            obtain ⟨q, hq⟩ : ∃ q, q = aw.length := ⟨_, rfl⟩
            have HQ := hide hq
            have HU2 := hide (HU.out.below HT1.out)
            have HKQ : Hid (∀ X, Below w1.heap.size w1 X → X.cell? ⟨w.heap.size, 1, none⟩ = some (.slice bo q bc)) := fun X hX => by rw [hq]; exact (HKP.out X hX).1.2.1
            rw [← hq] at hab HU2
            go_wp2_with fail
            clear x0 x1 x2 x3 c2 hls HOWN
            go_loopw [9] (fun t wr => ∃ (j : Nat) (a : Bool) (k : Value), j ≤ q ∧ t = .int .i64 (j : Int) ∧ Hid (RO w1 wr (.int .i64 (xx : Int)) (.int .i64 (n : Int)) (.int .i64 b) (.int .u64 0) (.int .u64 0) (.int .u64 0) a k (.slice vo i vc) i) ∧ Hid (a = true ↔ ∃ l, l < j ∧ at_ aw l = (xx : Int))) (fun t _ => q - (RowKit.intOf t).toNat)
            case atStart => exact ⟨0, false, _, Nat.zero_le _, rfl, HO, hide (⟨fun e => (by cases e), fun q => (by obtain ⟨l, hl, _⟩ := q; omega)⟩ : false = true ↔ ∃ l, l < 0 ∧ at_ aw l = (xx : Int))⟩
            case round =>
              obtain ⟨j, a, k, hjq, rfl, HO2, HAA⟩ := hrel
              clear HO
              have x1 := HKQ.out wr HO2.out.bel
              by_cases hlt2 : j < q
              · have hli : (j : Int) < (q : Int) := by omega
                obtain ⟨gs, os, cc1, he1, hgs, p0⟩ := (HU2.out.below HO2.out.bel).cellAt j (by rw [← HQ.out]; exact hlt2)
                simp only [Value.slice.injEq] at he1
                obtain ⟨rfl, _⟩ := he1
                obtain ⟨s, hs⟩ : ∃ s, s = at_ aw j := ⟨_, rfl⟩
                have HSS := hide hs
                rw [← hs] at p0
                clear hs
                by_cases heq : s = (xx : Int)
                · subst heq
                  have e2 := cell_of HO2.out.blk (i := 2) rfl
                  have e5 := cell_of HO2.out.blk (i := 5) rfl
                  have e6 := cell_of HO2.out.blk (i := 6) rfl
                  have f5 := free_of HO2.out.blk 5
                  have f6 := free_of HO2.out.blk 6
                  have HWK := hide (HO2.out.wake (.int .i64 (i : Int)))
                  go_wp2_with fail
                  exact ⟨⟨j + 1, true, _, hlt2, by simp, HWK, hide (⟨fun _ => ⟨j, by omega, HSS.out.symm⟩, fun _ => rfl⟩ : true = true ↔ ∃ l, l < j + 1 ∧ at_ aw l = (xx : Int))⟩, mdecR hlt2⟩
                · go_wp2_with fail
                  have hnew : a = true ↔ ∃ l, l < j + 1 ∧ at_ aw l = (xx : Int) := by
                    refine ⟨fun ha => ?_, fun ⟨l, hl, e⟩ => ?_⟩
                    · obtain ⟨l, hl, e⟩ := HAA.out.1 ha
                      exact ⟨l, by omega, e⟩
                    refine HAA.out.2 ⟨l, ?_, e⟩
                    rcases Nat.lt_or_ge l j with z | z
                    · exact z
                    · obtain rfl : l = j := by omega
                      rw [← HSS.out] at e
                      exact (heq e).elim
                  exact ⟨⟨j + 1, a, k, hlt2, by simp, HO2, hide hnew⟩, mdecR hlt2⟩
              · obtain rfl : j = q := by omega
                go_wp2_with fail
                go_ret2
                refine ReP.good (below_on HT1.out HO2.out.bel) rfl HOK.out ⟨_, _, _, _, _, _, _, _, HO2.out.blk⟩ (HAA.out.trans ⟨fun ⟨l, hl, e⟩ => ?_, fun hm => ?_⟩)
                · have hl2 : l < aw.length := by rw [← HQ.out]; exact hl
                  have : aw[l] = (xx : Int) := by simpa [at_, hl2] using e
                  rw [← this]; exact List.getElem_mem hl2
                · obtain ⟨l, hl, e⟩ := List.getElem_of_mem hm
                  exact ⟨l, by rw [HQ.out]; exact hl, by simp [at_, hl, e]⟩
  · have hr1 : r ≠ 0 := hr0
    go_wp2_with fail
    go_ret2
    exact ReP.bad HT1.out rfl (.inl ⟨hr1, HR.out⟩) hr1
end Go.Proofs.YtdjkidgkeekenaaGreat
