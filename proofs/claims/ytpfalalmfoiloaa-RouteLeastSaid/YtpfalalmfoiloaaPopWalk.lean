/- pop: the walk. -/
import Derived.Test.YtpfalalmfoiloaaPop
namespace Go.Proofs.Ytpfalalmfoiloaa
open Go.RowKit Go.Lib
set_option linter.unusedVariables false

/-- Behind the first statement of a pop. -/
structure P1 (w wx : World) (y : Pr) : Prop where
  bel : Below w.heap.size w wx
  size : wx.heap.size = w.heap.size + 2
  hR : wx.heap[w.heap.size]? = some (.cells (pCells (0, 0)) 140 (0, 0))
  hF : wx.heap[w.heap.size + 1]? = some (.cells (pCells y) 140 (0, 0))

theorem p1_made (w : World) (y : Pr) : P1 w ((w.alloc (.cells #[.int .u64 0, .int .i64 0] 140)).alloc (.cells #[.int .u64 y.1, .int .i64 y.2] 140)).drew y := by
  refine ⟨(below_drew (below_alloc (below_alloc (Below.refl _ _) _) _)), by simp, ?_, ?_⟩
  · show ((w.alloc (.cells #[.int .u64 0, .int .i64 0] 140)).alloc (.cells #[.int .u64 y.1, .int .i64 y.2] 140)).heap[w.heap.size]? = _
    rw [Below.heap_alloc _ _ _ (by simp)]; exact heap_new _ _
  · have := heap_new (w.alloc (.cells #[.int .u64 0, .int .i64 0] 140)) (.cells #[.int .u64 y.1, .int .i64 y.2] 140)
    rw [show (w.alloc (.cells #[.int .u64 0, .int .i64 0] 140)).heap.size = w.heap.size + 1 by simp] at this
    exact this

theorem pd_made {w wc : World} {Q B g c n : Nat} {l : List Pr} {x y : Pr} (h : QIs w Q B (.slice (some ⟨g, 0, none⟩) l.length c) l) (hn : l.length = n + 1) (hp : P1 w wc y) (hgB : B ≤ g) :
    PD w ((wc.alloc (.cells #[.int .u64 x.1, .int .i64 x.2] 140)).setCell ⟨Q, 0, none⟩ (.slice (some ⟨g, 0, none⟩) n c)) (.slice (some ⟨g, 0, none⟩) l.length c) Q B w.heap.size (w.heap.size + 1) wc.heap.size g c (l.take n) l x y := by
  have hQw := lt_of_heap h.hh
  have hgw : g < w.heap.size := by
    obtain ⟨_, ⟨he, _⟩ | ⟨g', c', cur, he, _, hh, _⟩⟩ := h.own
    · simp at he
    · simp only [Value.slice.injEq, Option.some.injEq, Addr.mk.injEq, true_and, and_true] at he
      obtain ⟨rfl, rfl⟩ := he
      exact lt_of_heap hh
  have hlt := h.lt
  have hle := h.le
  have hsz := hp.size
  have hlen : (l.take n).length = n := by rw [List.length_take]; omega
  have hb : Below wc.heap.size wc (wc.alloc (.cells #[.int .u64 x.1, .int .i64 x.2] 140)) := below_alloc (Below.refl _ _) _
  have hq0 : (wc.alloc (.cells #[.int .u64 x.1, .int .i64 x.2] 140)).heap[Q]? = some (.cells #[.slice (some ⟨g, 0, none⟩) l.length c, fnv 87] 144 (0, 0)) := (hb.block Q (by omega)).trans ((hp.bel.block Q hQw).trans h.hh)
  have ne : ∀ k, k ≠ Q → ((wc.alloc (.cells #[.int .u64 x.1, .int .i64 x.2] 140)).setCell ⟨Q, 0, none⟩ (.slice (some ⟨g, 0, none⟩) n c)).heap[k]? = (wc.alloc (.cells #[.int .u64 x.1, .int .i64 x.2] 140)).heap[k]? := fun k hk => Below.heap_setCell _ _ _ _ hk
  refine ⟨⟨?_, ?_, hlt, ?_⟩, ?_, ?_, ?_, by omega, by omega, by omega, by omega, ?_, hgB, hle, .inr (.inl rfl), .inr (.inr (Nat.le_refl _))⟩
  · rw [heap_set hq0, hlen]; simp
  · rw [hlen]
    have o1 : (wc.alloc (.cells #[.int .u64 x.1, .int .i64 x.2] 140)).ownsRow B 140 2 (.slice (some ⟨g, 0, none⟩) l.length c) l.length (qCells l) := own_chg (S := fun _ => False) h.own (Chg.of_below (below_on hp.bel hb)) (fun _ _ h => h)
    have o2 := own_chg (S := fun k => k = Q) o1 (w' := (wc.alloc (.cells #[.int .u64 x.1, .int .i64 x.2] 140)).setCell ⟨Q, 0, none⟩ (.slice (some ⟨g, 0, none⟩) n c)) ⟨rfl, rfl, rfl, by simp [World.setCell], fun k _ hk => ne k hk⟩ (fun k hk => by simp [Value.ownBlock] at hk; omega)
    rw [hn] at o2
    have e : qCells l = qCells (l.take n) ++ qCells (l.drop n) := by
      unfold qCells
      rw [← List.flatMap_append, List.take_append_drop]
    rw [e] at o2
    exact ownsRow_pop (by rw [qCells_length, hlen]) o2
  · simp [World.setCell]; omega
  · rw [ne _ (by omega), hb.block _ (by omega)]; exact hp.hR
  · rw [ne _ (by omega), hb.block _ (by omega)]; exact hp.hF
  · rw [ne _ (by omega)]
    exact heap_new wc (.cells #[.int .u64 x.1, .int .i64 x.2] 140)
  · exact ((Chg.of_below hp.bel).trans (Chg.of_below hb)).setCell (p := ⟨Q, 0, none⟩) (.inl rfl) _

theorem pop_drew {w wf : World} {Q B : Nat} {v : Value} {l : List Pr} {e : Ending} (h : PopPost w Q B v l e wf) : PopPost w Q B v l e wf.drew := by
  obtain ⟨h1, v', l', h2, h3, h4, h5, h6, h7⟩ := h
  exact ⟨h1, v', l', h2.below (Below.refl _ _).drew, h3, h4, h5, h6.drew, h7⟩

set_option maxRecDepth 100000 in
set_option maxHeartbeats 8000000 in
theorem pop_any (w : World) (Q B : Nat) (v : Value) (l : List Pr) (n : Nat) (h : QIs w Q B v l) (hp : Hp l) (hn : l.length = n + 1) (hl : n ≤ 10000000) :
    Calls Try.prog 91 #[.pointer (some ⟨Q, 0, none⟩)] w (PopPost w Q B v l) := by
  have H := hide h
  have HP := hide hp
  have hQw := lt_of_heap h.hh
  have hle := h.le
  obtain ⟨g, c, rfl, hgB, hgw, hnc, hcm, hcl⟩ := own_cells h.own (by omega)
  rw [hn] at hnc
  have c0 : (w.alloc (.cells #[.int .u64 0, .int .i64 0] 140)).cell? ⟨Q, 0, none⟩ = some (.slice (some ⟨g, 0, none⟩) (n + 1) c) := by
    rw [← hn]; exact (below_cell (below_alloc (Below.refl _ _) _) hQw).trans (cell_of h.hh rfl)
  obtain ⟨⟨s0, s1⟩, _, _⟩ := hcl 0 (by omega)
  have a0 : (w.alloc (.cells #[.int .u64 0, .int .i64 0] 140)).cell? ⟨g, 0, none⟩ = some (.int .u64 (sAt l 0).1) := (below_cell (below_alloc (Below.refl _ _) _) hgw).trans s0
  have a1 : (w.alloc (.cells #[.int .u64 0, .int .i64 0] 140)).cell? ⟨g, 1, none⟩ = some (.int .i64 (sAt l 0).2) := (below_cell (below_alloc (Below.refl _ _) _) hgw).trans s1
  have HCL := hide hcl
  have hnq : ¬ Q = w.heap.size := by omega
  have hnq1 : ¬ Q = w.heap.size + 1 := by omega
  have hng : ¬ g = w.heap.size := by omega
  have hng1 : ¬ g = w.heap.size + 1 := by omega
  have HN := hide hn
  obtain ⟨y0, hy0⟩ : ∃ z, z = (sAt l 0).1 := ⟨_, rfl⟩
  obtain ⟨y1, hy1⟩ : ∃ z, z = (sAt l 0).2 := ⟨_, rfl⟩
  rw [← hy0] at a0
  rw [← hy1] at a1
  have HY := hide (show (y0, y1) = sAt l 0 by rw [hy0, hy1])
  clear h hp hcl s0 s1 hn hy0 hy1
  go_enter Try.func91, Try.ntmps91
  go_wp2_with fail
  go_cut [3, 4] from 8 to 19 (fun t u wx => t = .pointer (some ⟨w.heap.size + 1, 0, none⟩) ∧ u = .int .i64 (n : Int) ∧ P1 w wx (y0, y1))
  case first =>
    go_region
    all_goals
      go_wp2_with fail
      go_meet
      case rel => exact ⟨rfl, rfl, p1_made w (y0, y1)⟩
  case rest =>
    obtain ⟨rfl, rfl, hp1⟩ := hcut
    have HP1 := hide hp1
    have hsz := hp1.size
    have d0 : wc.cell? ⟨Q, 0, none⟩ = some (.slice (some ⟨g, 0, none⟩) (n + 1) c) := (below_cell hp1.bel hQw).trans (by rw [← HN.out]; exact cell_of H.out.hh rfl)
    have dq : wc.heap[Q]? = some (.cells #[.slice (some ⟨g, 0, none⟩) (n + 1) c, fnv 87] 144 (0, 0)) := (hp1.bel.block Q hQw).trans (by rw [← HN.out]; exact H.out.hh)
    have fq := free_of dq 0
    obtain ⟨⟨s0, s1⟩, _, _⟩ := HCL.out n (by have := HN.out; omega)
    have t0 := (below_cell (o := n * 2) hp1.bel hgw).trans s0
    have t1 := (below_cell (o := n * 2 + 1) hp1.bel hgw).trans s1
    obtain ⟨x0, hx0⟩ : ∃ z, z = (sAt l n).1 := ⟨_, rfl⟩
    obtain ⟨x1, hx1⟩ : ∃ z, z = (sAt l n).2 := ⟨_, rfl⟩
    rw [← hx0] at t0
    rw [← hx1] at t1
    have HX := hide (show (x0, x1) = sAt l n by rw [hx0, hx1])
    have hnqc : ¬ Q = wc.heap.size := by omega
    have HSZ := hide hsz
    have dqa : (wc.alloc (.cells #[.int .u64 x0, .int .i64 x1] 140)).heap[Q]? = some (.cells #[.slice (some ⟨g, 0, none⟩) (n + 1) c, fnv 87] 144 (0, 0)) := (Below.heap_alloc _ _ _ (by omega)).trans dq
    have d0a := cell_of dqa (i := 0) rfl
    have fqa := free_of dqa 0
    have HPD := hide (pd_made (x := (x0, x1)) H.out HN.out hp1 hgB)
    have hgQ : ¬ g = Q := by have := H.out.lt; omega
    clear hp1 a0 a1 c0 s0 s1 hx0 hx1 dq hsz dqa
    go_wp2
    have hRF : ¬ w.heap.size = w.heap.size + 1 := by omega
    generalize ((wc.alloc (.cells #[.int .u64 x0, .int .i64 x1] 140)).setCell ⟨Q, 0, none⟩ (.slice (some ⟨g, 0, none⟩) n c)) = w2 at HPD ⊢
    generalize wc.heap.size = X at HPD ⊢
    rw [HY.out] at HPD
    clear d0 fq t0 t1 d0a fqa HP1 HSZ hnqc
    rcases Nat.eq_zero_or_pos n with hn0 | hn0
    · subst hn0
      rw [List.take_zero] at HPD
      have hR := HPD.out.hR
      have hF := HPD.out.hF
      have q0 : w2.cell? ⟨w.heap.size, 0, none⟩ = some (.int .u64 0) := cell_of hR rfl
      have q1 : w2.cell? ⟨w.heap.size, 1, none⟩ = some (.int .i64 0) := cell_of hR rfl
      have r0 := free_of hR 0
      have r1 := free_of hR 1
      rw [← HY.out] at hF
      have p0 : w2.cell? ⟨w.heap.size + 1, 0, none⟩ = some (.int .u64 y0) := cell_of hF rfl
      have p1 : w2.cell? ⟨w.heap.size + 1, 1, none⟩ = some (.int .i64 y1) := cell_of hF rfl
      have HE := hide (fun k => pop_one (HPD.out.below (below_drewN (Below.refl _ _) k)) (by have := HN.out; omega))
      rw [← HY.out] at HE
      clear hR hF
      refine wp_loop_rounds 1 ?_
      rw [rounds_succ]
      go_wp2
      go_quiet (fail)
      go_wp2
      go_quiet (fail)
      go_wp2
      exact bodyPost_ret (results_cell_row Try.results91 _ _ w.heap.size 140 _ (0, 0) _ rfl (HE.out _).1 Try.underlying140 rfl (by kernel_rfl)) rfl (HE.out _).2
    · have HDN := hide (down_start l n HN.out hn0 HP.out)
      rw [← HX.out] at HDN
      have HLT : Hid ((l.take n).length = n) := by show (l.take n).length = n; rw [List.length_take]; have := HN.out; omega
      go_loopw [6] (fun t wr => ∃ (m : List Pr) (a : Nat), t = .int .i64 a ∧ m.length = n ∧ PD w wr (.slice (some ⟨g, 0, none⟩) l.length c) Q B w.heap.size (w.heap.size + 1) X g c m l (x0, x1) (sAt l 0) ∧ Down m a (x0, x1) l) (fun t _ => n - (RowKit.intOf t).toNat)
      case atStart => exact ⟨l.take n, 0, rfl, HLT.out, HPD.out, HDN.out⟩
      case round =>
        obtain ⟨m, a, rfl, hmn, hpd, hdn⟩ := hrel
        have HPR := hide hpd
        have HDR := hide hdn
        have HMN := hide hmn
        have han : a < n := by have := hdn.lt; omega
        have hgr : g < wr.heap.size := by
          obtain ⟨g', c', he, _, hgw', _⟩ := own_cells hpd.q.own (by omega)
          simp only [Value.slice.injEq, Option.some.injEq, Addr.mk.injEq, true_and, and_true] at he
          obtain ⟨rfl, rfl⟩ := he
          exact hgw'
        have hQr := lt_of_heap hpd.q.hh
        have hXr := lt_of_heap hpd.hX
        have hRr := lt_of_heap hpd.hR
        have hFr := lt_of_heap hpd.hF
        have HCR : Hid (∀ (W : World), Below wr.heap.size wr W → ∀ i, i < n → (W.cell? ⟨g, i * 2, none⟩ = some (.int .u64 (sAt m i).1) ∧ W.cell? ⟨g, i * 2 + 1, none⟩ = some (.int .i64 (sAt m i).2)) ∧ W.frozen? ⟨g, i * 2, none⟩ = false ∧ W.frozen? ⟨g, i * 2 + 1, none⟩ = false) := by
          intro W hW i hi
          obtain ⟨g', c', he, _, _, _, _, hcl⟩ := own_cells (hpd.below hW).q.own (by omega)
          simp only [Value.slice.injEq, Option.some.injEq, Addr.mk.injEq, true_and, and_true] at he
          obtain ⟨rfl, rfl⟩ := he
          exact hcl i (by omega)
        have HQC : Hid (∀ (W : World), Below wr.heap.size wr W → W.cell? ⟨Q, 0, none⟩ = some (.slice (some ⟨g, 0, none⟩) n c) ∧ W.cell? ⟨Q, 1, none⟩ = some (.func (.func 87) #[] #[])) := by
          intro W hW
          have := (hpd.below hW).q.hh
          rw [hmn] at this
          exact ⟨cell_of this rfl, cell_of this rfl⟩
        have HXC : Hid (∀ (W : World), Below wr.heap.size wr W → W.cell? ⟨X, 0, none⟩ = some (.int .u64 x0) ∧ W.cell? ⟨X, 1, none⟩ = some (.int .i64 x1)) := by
          intro W hW
          have := (hpd.below hW).hX
          exact ⟨cell_of this rfl, cell_of this rfl⟩
        have HRC : Hid (∀ (W : World), Below wr.heap.size wr W → W.cell? ⟨w.heap.size, 0, none⟩ = some (.int .u64 0) ∧ W.cell? ⟨w.heap.size, 1, none⟩ = some (.int .i64 0) ∧ W.frozen? ⟨w.heap.size, 0, none⟩ = false ∧ W.frozen? ⟨w.heap.size, 1, none⟩ = false ∧ W.cell? ⟨w.heap.size + 1, 0, none⟩ = some (.int .u64 y0) ∧ W.cell? ⟨w.heap.size + 1, 1, none⟩ = some (.int .i64 y1)) := by
          intro W hW
          have h1 := (hpd.below hW).hR
          have h2 := (hpd.below hW).hF
          rw [← HY.out] at h2
          exact ⟨cell_of h1 rfl, cell_of h1 rfl, free_of h1 0, free_of h1 1, cell_of h2 rfl, cell_of h2 rfl⟩
        have hgR := hpd.gR
        have hgF := hpd.gF
        have hgX := hpd.gX
        clear hpd hdn hmn HPD HDN
        obtain ⟨k1, hk1⟩ : ∃ k1 : Nat, k1 = 2 * a + 1 := ⟨_, rfl⟩
        have hki : 2 * (a : Int) + 1 = (k1 : Int) := by omega
        have HK1 := hide hk1
        have hk1b : k1 ≤ 20000001 := by omega
        clear hk1
        go_wp2_with fail
        go_cut [64] from 39 to 64 (fun t wx => ∃ b : Bool, t = .bool b ∧ (b = true → k1 + 1 < n ∧ lb m (k1 + 1) < lb m k1) ∧ (b = false → k1 + 1 < n → lb m k1 ≤ lb m (k1 + 1)) ∧ Below wr.heap.size wr wx)
        case first =>
          by_cases hA : k1 + 1 < n
          · have hg : decide ((k1 : Int) + 1 < (n : Int)) = true := decide_eq_true (by omega)
            have hAi : (k1 : Int) + 1 < (n : Int) := by omega
            have hBi : (k1 : Int) < (n : Int) := by omega
            obtain ⟨u0, hu0⟩ : ∃ z, z = (sAt m k1).1 := ⟨_, rfl⟩
            obtain ⟨u1, hu1⟩ : ∃ z, z = (sAt m k1).2 := ⟨_, rfl⟩
            obtain ⟨v0, hv0⟩ : ∃ z, z = (sAt m (k1 + 1)).1 := ⟨_, rfl⟩
            obtain ⟨v1, hv1⟩ : ∃ z, z = (sAt m (k1 + 1)).2 := ⟨_, rfl⟩
            have z0 : ∀ x : GW wr, x.world.cell? ⟨Q, 0, none⟩ = some (.slice (some ⟨g, 0, none⟩) n c) := fun x => (HQC.out _ x.bel).1
            have z1 : ∀ x : GW wr, x.world.cell? ⟨Q, 1, none⟩ = some (.func (.func 87) #[] #[]) := fun x => (HQC.out _ x.bel).2
            have p0 : ∀ x : GW wr, x.world.cell? ⟨g, k1 * 2, none⟩ = some (.int .u64 u0) := fun x => by rw [hu0]; exact (HCR.out _ x.bel k1 (by omega)).1.1
            have p1 : ∀ x : GW wr, x.world.cell? ⟨g, k1 * 2 + 1, none⟩ = some (.int .i64 u1) := fun x => by rw [hu1]; exact (HCR.out _ x.bel k1 (by omega)).1.2
            have q0 : ∀ x : GW wr, x.world.cell? ⟨g, (k1 + 1) * 2, none⟩ = some (.int .u64 v0) := fun x => by rw [hv0]; exact (HCR.out _ x.bel (k1 + 1) (by omega)).1.1
            have q1 : ∀ x : GW wr, x.world.cell? ⟨g, (k1 + 1) * 2 + 1, none⟩ = some (.int .i64 v1) := fun x => by rw [hv1]; exact (HCR.out _ x.bel (k1 + 1) (by omega)).1.2
            have HAG := hide (fun x : GW wr => gw_of (ahead_any v0 v1 u0 u1 x.world))
            have HUV := hide (And.intro hu0 hv0)
            have HKID : Hid (∀ s, 1 ≤ s → s < n → (s - 1) / 2 = a → s = k1 ∨ s = k1 + 1) := fun s h1 h2 h3 => by have := HK1.out; omega
            clear hu0 hu1 hv0 hv1
            by_cases hx : v0 < u0
            · rw [decide_eq_true hx] at HAG
              have HX2 := hide hx
              clear hx
              refine wp_region_gw (by kernel_rfl) (by kernel_rfl) ?_
              repeat (go_big_quiet_step (first
                | (go_at_call 87; exact HAG.out _)
                | rfl))
              refine wpQuiet_nil ?_
              intro _ hw'
              obtain ⟨y, hw''⟩ := hw'
              subst hw''
              have HBY := hide y.bel
              clear z0 z1 p0 p1 q0 q1 HAG
              go_wp2_with fail
              go_meet
              case rel => exact ⟨true, rfl, fun _ => ⟨hA, (by have e1 := HUV.out.1; have e2 := HUV.out.2; have e3 := HX2.out; unfold lb; rw [← e1, ← e2]; exact e3)⟩, fun h => absurd h (by simp), HBY.out⟩
            · rw [decide_eq_false hx] at HAG
              have HX2 := hide hx
              clear hx
              refine wp_region_gw (by kernel_rfl) (by kernel_rfl) ?_
              repeat (go_big_quiet_step (first
                | (go_at_call 87; exact HAG.out _)
                | rfl))
              refine wpQuiet_nil ?_
              intro _ hw'
              obtain ⟨y, hw''⟩ := hw'
              subst hw''
              have HBY := hide y.bel
              clear z0 z1 p0 p1 q0 q1 HAG
              go_wp2_with fail
              go_meet
              case rel => exact ⟨false, rfl, fun h => absurd h (by simp), fun _ _ => (by have e1 := HUV.out.1; have e2 := HUV.out.2; have e3 := HX2.out; unfold lb; rw [← e1, ← e2]; exact e3), HBY.out⟩
          · have hg : decide ((k1 : Int) + 1 < (n : Int)) = false := decide_eq_false (by omega)
            have hg1 : ¬ (k1 : Int) + 1 < (n : Int) := by omega
            have hg2 : ¬ k1 + 1 < n := hA
            have HKID : Hid (∀ s, 1 ≤ s → s < n → (s - 1) / 2 = a → s = k1) := fun s h1 h2 h3 => by have := HK1.out; omega
            refine wp_region_gw (by kernel_rfl) (by kernel_rfl) ?_
            repeat (go_big_quiet_step (rfl))
            refine wpQuiet_nil ?_
            intro _ hw'
            obtain ⟨y, hw''⟩ := hw'
            subst hw''
            have HBY := hide y.bel
            go_wp2_with fail
            go_meet
            case rel => exact ⟨false, rfl, fun h => absurd h (by simp), fun _ h => absurd h hg2, HBY.out⟩
        case rest =>
          obtain ⟨b, rfl, hbt, hbf, hbx⟩ := hcut
          cases b
          · by_cases hk : k1 < n
            · have hcn := hk
              have hmin : ∀ s, 1 ≤ s → s < n → (s - 1) / 2 = a → lb m k1 ≤ lb m s := fun s h1 h2 h3 => by
                have h4 : s = k1 ∨ s = k1 + 1 := by have := HK1.out; omega
                rcases h4 with rfl | rfl
                · omega
                · have := hbf rfl h2; omega
              clear hbt hbf
              have HMIN := hide hmin
              have hg : decide ((n : Int) ≤ (k1 : Int)) = false := decide_eq_false (by omega)
              have hg1 : ¬ (n : Int) ≤ (k1 : Int) := by omega
              have hg2 : ¬ n ≤ k1 := by omega
              obtain ⟨u0, hu0⟩ : ∃ z, z = (sAt m k1).1 := ⟨_, rfl⟩
              obtain ⟨u1, hu1⟩ : ∃ z, z = (sAt m k1).2 := ⟨_, rfl⟩
              have z0 : ∀ x : GW wc, x.world.cell? ⟨Q, 0, none⟩ = some (.slice (some ⟨g, 0, none⟩) n c) := fun x => (HQC.out _ (below_on hbx x.bel)).1
              have z1 : ∀ x : GW wc, x.world.cell? ⟨Q, 1, none⟩ = some (.func (.func 87) #[] #[]) := fun x => (HQC.out _ (below_on hbx x.bel)).2
              have p0 : ∀ x : GW wc, x.world.cell? ⟨g, k1 * 2, none⟩ = some (.int .u64 u0) := fun x => by rw [hu0]; exact (HCR.out _ (below_on hbx x.bel) k1 hcn).1.1
              have p1 : ∀ x : GW wc, x.world.cell? ⟨g, k1 * 2 + 1, none⟩ = some (.int .i64 u1) := fun x => by rw [hu1]; exact (HCR.out _ (below_on hbx x.bel) k1 hcn).1.2
              have q0 : ∀ x : GW wc, x.world.cell? ⟨X, 0, none⟩ = some (.int .u64 x0) := fun x => (HXC.out _ (below_on hbx x.bel)).1
              have q1 : ∀ x : GW wc, x.world.cell? ⟨X, 1, none⟩ = some (.int .i64 x1) := fun x => (HXC.out _ (below_on hbx x.bel)).2
              have HAG := hide (fun x : GW wc => gw_of (ahead_any u0 u1 x0 x1 x.world))
              have HU := hide (And.intro hu0 hu1)
              have hcha : ¬ a = k1 := by have := HK1.out; omega
              clear hmin hu0 hu1
              by_cases hx : u0 < x0
              · rw [decide_eq_true hx] at HAG
                have HST : Hid (Down (m.set a (sAt m k1)) k1 (x0, x1) l) := by
                  refine down_step HDR.out (by have := HMN.out; omega) (by omega) (by have := HK1.out; omega) (fun s h1 h2 h3 => HMIN.out s h1 (by have := HMN.out; omega) h3) ?_
                  show (sAt m k1).1 < x0
                  rw [← HU.out.1]; exact hx
                clear hx
                go_wp2_with fail
                refine wp_region_gw (by kernel_rfl) (by kernel_rfl) ?_
                repeat (go_big_quiet_step (first
                  | (go_at_call 87; exact HAG.out _)
                  | rfl))
                refine wpQuiet_nil ?_
                intro _ hw'
                obtain ⟨y, hw''⟩ := hw'
                subst hw''
                have hby := below_on hbx y.bel
                have HBY := hide hby
                obtain ⟨⟨a0', a1'⟩, af0, af1⟩ := HCR.out _ hby a han
                obtain ⟨t0, t1⟩ := HQC.out _ hby
                obtain ⟨r0, r1, rf0, rf1, r2, r3⟩ := HRC.out _ hby
                obtain ⟨xx0, xx1⟩ := HXC.out _ hby
                have l0 := p0 y
                have l1 := p1 y
                clear z0 z1 p0 p1 q0 q1 HAG r0 r1 rf0 rf1 r2 r3 xx0 xx1 hby
                go_wp2
                go_region
                all_goals
                  go_wp2
                  refine ⟨⟨m.set a (sAt m k1), k1, rfl, by rw [List.length_set]; exact HMN.out, ?_, HST.out⟩, by simp [RowKit.intOf]; have := HK1.out; omega⟩
                  have hput := ((HPR.out.below HBY.out).put a (sAt m k1)).below (Below.refl _ _).drew
                  rw [← HU.out.1, ← HU.out.2] at hput
                  exact hput
              · rw [decide_eq_false hx] at HAG
                have HNX : Hid (∀ s, 1 ≤ s → s < m.length → (s - 1) / 2 = a → (x0, x1).1 ≤ lb m s) := fun s h1 h2 h3 => by
                  have h4 := HMIN.out s h1 (by have := HMN.out; omega) h3
                  have h5 : u0 = lb m k1 := HU.out.1
                  show x0 ≤ lb m s
                  omega
                clear hx
                go_wp2_with fail
                refine wp_region_gw (by kernel_rfl) (by kernel_rfl) ?_
                repeat (go_big_quiet_step (first
                  | (go_at_call 87; exact HAG.out _)
                  | rfl))
                refine wpQuiet_nil ?_
                intro _ hw'
                obtain ⟨y, hw''⟩ := hw'
                subst hw''
                have hby := below_on hbx y.bel
                have HBY := hide hby
                obtain ⟨⟨a0', a1'⟩, af0, af1⟩ := HCR.out _ hby a han
                obtain ⟨t0, t1⟩ := HQC.out _ hby
                obtain ⟨r0, r1, rf0, rf1, r2, r3⟩ := HRC.out _ hby
                obtain ⟨xx0, xx1⟩ := HXC.out _ hby
                have HEND := hide (pop_end ((HPR.out.below HBY.out).put a (x0, x1)) HDR.out HNX.out)
                rw [← HY.out] at HEND
                clear z0 z1 p0 p1 q0 q1 HAG hby
                go_wp2
                go_region
                all_goals
                  go_wp2
                  exact bodyPost_ret (results_cell_row Try.results91 _ _ w.heap.size 140 _ (0, 0) _ rfl (show (World.drew _).heap[_]? = _ from HEND.out.1) Try.underlying140 rfl (by kernel_rfl)) rfl (pop_drew HEND.out.2)
            · have hg : decide ((n : Int) ≤ (k1 : Int)) = true := decide_eq_true (by omega)
              have hg1 : (n : Int) ≤ (k1 : Int) := by omega
              have hg2 : n ≤ k1 := by omega
              have HNX : Hid (∀ s, 1 ≤ s → s < m.length → (s - 1) / 2 = a → (x0, x1).1 ≤ lb m s) := fun s h1 h2 h3 => absurd h3 (by have := HMN.out; have := HK1.out; omega)
              clear hbt hbf
              go_wp2_with fail
              refine wp_region_gw (by kernel_rfl) (by kernel_rfl) ?_
              repeat (go_big_quiet_step (rfl))
              refine wpQuiet_nil ?_
              intro _ hw'
              obtain ⟨y, hw''⟩ := hw'
              subst hw''
              have hby := below_on hbx y.bel
              have HBY := hide hby
              obtain ⟨⟨a0', a1'⟩, af0, af1⟩ := HCR.out _ hby a han
              obtain ⟨t0, t1⟩ := HQC.out _ hby
              obtain ⟨r0, r1, rf0, rf1, r2, r3⟩ := HRC.out _ hby
              obtain ⟨xx0, xx1⟩ := HXC.out _ hby
              have HEND := hide (pop_end ((HPR.out.below HBY.out).put a (x0, x1)) HDR.out HNX.out)
              rw [← HY.out] at HEND
              clear hby
              go_wp2
              go_region
              all_goals
                go_wp2
                exact bodyPost_ret (results_cell_row Try.results91 _ _ w.heap.size 140 _ (0, 0) _ rfl (show (World.drew _).heap[_]? = _ from HEND.out.1) Try.underlying140 rfl (by kernel_rfl)) rfl (pop_drew HEND.out.2)
          · obtain ⟨hcn1, hlt1⟩ := hbt rfl
            obtain ⟨ch, hche⟩ : ∃ ch : Nat, ch = k1 + 1 := ⟨_, rfl⟩
            have hci : (k1 : Int) + 1 = (ch : Int) := by omega
            have hcn : ch < n := by omega
            have hmin : ∀ s, 1 ≤ s → s < n → (s - 1) / 2 = a → lb m ch ≤ lb m s := fun s h1 h2 h3 => by
              have h4 : s = k1 ∨ s = ch := by have := HK1.out; omega
              rw [hche]
              rcases h4 with rfl | rfl
              · omega
              · rw [hche]; omega
            have HCE := hide hche
            clear hbt hbf hcn1 hlt1 hche
            have HMIN := hide hmin
            have hg : decide ((n : Int) ≤ (ch : Int)) = false := decide_eq_false (by omega)
            have hg1 : ¬ (n : Int) ≤ (ch : Int) := by omega
            have hg2 : ¬ n ≤ ch := by omega
            obtain ⟨u0, hu0⟩ : ∃ z, z = (sAt m ch).1 := ⟨_, rfl⟩
            obtain ⟨u1, hu1⟩ : ∃ z, z = (sAt m ch).2 := ⟨_, rfl⟩
            have z0 : ∀ x : GW wc, x.world.cell? ⟨Q, 0, none⟩ = some (.slice (some ⟨g, 0, none⟩) n c) := fun x => (HQC.out _ (below_on hbx x.bel)).1
            have z1 : ∀ x : GW wc, x.world.cell? ⟨Q, 1, none⟩ = some (.func (.func 87) #[] #[]) := fun x => (HQC.out _ (below_on hbx x.bel)).2
            have p0 : ∀ x : GW wc, x.world.cell? ⟨g, ch * 2, none⟩ = some (.int .u64 u0) := fun x => by rw [hu0]; exact (HCR.out _ (below_on hbx x.bel) ch hcn).1.1
            have p1 : ∀ x : GW wc, x.world.cell? ⟨g, ch * 2 + 1, none⟩ = some (.int .i64 u1) := fun x => by rw [hu1]; exact (HCR.out _ (below_on hbx x.bel) ch hcn).1.2
            have q0 : ∀ x : GW wc, x.world.cell? ⟨X, 0, none⟩ = some (.int .u64 x0) := fun x => (HXC.out _ (below_on hbx x.bel)).1
            have q1 : ∀ x : GW wc, x.world.cell? ⟨X, 1, none⟩ = some (.int .i64 x1) := fun x => (HXC.out _ (below_on hbx x.bel)).2
            have HAG := hide (fun x : GW wc => gw_of (ahead_any u0 u1 x0 x1 x.world))
            have HU := hide (And.intro hu0 hu1)
            have hcha : ¬ a = ch := by have := HK1.out; have := HCE.out; omega
            clear hmin hu0 hu1
            by_cases hx : u0 < x0
            · rw [decide_eq_true hx] at HAG
              have HST : Hid (Down (m.set a (sAt m ch)) ch (x0, x1) l) := by
                refine down_step HDR.out (by have := HMN.out; omega) (by omega) (by have := HK1.out; have := HCE.out; omega) (fun s h1 h2 h3 => HMIN.out s h1 (by have := HMN.out; omega) h3) ?_
                show (sAt m ch).1 < x0
                rw [← HU.out.1]; exact hx
              clear hx
              go_wp2_with fail
              refine wp_region_gw (by kernel_rfl) (by kernel_rfl) ?_
              repeat (go_big_quiet_step (first
                | (go_at_call 87; exact HAG.out _)
                | rfl))
              refine wpQuiet_nil ?_
              intro _ hw'
              obtain ⟨y, hw''⟩ := hw'
              subst hw''
              have hby := below_on hbx y.bel
              have HBY := hide hby
              obtain ⟨⟨a0', a1'⟩, af0, af1⟩ := HCR.out _ hby a han
              obtain ⟨t0, t1⟩ := HQC.out _ hby
              obtain ⟨r0, r1, rf0, rf1, r2, r3⟩ := HRC.out _ hby
              obtain ⟨xx0, xx1⟩ := HXC.out _ hby
              have l0 := p0 y
              have l1 := p1 y
              clear z0 z1 p0 p1 q0 q1 HAG r0 r1 rf0 rf1 r2 r3 xx0 xx1 hby
              go_wp2
              go_region
              all_goals
                go_wp2
                refine ⟨⟨m.set a (sAt m ch), ch, rfl, by rw [List.length_set]; exact HMN.out, ?_, HST.out⟩, by simp [RowKit.intOf]; have := HK1.out; have := HCE.out; omega⟩
                have hput := ((HPR.out.below HBY.out).put a (sAt m ch)).below (Below.refl _ _).drew
                rw [← HU.out.1, ← HU.out.2] at hput
                exact hput
            · rw [decide_eq_false hx] at HAG
              have HNX : Hid (∀ s, 1 ≤ s → s < m.length → (s - 1) / 2 = a → (x0, x1).1 ≤ lb m s) := fun s h1 h2 h3 => by
                have h4 := HMIN.out s h1 (by have := HMN.out; omega) h3
                have h5 : u0 = lb m ch := HU.out.1
                show x0 ≤ lb m s
                omega
              clear hx
              go_wp2_with fail
              refine wp_region_gw (by kernel_rfl) (by kernel_rfl) ?_
              repeat (go_big_quiet_step (first
                | (go_at_call 87; exact HAG.out _)
                | rfl))
              refine wpQuiet_nil ?_
              intro _ hw'
              obtain ⟨y, hw''⟩ := hw'
              subst hw''
              have hby := below_on hbx y.bel
              have HBY := hide hby
              obtain ⟨⟨a0', a1'⟩, af0, af1⟩ := HCR.out _ hby a han
              obtain ⟨t0, t1⟩ := HQC.out _ hby
              obtain ⟨r0, r1, rf0, rf1, r2, r3⟩ := HRC.out _ hby
              obtain ⟨xx0, xx1⟩ := HXC.out _ hby
              have HEND := hide (pop_end ((HPR.out.below HBY.out).put a (x0, x1)) HDR.out HNX.out)
              rw [← HY.out] at HEND
              clear z0 z1 p0 p1 q0 q1 HAG hby
              go_wp2
              go_region
              all_goals
                go_wp2
                exact bodyPost_ret (results_cell_row Try.results91 _ _ w.heap.size 140 _ (0, 0) _ rfl (show (World.drew _).heap[_]? = _ from HEND.out.1) Try.underlying140 rfl (by kernel_rfl)) rfl (pop_drew HEND.out.2)
end Go.Proofs.Ytpfalalmfoiloaa
