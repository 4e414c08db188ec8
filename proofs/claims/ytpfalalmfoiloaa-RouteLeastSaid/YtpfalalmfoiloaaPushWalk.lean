/- push: the walk. -/
import Derived.Test.YtpfalalmfoiloaaPush
import Derived.Test.YtpfalalmfoiloaaLists
import Derived.Deep.CutRange
import Derived.Deep.RegionLaw
namespace Go.Proofs.Ytpfalalmfoiloaa
open Go.RowKit Go.Lib
set_option linter.unusedVariables false

set_option maxRecDepth 100000 in
set_option maxHeartbeats 8000000 in
theorem push_any (w : World) (Q B : Nat) (v : Value) (l : List Pr) (x : Pr) (h : QIs w Q B v l) (hp : Hp l) (hl : l.length ≤ 10000000) :
    Calls Try.prog 89 #[.pointer (some ⟨Q, 0, none⟩), .agg #[.int .u64 x.1, .int .i64 x.2]] w (PushPost w Q B v l x) := by
  obtain ⟨i0, hi, hz0, hz1, hz2⟩ := info_parts Try.info140
  obtain ⟨x0, x1⟩ := x
  have H := hide h
  have HP := hide hp
  have hQw := lt_of_heap h.hh
  have hle := h.le
  have c0 : (w.alloc (.cells #[.int .u64 x0, .int .i64 x1] 140)).cell? ⟨Q, 0, none⟩ = some v := (below_cell (below_alloc (Below.refl _ _) _) hQw).trans (cell_of h.hh rfl)
  have hbx : (w.alloc (.cells #[.int .u64 x0, .int .i64 x1] 140)).heap[w.heap.size]? = some (.cells #[.int .u64 x0, .int .i64 x1] 140 (0, 0)) := heap_new _ _
  have b0 := cell_of hbx (i := 0) rfl
  have b1 := cell_of hbx (i := 1) rfl
  have HOA := hide (own_chg (S := fun _ => False) h.own ((Chg.refl _ w).alloc (.cells #[.int .u64 x0, .int .i64 x1] 140)) (fun _ _ h => h))
  have hnq : ¬ Q = w.heap.size := by omega
  have hnq1 : ¬ Q = w.heap.size + 1 := by omega
  clear h hp hbx
  go_enter Try.func89, Try.ntmps89
  go_wp2_with fail
  go_cut [] from 6 to 15 (fun wx => ∃ g cap, PW w wx v Q B w.heap.size g cap (l ++ [(x0, x1)]) l l.length (x0, x1))
  case first =>
    refine wp_region_noPanic ?_
    go_region_law ((refine step_append_lies _ (by rfl) _ _ _ (by rfl) B 140 i0 (.agg #[.int .u64 0, .int .i64 0]) 2 16 Try.underlying142 hi hz0 hz1 hz2 rfl (by omega) v l.length (qCells l) (by rfl) ((HOA.out.alloc _).drew) ⟨w.heap.size + 1, 0, none⟩ 1 1 [.int .u64 x0, .int .i64 x1] (by rfl) (by rfl) (news_at w _ _ _ _) (by simp [Value.oneCell']) (by omega) (by unfold maxLen; omega) (by omega) (by simp; omega) (w.heap.size + 2) (by simp) ?_; intro g cap w2 hown hgrow hat hlt; obtain ⟨z0, zf, hpw⟩ := push_made (x := (x0, x1)) H.out HP.out hown hgrow hat; have HPW := hide hpw; clear hown hgrow hat hpw))
    all_goals
      refine NoPanic.normal ?_
      go_wp2_with fail
      go_meet
      case rel => exact ⟨g, cap, HPW.out⟩
  case rest =>
    obtain ⟨g, cap, hpw⟩ := hcut
    clear c0 b0 b1 HOA
    have HPW := hide hpw
    have c0 := cell_of hpw.q.hh (i := 0) rfl
    have hgb := hpw.gB
    have hlen : (l ++ [(x0, x1)]).length = l.length + 1 := by simp
    rw [hlen] at c0
    have hcap : l.length + 1 ≤ cap ∧ cap ≤ 9223372036854775807 := by
      obtain ⟨g', c', he, _, _, h4, h5, _⟩ := own_cells hpw.q.own (by simp)
      simp only [Value.slice.injEq] at he
      obtain ⟨_, _, rfl⟩ := he
      rw [hlen] at h4
      exact ⟨h4, h5⟩
    obtain ⟨n, hn⟩ : ∃ n, n = l.length + 1 := ⟨_, rfl⟩
    rw [← hn] at c0 hcap
    have HN := hide hn
    clear hpw hlen hn
    go_wp2
    go_loopw [4] (fun t wr => ∃ (m : List Pr) (a : Nat), t = .int .i64 a ∧ PW w wr v Q B w.heap.size g cap m l a (x0, x1)) (fun t _ => (RowKit.intOf t).toNat)
    case atStart => exact ⟨_, l.length, by have := HN.out; congr 1; omega, HPW.out⟩
    case round =>
      obtain ⟨m, a, rfl, hpw⟩ := hrel
      have HPR := hide hpw
      have hml : m.length = n := by rw [hpw.up.len, HN.out]
      have hal : a < n := by have := hpw.up.lt; omega
      have d0 := cell_of hpw.q.hh (i := 0) rfl
      have d1 := cell_of hpw.q.hh (i := 1) rfl
      have e0 := cell_of hpw.box (i := 0) rfl
      have e1 := cell_of hpw.box (i := 1) rfl
      rw [hml] at d0
      obtain ⟨g', c', he, _, hgw, _, _, hcl⟩ := own_cells hpw.q.own (by omega)
      simp only [Value.slice.injEq, Option.some.injEq, Addr.mk.injEq, true_and, and_true] at he
      obtain ⟨rfl, rfl⟩ := he
      rw [hml] at hcl
      have HCL := hide hcl
      have hXg := hpw.ne
      have hXQ := hpw.neQ
      have hgQ : ¬ g = Q := by have := hpw.q.lt; omega
      have hQr := lt_of_heap hpw.q.hh
      have hXr := lt_of_heap hpw.box
      have HML := hide hml
      clear hpw hcl HPW c0 hml
      rcases Nat.eq_zero_or_pos a with ha0 | ha0
      · subst ha0
        obtain ⟨⟨s0, s1⟩, f0, f1⟩ := HCL.out 0 (by omega)
        have HEND := hide (push_end HPR.out (fun h => absurd h (by omega)))
        go_wp2
        go_region
        all_goals
          go_wp2
          first | go_end0 | refine bodyPost_ret (results_none rfl _ _ _) rfl ?_
          exact HEND.out
      · obtain ⟨p, hp⟩ : ∃ p : Nat, p = (a - 1) / 2 := ⟨_, rfl⟩
        have hpi : ((a : Int) - 1) / 2 = (p : Int) := by omega
        have hpa : p < a := by omega
        obtain ⟨⟨s0, s1⟩, f0, f1⟩ := HCL.out p (by omega)
        obtain ⟨lp0, hlp0⟩ : ∃ z, z = (sAt m p).1 := ⟨_, rfl⟩
        obtain ⟨lp1, hlp1⟩ : ∃ z, z = (sAt m p).2 := ⟨_, rfl⟩
        rw [← hlp0] at s0
        rw [← hlp1] at s1
        have z0 : ∀ x : GW wr, x.world.cell? ⟨Q, 0, none⟩ = some (.slice (some ⟨g, 0, none⟩) n cap) := fun x => (below_cell x.bel hQr).trans d0
        have z1 : ∀ x : GW wr, x.world.cell? ⟨Q, 1, none⟩ = some (fnv 87) := fun x => (below_cell x.bel hQr).trans d1
        have y0 : ∀ x : GW wr, x.world.cell? ⟨w.heap.size, 0, none⟩ = some (.int .u64 x0) := fun x => (below_cell x.bel hXr).trans e0
        have y1 : ∀ x : GW wr, x.world.cell? ⟨w.heap.size, 1, none⟩ = some (.int .i64 x1) := fun x => (below_cell x.bel hXr).trans e1
        have p0 : ∀ x : GW wr, x.world.cell? ⟨g, p * 2, none⟩ = some (.int .u64 lp0) := fun x => (below_cell x.bel hgw).trans s0
        have p1 : ∀ x : GW wr, x.world.cell? ⟨g, p * 2 + 1, none⟩ = some (.int .i64 lp1) := fun x => (below_cell x.bel hgw).trans s1
        unfold fnv at z1
        have HAG := hide (fun x : GW wr => gw_of (ahead_any x0 x1 lp0 lp1 x.world))
        have hpn : p < n := by omega
        have HLP := hide (And.intro hlp0 hlp1)
        have HPP := hide hp
        clear s0 s1 f0 f1 hlp0 hlp1 hp
        by_cases hx : x0 < lp0
        · rw [decide_eq_true hx] at HAG
          have HST : Hid (Up (m.set a (sAt m p)) p (x0, x1) l) := by
            have := up_step HPR.out.up ha0 (by unfold lb; rw [← HPP.out, ← HLP.out.1]; exact hx)
            rw [← HPP.out] at this
            exact this
          have hne : ¬ p = a := by omega
          clear hx
          go_wp2_with fail
          refine wp_region_gw (by kernel_rfl) (by kernel_rfl) ?_
          repeat (go_big_quiet_step (first
            | (go_at_call 87; exact HAG.out _)
            | rfl))
          refine wpQuiet_nil ?_
          intro _ hw'
          obtain ⟨y, hw''⟩ := hw'
          subst hw''
          have t0 := z0 y
          have r0 := y0 y
          have r1 := y1 y
          have l0 := p0 y
          have l1 := p1 y
          have HPY := hide (HPR.out.below y.bel)
          obtain ⟨g'', c'', he, _, _, _, _, hcl⟩ := own_cells HPY.out.q.own (by have := HML.out; omega)
          simp only [Value.slice.injEq, Option.some.injEq, Addr.mk.injEq, true_and, and_true] at he
          obtain ⟨rfl, rfl⟩ := he
          obtain ⟨⟨s0, s1⟩, f0, f1⟩ := hcl a (by have := HML.out; omega)
          clear z0 z1 y0 y1 p0 p1 hcl HAG d0 d1 e0 e1
          go_wp2
          go_region
          all_goals
            go_wp2
            refine ⟨⟨m.set a (sAt m p), p, rfl, ?_⟩, by simp [RowKit.intOf]; omega⟩
            have hput := (HPY.out.put HST.out).below (Below.refl _ _).drew
            rw [← HLP.out.1, ← HLP.out.2] at hput
            exact hput
        · rw [decide_eq_false hx] at HAG
          have HNX : Hid (¬ (x0, x1).1 < lb m ((a - 1) / 2)) := by unfold lb; rw [← HPP.out, ← HLP.out.1]; exact hx
          clear hx
          go_wp2_with fail
          refine wp_region_gw (by kernel_rfl) (by kernel_rfl) ?_
          repeat (go_big_quiet_step (first
            | (go_at_call 87; exact HAG.out _)
            | rfl))
          refine wpQuiet_nil ?_
          intro _ hw'
          obtain ⟨y, hw''⟩ := hw'
          subst hw''
          have t0 := z0 y
          have r0 := y0 y
          have r1 := y1 y
          have l0 := p0 y
          have l1 := p1 y
          have HPY := hide (HPR.out.below y.bel)
          obtain ⟨g'', c'', he, _, _, _, _, hcl⟩ := own_cells HPY.out.q.own (by have := HML.out; omega)
          simp only [Value.slice.injEq, Option.some.injEq, Addr.mk.injEq, true_and, and_true] at he
          obtain ⟨rfl, rfl⟩ := he
          obtain ⟨⟨s0, s1⟩, f0, f1⟩ := hcl a (by have := HML.out; omega)
          clear z0 z1 y0 y1 p0 p1 hcl HAG d0 d1 e0 e1
          have HEND := hide (push_end HPY.out (fun _ => by have := HNX.out; show ¬ x0 < _; omega))
          go_wp2
          go_region
          all_goals
            go_wp2
            first | go_end0 | refine bodyPost_ret (results_none rfl _ _ _) rfl ?_
            exact HEND.out
end Go.Proofs.Ytpfalalmfoiloaa
