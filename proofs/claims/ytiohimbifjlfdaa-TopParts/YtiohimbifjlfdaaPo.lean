/- pop of the queue of numbers. -/
import Derived.Test.YtiohimbifjlfdaaQi
namespace Go.Proofs.Ytiohimbifjlfdaa
open Go.RowKit Go.Lib
set_option linter.unusedVariables false
set_option linter.unusedSimpArgs false
/-- What a pop has made. -/
def PopPost (w : World) (Q B : Nat) (v : Value) (l : List Int) (e : Ending) (w' : World) : Prop :=
  e = .returned (.int .i64 (at_ l 0)) ∧ ∃ v' l', IQ w' Q B v' l' ∧ Hp l' ∧ l.length = l'.length + 1 ∧ l.Perm (at_ l 0 :: l') ∧ Chg (QT w Q v) w w' ∧ ∀ k, v'.ownBlock = some k → QT w Q v k
/-- A pop under way. -/
structure PD (w wr : World) (v : Value) (Q B g c : Nat) (m : List Int) : Prop where
  q : IQ wr Q B (.slice (some ⟨g, 0, none⟩) m.length c) m
  chg : Chg (QT w Q v) w wr
  gB : B ≤ g
  gT : QT w Q v g
theorem PD.below {w wr w' : World} {v : Value} {Q B g c : Nat} {m : List Int} (h : PD w wr v Q B g c m) (hb : Below wr.heap.size wr w') : PD w w' v Q B g c m :=
  ⟨h.q.below hb, h.chg.trans (Chg.of_below hb), h.gB, h.gT⟩
theorem PD.put {w wr : World} {v : Value} {Q B g c : Nat} {m : List Int} (h : PD w wr v Q B g c m) (a : Nat) (z : Int) : PD w (wr.setCell ⟨g, a, none⟩ (.int .i64 z)) v Q B g c (m.set a z) :=
  ⟨h.q.put h.gB a z, h.chg.setCell (p := ⟨g, a, none⟩) h.gT _, h.gB, h.gT⟩
theorem pop_end {w wr : World} {v : Value} {Q B g c a : Nat} {m l : List Int} {x : Int} (h : PD w wr v Q B g c (m.set a x)) (hd : Down m a x l) (hx : ∀ s, 1 ≤ s → s < m.length → (s - 1) / 2 = a → x ≤ lb m s) :
    PopPost w Q B v l (.returned (.int .i64 (at_ l 0))) wr := by
  obtain ⟨e1, e2, e3⟩ := down_end hd hx
  exact ⟨rfl, _, _, h.q, e1, e2, e3, h.chg, fun k hk => by simp [Value.ownBlock] at hk; exact hk ▸ h.gT⟩
theorem pop_one {w wr : World} {v : Value} {Q B g c : Nat} {l : List Int} (h : PD w wr v Q B g c []) (hl : l.length = 1) :
    PopPost w Q B v l (.returned (.int .i64 (at_ l 0))) wr := by
  refine ⟨rfl, _, [], h.q, fun i _ h => by simp at h, by simpa using hl, ?_, h.chg, fun k hk => by simp [Value.ownBlock] at hk; exact hk ▸ h.gT⟩
  match l, hl with
  | [y], _ => exact List.Perm.refl _
theorem pd_made {w wy : World} {Q B g c n : Nat} {l : List Int} (h : IQ w Q B (.slice (some ⟨g, 0, none⟩) l.length c) l) (hn : l.length = n + 1) (hy : Below w.heap.size w wy) (hgB : B ≤ g) :
    PD w (wy.setCell ⟨Q, 0, none⟩ (.slice (some ⟨g, 0, none⟩) n c)) (.slice (some ⟨g, 0, none⟩) l.length c) Q B g c (l.take n) := by
  have hb := h.below hy
  have hlt := h.lt
  have hlen : (l.take n).length = n := by rw [List.length_take]; omega
  have ne : ∀ k, k ≠ Q → (wy.setCell ⟨Q, 0, none⟩ (.slice (some ⟨g, 0, none⟩) n c)).heap[k]? = wy.heap[k]? := fun k hk => Below.heap_setCell _ _ _ _ hk
  refine ⟨⟨?_, ?_, hlt, by simpa [World.setCell] using hb.le⟩, (Chg.of_below hy).setCell (p := ⟨Q, 0, none⟩) (.inl rfl) _, hgB, .inr (.inl rfl)⟩
  · rw [heap_set hb.hh, hlen]; simp
  · rw [hlen]
    have o2 := own_chg (S := fun k => k = Q) hb.own (w' := wy.setCell ⟨Q, 0, none⟩ (.slice (some ⟨g, 0, none⟩) n c)) ⟨rfl, rfl, rfl, by simp [World.setCell], fun k _ hk => ne k hk⟩ (fun k hk => by simp [Value.ownBlock] at hk; omega)
    rw [hn] at o2
    have e : ivs l = ivs (l.take n) ++ ivs (l.drop n) := by
      unfold ivs
      rw [← List.map_append, List.take_append_drop]
    rw [e] at o2
    exact ownsRow_pop (by rw [ivs_length, hlen]; omega) o2
set_option maxRecDepth 100000 in
set_option maxHeartbeats 8000000 in
theorem pop_any (w : World) (Q B : Nat) (v : Value) (l : List Int) (n : Nat) (h : IQ w Q B v l) (hp : Hp l) (hn : l.length = n + 1) (hl : n ≤ 10000000) :
    Calls Try.prog 47 #[.pointer (some ⟨Q, 0, none⟩)] w (PopPost w Q B v l) := by
  have H := hide h
  have HP := hide hp
  have hQw := lt_of_heap h.hh
  have hle := h.le
  obtain ⟨g, c, rfl, hgB, hgw, hnc, hcm, hcl⟩ := own_cells h.own (by omega)
  rw [hn] at hnc
  have c0 : w.cell? ⟨Q, 0, none⟩ = some (.slice (some ⟨g, 0, none⟩) (n + 1) c) := by rw [← hn]; exact cell_of h.hh rfl
  obtain ⟨s0, _⟩ := hcl 0 (by omega)
  obtain ⟨s1, _⟩ := hcl n (by omega)
  obtain ⟨y0, hy0⟩ : ∃ z, z = at_ l 0 := ⟨_, rfl⟩
  obtain ⟨x0, hx0⟩ : ∃ z, z = at_ l n := ⟨_, rfl⟩
  rw [← hy0] at s0
  rw [← hx0] at s1
  have HY := hide hy0
  have HX := hide hx0
  have HN := hide hn
  have z0 := gw_cell c0
  have z1 := gw_cell s0
  have hgQ : ¬ g = Q := by have := h.lt; omega
  have fq := hide (fun (y : GW w) => free_of (h.below y.bel).hh 0)
  have hnc0 : (0 : Int) < c := by omega
  have hncn : (n : Int) < c := by omega
  have hnc1 : (n : Int) ≤ c := by omega
  clear h hp hcl hn hy0 hx0
  go_enter Try.func47, Try.ntmps47
  go_upto_region 1 with fail
  refine wp_region_gw (by kernel_rfl) (by kernel_rfl) ?_
  repeat (go_big_quiet_step (rfl))
  refine wpQuiet_nil ?_
  intro _ hw'
  obtain ⟨y, hw''⟩ := hw'
  subst hw''
  have d0 := gw_cell c0 y
  have d1 := gw_cell s1 y
  have f0 := fq.out y
  have HPD := hide (pd_made H.out HN.out y.bel hgB)
  clear z0 z1 c0 s0 s1 fq
  generalize y.world = wy at d0 d1 f0 HPD ⊢
  go_wp2
  generalize (wy.setCell ⟨Q, 0, none⟩ (.slice (some ⟨g, 0, none⟩) n c)) = w2 at HPD ⊢
  clear d0 d1 f0
  rcases Nat.eq_zero_or_pos n with hn0 | hn0
  · subst hn0
    rw [List.take_zero] at HPD
    have HE := hide (fun k => pop_one (l := l) (HPD.out.below (below_drewN (Below.refl _ _) k)) (by have := HN.out; omega))
    rw [← HY.out] at HE
    refine wp_loop_rounds 1 ?_
    rw [rounds_succ]
    go_wp2
    go_quiet (fail)
    go_wp2
    go_quiet (fail)
    go_wp2
    go_ret
    exact HE.out _
  · have HDN := hide (down_start l n HN.out hn0 HP.out)
    rw [← HX.out] at HDN
    have HLT : Hid ((l.take n).length = n) := by show (l.take n).length = n; rw [List.length_take]; have := HN.out; omega
    have HNN := hide hl
    go_loopw [6] (fun t wr => ∃ (m : List Int) (a : Nat), t = .int .i64 a ∧ m.length = n ∧ PD w wr (.slice (some ⟨g, 0, none⟩) l.length c) Q B g c m ∧ Down m a x0 l) (fun t _ => n - (RowKit.intOf t).toNat)
    case atStart => exact ⟨l.take n, 0, rfl, HLT.out, HPD.out, HDN.out⟩
    case round =>
      obtain ⟨m, a, rfl, hmn, hpd, hdn⟩ := hrel
      have HPR := hide hpd
      have HDR := hide hdn
      have HMN := hide hmn
      have han : a < n := by have := hdn.lt; omega
      have hanc : (a : Int) < c := by omega
      have hgr : g < wr.heap.size := by
        obtain ⟨g', c', he, _, hgw', _⟩ := own_cells hpd.q.own (by omega)
        simp only [Value.slice.injEq, Option.some.injEq, Addr.mk.injEq, true_and, and_true] at he
        obtain ⟨rfl, rfl⟩ := he
        exact hgw'
      have HCR : Hid (∀ (W : World), Below wr.heap.size wr W → ∀ i, i < n → W.cell? ⟨g, i, none⟩ = some (.int .i64 (at_ m i)) ∧ W.frozen? ⟨g, i, none⟩ = false) := by
        intro W hW i hi
        obtain ⟨g', c', he, _, _, _, _, hcl⟩ := own_cells (hpd.below hW).q.own (by omega)
        simp only [Value.slice.injEq, Option.some.injEq, Addr.mk.injEq, true_and, and_true] at he
        obtain ⟨rfl, rfl⟩ := he
        exact hcl i (by omega)
      have HQC : Hid (∀ (W : World), Below wr.heap.size wr W → W.cell? ⟨Q, 0, none⟩ = some (.slice (some ⟨g, 0, none⟩) n c) ∧ W.cell? ⟨Q, 1, none⟩ = some (.func (.func 44) #[] #[])) := by
        intro W hW
        have := (hpd.below hW).q.hh
        rw [hmn] at this
        exact ⟨cell_of this rfl, cell_of this rfl⟩
      clear hpd hdn hmn HPD HDN
      obtain ⟨k1, hk1⟩ : ∃ k1 : Nat, k1 = 2 * a + 1 := ⟨_, rfl⟩
      have hki : 2 * (a : Int) + 1 = (k1 : Int) := by omega
      have HK1 := hide hk1
      have hk1b : k1 ≤ 20000001 := by omega
      clear hk1
      go_wp2_with fail
      go_cut [64] from 39 to 64 (fun t wx => ∃ b : Bool, t = .bool b ∧ (b = true → k1 + 1 < n ∧ lb m (k1 + 1) < lb m k1) ∧ (b = false → k1 + 1 < n → lb m k1 ≤ lb m (k1 + 1)) ∧ Below wr.heap.size wr wx)
      case first =>
        by_cases hA : k1 + 1 < n
        · have hg : decide ((k1 : Int) + 1 < (n : Int)) = true := decide_eq_true (by omega)
          have hAi : (k1 : Int) + 1 < (n : Int) := by omega
          have hBi : (k1 : Int) < (n : Int) := by omega
          obtain ⟨u0, hu0⟩ : ∃ z, z = at_ m k1 := ⟨_, rfl⟩
          obtain ⟨v0, hv0⟩ : ∃ z, z = at_ m (k1 + 1) := ⟨_, rfl⟩
          have z0 : ∀ x : GW wr, x.world.cell? ⟨Q, 0, none⟩ = some (.slice (some ⟨g, 0, none⟩) n c) := fun x => (HQC.out _ x.bel).1
          have z1 : ∀ x : GW wr, x.world.cell? ⟨Q, 1, none⟩ = some (.func (.func 44) #[] #[]) := fun x => (HQC.out _ x.bel).2
          have p0 : ∀ x : GW wr, x.world.cell? ⟨g, k1, none⟩ = some (.int .i64 u0) := fun x => by rw [hu0]; exact (HCR.out _ x.bel k1 (by omega)).1
          have q0 : ∀ x : GW wr, x.world.cell? ⟨g, k1 + 1, none⟩ = some (.int .i64 v0) := fun x => by rw [hv0]; exact (HCR.out _ x.bel (k1 + 1) (by omega)).1
          have HAG := hide (fun x : GW wr => gw_same (less_any v0 u0 x.world))
          have HUV := hide (And.intro hu0 hv0)
          clear hu0 hv0
          by_cases hx : v0 < u0
          · rw [decide_eq_true hx] at HAG
            have HX2 := hide hx
            clear hx
            refine wp_region_gw (by kernel_rfl) (by kernel_rfl) ?_
            repeat (go_big_quiet_step (first
              | (go_at_call 44; exact HAG.out _)
              | rfl))
            refine wpQuiet_nil ?_
            intro _ hw'
            obtain ⟨y, hw''⟩ := hw'
            subst hw''
            have HBY := hide y.bel
            clear z0 z1 p0 q0 HAG
            go_wp2_with fail
            go_meet
            case rel => exact ⟨true, rfl, fun _ => ⟨hA, (by have e1 := HUV.out.1; have e2 := HUV.out.2; have e3 := HX2.out; unfold lb; rw [← e1, ← e2]; exact e3)⟩, fun h => absurd h (by simp), HBY.out⟩
          · rw [decide_eq_false hx] at HAG
            have HX2 := hide hx
            clear hx
            refine wp_region_gw (by kernel_rfl) (by kernel_rfl) ?_
            repeat (go_big_quiet_step (first
              | (go_at_call 44; exact HAG.out _)
              | rfl))
            refine wpQuiet_nil ?_
            intro _ hw'
            obtain ⟨y, hw''⟩ := hw'
            subst hw''
            have HBY := hide y.bel
            clear z0 z1 p0 q0 HAG
            go_wp2_with fail
            go_meet
            case rel => exact ⟨false, rfl, fun h => absurd h (by simp), fun _ _ => (by have e1 := HUV.out.1; have e2 := HUV.out.2; have e3 := HX2.out; unfold lb; rw [← e1, ← e2]; omega), HBY.out⟩
        · have hg : decide ((k1 : Int) + 1 < (n : Int)) = false := decide_eq_false (by omega)
          have hg1 : ¬ (k1 : Int) + 1 < (n : Int) := by omega
          have hg2 : ¬ k1 + 1 < n := hA
          refine wp_region_gw (by kernel_rfl) (by kernel_rfl) ?_
          repeat (go_big_quiet_step (rfl))
          refine wpQuiet_nil ?_
          intro _ hw'
          obtain ⟨y, hw''⟩ := hw'
          subst hw''
          have HBY := hide y.bel
          go_wp2_with fail
          go_meet
          case rel => exact ⟨false, rfl, fun h => absurd h (by simp), fun _ h => absurd h hg2, HBY.out⟩
      case rest =>
        obtain ⟨b, rfl, hbt, hbf, hbx⟩ := hcut
        cases b
        · by_cases hk : k1 < n
          · have hcn := hk
            have hmin : ∀ s, 1 ≤ s → s < n → (s - 1) / 2 = a → lb m k1 ≤ lb m s := fun s h1 h2 h3 => by
              have h4 : s = k1 ∨ s = k1 + 1 := by have := HK1.out; omega
              rcases h4 with rfl | rfl
              · omega
              · have := hbf rfl h2; omega
            have HCE := hide (Or.inl (show k1 = 2 * a + 1 from HK1.out) : k1 = 2 * a + 1 ∨ k1 = 2 * a + 2)
            clear hbt hbf
            have HMIN := hide hmin
            have hg : decide ((n : Int) ≤ (k1 : Int)) = false := decide_eq_false (by omega)
            have hg1 : ¬ (n : Int) ≤ (k1 : Int) := by omega
            have hg2 : ¬ n ≤ k1 := by omega
            obtain ⟨u0, hu0⟩ : ∃ z, z = at_ m k1 := ⟨_, rfl⟩
            have z0 : ∀ x : GW wc, x.world.cell? ⟨Q, 0, none⟩ = some (.slice (some ⟨g, 0, none⟩) n c) := fun x => (HQC.out _ (below_on hbx x.bel)).1
            have z1 : ∀ x : GW wc, x.world.cell? ⟨Q, 1, none⟩ = some (.func (.func 44) #[] #[]) := fun x => (HQC.out _ (below_on hbx x.bel)).2
            have p0 : ∀ x : GW wc, x.world.cell? ⟨g, k1, none⟩ = some (.int .i64 u0) := fun x => by rw [hu0]; exact (HCR.out _ (below_on hbx x.bel) k1 hcn).1
            have HAG := hide (fun x : GW wc => gw_same (less_any u0 x0 x.world))
            have HU := hide hu0
            have hcha : ¬ a = k1 := by have := HCE.out; omega
            have hcnc : (k1 : Int) < c := by omega
            clear hmin hu0
            by_cases hx : u0 < x0
            · rw [decide_eq_true hx] at HAG
              have HST : Hid (Down (m.set a (at_ m k1)) k1 x0 l) := by
                refine down_step HDR.out (by have := HMN.out; omega) (by have := HCE.out; omega) (by have := HCE.out; omega) (fun s h1 h2 h3 => HMIN.out s h1 (by have := HMN.out; omega) h3) ?_
                show at_ m k1 < x0
                rw [← HU.out]; exact hx
              clear hx
              go_wp2_with fail
              refine wp_region_gw (by kernel_rfl) (by kernel_rfl) ?_
              repeat (go_big_quiet_step (first
                | (go_at_call 44; exact HAG.out _)
                | rfl))
              refine wpQuiet_nil ?_
              intro _ hw'
              obtain ⟨y, hw''⟩ := hw'
              subst hw''
              have hby := below_on hbx y.bel
              have HBY := hide hby
              obtain ⟨a0', af0⟩ := HCR.out _ hby a han
              obtain ⟨t0, t1⟩ := HQC.out _ hby
              have l0 := p0 y
              clear z0 z1 p0 HAG hby
              go_wp2
              go_region
              all_goals
                go_wp2
                refine ⟨⟨m.set a (at_ m k1), k1, rfl, by rw [List.length_set]; exact HMN.out, ?_, HST.out⟩, by simp [RowKit.intOf]; have := HCE.out; omega⟩
                have hput := ((HPR.out.below HBY.out).put a (at_ m k1)).below (Below.refl _ _).drew
                rw [← HU.out] at hput
                rw [← HU.out]
                exact hput
            · rw [decide_eq_false hx] at HAG
              have HNX : Hid (∀ s, 1 ≤ s → s < m.length → (s - 1) / 2 = a → x0 ≤ lb m s) := fun s h1 h2 h3 => by
                have h4 := HMIN.out s h1 (by have := HMN.out; omega) h3
                have h5 : u0 = lb m k1 := HU.out
                show x0 ≤ lb m s
                omega
              clear hx
              go_wp2_with fail
              refine wp_region_gw (by kernel_rfl) (by kernel_rfl) ?_
              repeat (go_big_quiet_step (first
                | (go_at_call 44; exact HAG.out _)
                | rfl))
              refine wpQuiet_nil ?_
              intro _ hw'
              obtain ⟨y, hw''⟩ := hw'
              subst hw''
              have hby := below_on hbx y.bel
              have HBY := hide hby
              obtain ⟨a0', af0⟩ := HCR.out _ hby a han
              obtain ⟨t0, t1⟩ := HQC.out _ hby
              have HEND := hide (pop_end ((HPR.out.below HBY.out).put a x0) HDR.out HNX.out)
              rw [← HY.out] at HEND
              clear z0 z1 p0 HAG hby
              go_wp2
              go_ret
              exact HEND.out
          · have hg : decide ((n : Int) ≤ (k1 : Int)) = true := decide_eq_true (by omega)
            have hg1 : (n : Int) ≤ (k1 : Int) := by omega
            have hg2 : n ≤ k1 := by omega
            have HNX : Hid (∀ s, 1 ≤ s → s < m.length → (s - 1) / 2 = a → x0 ≤ lb m s) := fun s h1 h2 h3 => absurd h3 (by have := HMN.out; have := HK1.out; omega)
            clear hbt hbf
            go_wp2_with fail
            refine wp_region_gw (by kernel_rfl) (by kernel_rfl) ?_
            repeat (go_big_quiet_step (rfl))
            refine wpQuiet_nil ?_
            intro _ hw'
            obtain ⟨y, hw''⟩ := hw'
            subst hw''
            have hby := below_on hbx y.bel
            have HBY := hide hby
            obtain ⟨a0', af0⟩ := HCR.out _ hby a han
            obtain ⟨t0, t1⟩ := HQC.out _ hby
            have HEND := hide (pop_end ((HPR.out.below HBY.out).put a x0) HDR.out HNX.out)
            rw [← HY.out] at HEND
            clear hby
            go_wp2
            go_ret
            exact HEND.out
        · obtain ⟨hcn1, hlt1⟩ := hbt rfl
          obtain ⟨ch, hche⟩ : ∃ ch : Nat, ch = k1 + 1 := ⟨_, rfl⟩
          have hci : (k1 : Int) + 1 = (ch : Int) := by omega
          have hcn : ch < n := by omega
          have hmin : ∀ s, 1 ≤ s → s < n → (s - 1) / 2 = a → lb m ch ≤ lb m s := fun s h1 h2 h3 => by
            have h4 : s = k1 ∨ s = ch := by have := HK1.out; omega
            rw [hche]
            rcases h4 with rfl | rfl
            · omega
            · rw [hche]; omega
          have HCE : Hid (ch = 2 * a + 1 ∨ ch = 2 * a + 2) := .inr (by have := HK1.out; omega)
          clear hbt hbf hcn1 hlt1 hche
          have HMIN := hide hmin
          have hg : decide ((n : Int) ≤ (ch : Int)) = false := decide_eq_false (by omega)
          have hg1 : ¬ (n : Int) ≤ (ch : Int) := by omega
          have hg2 : ¬ n ≤ ch := by omega
          obtain ⟨u0, hu0⟩ : ∃ z, z = at_ m ch := ⟨_, rfl⟩
          have z0 : ∀ x : GW wc, x.world.cell? ⟨Q, 0, none⟩ = some (.slice (some ⟨g, 0, none⟩) n c) := fun x => (HQC.out _ (below_on hbx x.bel)).1
          have z1 : ∀ x : GW wc, x.world.cell? ⟨Q, 1, none⟩ = some (.func (.func 44) #[] #[]) := fun x => (HQC.out _ (below_on hbx x.bel)).2
          have p0 : ∀ x : GW wc, x.world.cell? ⟨g, ch, none⟩ = some (.int .i64 u0) := fun x => by rw [hu0]; exact (HCR.out _ (below_on hbx x.bel) ch hcn).1
          have HAG := hide (fun x : GW wc => gw_same (less_any u0 x0 x.world))
          have HU := hide hu0
          have hcha : ¬ a = ch := by have := HCE.out; omega
          have hcnc : (ch : Int) < c := by omega
          clear hmin hu0
          by_cases hx : u0 < x0
          · rw [decide_eq_true hx] at HAG
            have HST : Hid (Down (m.set a (at_ m ch)) ch x0 l) := by
              refine down_step HDR.out (by have := HMN.out; omega) (by have := HCE.out; omega) (by have := HCE.out; omega) (fun s h1 h2 h3 => HMIN.out s h1 (by have := HMN.out; omega) h3) ?_
              show at_ m ch < x0
              rw [← HU.out]; exact hx
            clear hx
            go_wp2_with fail
            refine wp_region_gw (by kernel_rfl) (by kernel_rfl) ?_
            repeat (go_big_quiet_step (first
              | (go_at_call 44; exact HAG.out _)
              | rfl))
            refine wpQuiet_nil ?_
            intro _ hw'
            obtain ⟨y, hw''⟩ := hw'
            subst hw''
            have hby := below_on hbx y.bel
            have HBY := hide hby
            obtain ⟨a0', af0⟩ := HCR.out _ hby a han
            obtain ⟨t0, t1⟩ := HQC.out _ hby
            have l0 := p0 y
            clear z0 z1 p0 HAG hby
            go_wp2
            go_region
            all_goals
              go_wp2
              refine ⟨⟨m.set a (at_ m ch), ch, rfl, by rw [List.length_set]; exact HMN.out, ?_, HST.out⟩, by simp [RowKit.intOf]; have := HCE.out; omega⟩
              have hput := ((HPR.out.below HBY.out).put a (at_ m ch)).below (Below.refl _ _).drew
              rw [← HU.out] at hput
              rw [← HU.out]
              exact hput
          · rw [decide_eq_false hx] at HAG
            have HNX : Hid (∀ s, 1 ≤ s → s < m.length → (s - 1) / 2 = a → x0 ≤ lb m s) := fun s h1 h2 h3 => by
              have h4 := HMIN.out s h1 (by have := HMN.out; omega) h3
              have h5 : u0 = lb m ch := HU.out
              show x0 ≤ lb m s
              omega
            clear hx
            go_wp2_with fail
            refine wp_region_gw (by kernel_rfl) (by kernel_rfl) ?_
            repeat (go_big_quiet_step (first
              | (go_at_call 44; exact HAG.out _)
              | rfl))
            refine wpQuiet_nil ?_
            intro _ hw'
            obtain ⟨y, hw''⟩ := hw'
            subst hw''
            have hby := below_on hbx y.bel
            have HBY := hide hby
            obtain ⟨a0', af0⟩ := HCR.out _ hby a han
            obtain ⟨t0, t1⟩ := HQC.out _ hby
            have HEND := hide (pop_end ((HPR.out.below HBY.out).put a x0) HDR.out HNX.out)
            rw [← HY.out] at HEND
            clear z0 z1 p0 HAG hby
            go_wp2
            go_ret
            exact HEND.out
end Go.Proofs.Ytiohimbifjlfdaa
