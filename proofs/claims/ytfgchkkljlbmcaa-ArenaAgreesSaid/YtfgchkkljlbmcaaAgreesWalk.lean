/- ArenaAgrees: the walk. -/
import Derived.Test.YtfgchkkljlbmcaaHeads
namespace Go.Proofs.Ytfgchkkljlbmcaa
open Go.RowKit Go.Lib Go.MuLone

theorem hold_port (w0 w : World) {Y b gc : Nat} {lv : Value} {s : Ast} (h : AIs w Y b gc lv s) (hbel : Below w0.heap.size w0 w) (hb : w0.heap.size ≤ b) (hg : w0.heap.size ≤ gc) (who : Int) :
    Hold w0 (w.alloc (PObj b who false)) Y b gc w.heap.size s who false := by
  have h1 := lt_of_heap h.hb
  have h2 := lt_of_heap h.hc
  refine ⟨⟨lv, h.below ((Below.refl _ _).alloc (Nat.le_refl _) _), fun e => by have := (h.own_ne e).2.2; omega⟩, heap_new _ _, by omega, by omega, hbel.alloc hbel.size _, hb, hg, hbel.size, ?_⟩
  have := h.bY
  omega

theorem add_block (x : Addr) (k : Nat) : (x.add k).block = x.block := by unfold Addr.add; split <;> rfl
/-- The number that the first one has put there. -/
def firstOf (zs : List Int) (k : Nat) : Int := if k = 0 then 0 else nth zs 0 % 1000 + 1
def agSt (f : Int) (c : Int) : Ast := ⟨[f], false, [], c, false, 0, 0, 0⟩
theorem ag_cells (f c : Int) : 0 < (agSt f c).cells.length := Nat.zero_lt_one
theorem ag_log (f c : Int) : ((agSt f c).log.length + 1) * 64 ≤ 140737488355328 := by show (0 + 1) * 64 ≤ _; decide
structure AgIs (w0 w : World) (Y b gc : Nat) (f c : Int) : Prop where
  ex : ∃ lv, AIs w Y b gc lv (agSt f c)
  bel : Below w0.heap.size w0 w
  hb : w0.heap.size ≤ b
  hg : w0.heap.size ≤ gc
theorem AgIs.port {w0 w : World} {Y b gc : Nat} {f c : Int} (h : AgIs w0 w Y b gc f c) (who : Int) : Hold w0 (w.alloc (PObj b who false)) Y b gc w.heap.size (agSt f c) who false := by
  obtain ⟨lv, ha⟩ := h.ex
  exact hold_port w0 w ha h.bel h.hb h.hg who
theorem AgIs.of_hold {w0 w : World} {Y b gc p : Nat} {f c who : Int} {g : Bool} (h : Hold w0 w Y b gc p (agSt f c) who g) : AgIs w0 w Y b gc f c := by
  obtain ⟨lv, ha, _⟩ := h.ex
  exact ⟨⟨lv, ha⟩, h.bel, h.b0, h.g0⟩
theorem ag_made (f c : Int) (m : Acc) : (agSt f c).made 0 m = agSt m.left (c + 1) := rfl

set_option maxRecDepth 100000 in
set_option maxHeartbeats 1000000 in
theorem agrees_walk (ao : Option Addr) (n cp : Nat) (zs : List Int) (w : World) (hz : zs.length = n) (hn : (n : Int) ≤ 17592186044416) (hl : n ≤ cp)
    (hcell : ∀ i, i < n → ∃ x : Addr, ao = some x ∧ x.block < w.heap.size ∧ w.cell? (x.add i) = some (.int .i64 (nth zs i))) :
    Calls Try.prog 9 #[.slice ao n cp] w fun r w' => r = .returned (.bool true) ∧ Below w.heap.size w w' := by
  have HC := hide hcell
  clear hcell
  go_enter Try.func9, Try.ntmps9
  go_wp2_with fail
  refine (heads_any w).mono ?_
  rintro e w1 ⟨rfl, hb1⟩
  have HB1 := hide hb1
  clear hb1
  have HN := hide (new_any 1 false w1 (by decide))
  go_wp2_with fail
  refine HN.out.mono ?_
  rintro e w2 ⟨rfl, ha, hsz, hbel⟩
  have HA : Hid (AgIs w w2 (w1.heap.size + 2) (w1.heap.size + 1) w1.heap.size 0 0) := ⟨⟨_, ha⟩, HB1.out.trans (hbel.mono HB1.out.size), by have := HB1.out.size; omega, HB1.out.size⟩
  clear ha hsz hbel HN HB1
  go_wp2_with (go_at_call 31; refine (no_any _ _).mono ?_; rintro e w' ⟨rfl, hw⟩; subst w')
  generalize hY : w1.heap.size + 2 = Y at HA
  generalize hB : w1.heap.size + 1 = b at HA ⊢
  generalize hG : w1.heap.size = gc at HA
  clear hY hB hG
  go_loopw [5, 6] (fun f t wr => ∃ k : Nat, k ≤ n ∧ t = .int .i64 k ∧ f = .int .u64 (firstOf zs k) ∧ Hid (AgIs w wr Y b gc (firstOf zs k) (2 * k))) (fun _ t _ => n - (RowKit.intOf t).toNat)
  case atStart => exact ⟨0, by omega, rfl, rfl, HA⟩
  case round =>
    obtain ⟨k, hk, rfl, rfl, HI⟩ := hrel
    by_cases hlt : k < n
    · obtain ⟨x, rfl, hxb, hxc⟩ := HC.out k hlt
      have hxc' : wr.cell? (x.add k) = some (.int .i64 (nth zs k)) := (HI.out.bel.cell (p := x.add k) (by rw [add_block]; exact hxb)).trans hxc
      clear hxc
      obtain ⟨q, hq⟩ : ∃ q, nth zs k % 1000 = q := ⟨_, rfl⟩
      have hq0 : 0 ≤ q := by omega
      have hq1 : q < 1000 := by omega
      obtain ⟨F, hFF⟩ : ∃ F, firstOf zs k = F := ⟨_, rfl⟩
      have hcc : 0 ≤ (agSt F (2 * (k : Int))).count := show 0 ≤ 2 * (k : Int) by omega
      have hcc2 : (agSt F (2 * (k : Int))).count < 9223372036854775807 := show 2 * (k : Int) < 9223372036854775807 by omega
      by_cases hk0 : k = 0
      · have hF : F = 0 := by rw [← hFF, hk0]; rfl
        have HF2 := hide (show firstOf zs (k + 1) = q + 1 by rw [← hq, hk0]; rfl)
        have hkb : ((k : Int) == 0) = true := by simp [hk0]
        rw [hFF] at HI
        rw [hFF]
        clear hFF hk0
        have HFF := hide hF
        clear hF
        go_wp2_with fail
        refine (index_any _ 1000 _ (by decide) (by decide)).mono ?_
        rintro e w' ⟨rfl, hw⟩
        subst w'
        rw [hq]
        go_wp2_with fail
        refine (port_any _ q _ hq0).mono ?_
        rintro e wp ⟨rfl, hw⟩
        have H1 := hide (HI.out.port q)
        rw [← hw] at H1
        clear hw HI hxc'
        go_wp2_with (go_at_call 31; refine (no_any _ _).mono ?_; rintro e w' ⟨rfl, hw⟩; subst w')
        refine (hold_grant H1.out).mono ?_
        rintro e w3 ⟨rfl, h3⟩
        have H3 := hide h3
        clear h3 H1
        go_wp2_with fail
        refine (hold_cas (i := 0) H3.out 0 (q + 1) rfl (ag_cells _ _) hcc hcc2 (ag_log _ _)).mono ?_
        rintro e w4 ⟨he, h4⟩
        rw [ag_made] at h4
        rw [show decide (nth (agSt F (2 * k)).cells 0 = 0) = true from decide_eq_true HFF.out] at he
        obtain rfl := he
        have H4 : Hid (Hold w w4 Y b gc wr.heap.size (agSt (q + 1) (2 * (k : Int) + 1)) q false) := by
          have e1 : (if nth (agSt F (2 * k)).cells 0 = 0 then q + 1 else nth (agSt F (2 * k)).cells 0) = q + 1 := if_pos HFF.out
          simp only [e1] at h4
          exact h4
        clear h4 H3
        go_wp2_with fail
        refine (hold_grant H4.out).mono ?_
        rintro e w5 ⟨rfl, h5⟩
        have H5 := hide h5
        clear h5 H4
        go_wp2_with fail
        refine (hold_load (i := 0) H5.out rfl (ag_cells _ _) (show 0 ≤ 2 * (k : Int) + 1 by omega) (show 2 * (k : Int) + 1 < 9223372036854775807 by omega) (ag_log _ _)).mono ?_
        rintro e w6 ⟨he, h6⟩
        rw [ag_made] at h6
        obtain rfl : e = .returned (.int .u64 (q + 1)) := he
        have H6 : Hid (AgIs w w6 Y b gc (q + 1) (2 * (k : Int) + 1 + 1)) := AgIs.of_hold h6
        clear h6 H5
        go_wp2_with fail
        go_roundw
        case rel => exact ⟨k + 1, by omega, by go_num, by rw [HF2.out], by rw [HF2.out]; exact (show (2 * ((k + 1 : Nat) : Int)) = 2 * (k : Int) + 1 + 1 by omega) ▸ H6⟩
        case measure => simp [RowKit.intOf]; omega
      · have hF : ¬ F = 0 := by rw [← hFF]; unfold firstOf; rw [if_neg hk0]; omega
        have HF2 := hide (show firstOf zs (k + 1) = F by rw [← hFF]; unfold firstOf; rw [if_neg hk0, if_neg (by omega)])
        have hkb : ((k : Int) == 0) = false := by simp; omega
        rw [hFF] at HI
        rw [hFF]
        clear hFF
        go_wp2_with fail
        refine (index_any _ 1000 _ (by decide) (by decide)).mono ?_
        rintro e w' ⟨rfl, hw⟩
        subst w'
        rw [hq]
        go_wp2_with fail
        refine (port_any _ q _ hq0).mono ?_
        rintro e wp ⟨rfl, hw⟩
        have H1 := hide (HI.out.port q)
        rw [← hw] at H1
        clear hw HI hxc'
        go_wp2_with (go_at_call 31; refine (no_any _ _).mono ?_; rintro e w' ⟨rfl, hw⟩; subst w')
        refine (hold_grant H1.out).mono ?_
        rintro e w3 ⟨rfl, h3⟩
        have H3 := hide h3
        clear h3 H1
        go_wp2_with fail
        refine (hold_cas (i := 0) H3.out 0 (q + 1) rfl (ag_cells _ _) hcc hcc2 (ag_log _ _)).mono ?_
        rintro e w4 ⟨he, h4⟩
        rw [ag_made] at h4
        rw [show decide (nth (agSt F (2 * k)).cells 0 = 0) = false from decide_eq_false hF] at he
        obtain rfl := he
        have H4 : Hid (Hold w w4 Y b gc wr.heap.size (agSt F (2 * (k : Int) + 1)) q false) := by
          have e1 : (if nth (agSt F (2 * k)).cells 0 = 0 then q + 1 else nth (agSt F (2 * k)).cells 0) = F := if_neg hF
          simp only [e1] at h4
          exact h4
        clear h4 H3
        go_wp2_with fail
        refine (hold_grant H4.out).mono ?_
        rintro e w5 ⟨rfl, h5⟩
        have H5 := hide h5
        clear h5 H4
        go_wp2_with fail
        refine (hold_load (i := 0) H5.out rfl (ag_cells _ _) (show 0 ≤ 2 * (k : Int) + 1 by omega) (show 2 * (k : Int) + 1 < 9223372036854775807 by omega) (ag_log _ _)).mono ?_
        rintro e w6 ⟨he, h6⟩
        rw [ag_made] at h6
        obtain rfl : e = .returned (.int .u64 F) := he
        have H6 : Hid (AgIs w w6 Y b gc F (2 * (k : Int) + 1 + 1)) := AgIs.of_hold h6
        clear h6 H5
        go_wp2_with fail
        go_roundw
        case rel => exact ⟨k + 1, by omega, by go_num, by rw [HF2.out], by rw [HF2.out]; exact (show (2 * ((k + 1 : Nat) : Int)) = 2 * (k : Int) + 1 + 1 by omega) ▸ H6⟩
        case measure => simp [RowKit.intOf]; omega
    · obtain rfl : k = n := by omega
      obtain ⟨F, hFF⟩ : ∃ F, firstOf zs k = F := ⟨_, rfl⟩
      rw [hFF] at HI
      rw [hFF]
      clear hFF
      obtain ⟨lv, ha⟩ := HI.out.ex
      have HA2 := hide ha
      clear ha
      go_wp2_with fail
      refine (count_any Y b gc lv _ _ HA2.out).mono ?_
      rintro e w3 ⟨he, ha3, k3, _⟩
      obtain rfl : e = .returned (.int .i64 (2 * (k : Int))) := he
      have HL := hide (log_any Y b gc lv _ _ ha3 (Nat.zero_le _))
      have HB3 := hide (k3.below HI.out.bel (fun _ hj => hj ▸ HI.out.hb) HI.out.bel.size)
      clear ha3 k3
      go_wp2_with fail
      refine HL.out.mono ?_
      rintro e w4 ⟨v, rfl, ho, _, k4⟩
      obtain ⟨ao', c', rfl⟩ := owns_shape ho
      have HB4 := hide (k4.below HB3.out (fun _ hj => hj ▸ HI.out.hb) HB3.out.size)
      clear ho k4
      change Hid (Below w.heap.size w w4) at HB4
      have e0 : (agSt F (2 * (k : Int))).log.length = 0 := rfl
      go_wp2_with fail
      go_ret
      exact ⟨rfl, HB4.out⟩
end Go.Proofs.Ytfgchkkljlbmcaa
