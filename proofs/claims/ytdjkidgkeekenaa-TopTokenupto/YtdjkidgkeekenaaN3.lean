/- The steps of a node: the last of them. -/
import Derived.Test.YtdjkidgkeekenaaN2
namespace Go.Proofs.Ytdjkidgkeekenaa
open Go.RowKit Go.Lib
set_option linter.unusedVariables false
set_option linter.unusedSimpArgs false
section
variable {w : World} {q p : Nat} {d : Nd} {sv : Value} {x : Int} {P : World → Prop}

set_option maxRecDepth 100000 in
set_option maxHeartbeats 4000000 in
theorem ph5N (hwh : d.who < 64) (h0 : w.heap[q]? = some (d.obj sv)) (hd : d.ph = 5)
    (HA : ∀ X, Below w.heap.size w X → Calls Try.prog 44 #[.pointer (some ⟨p, 0, none⟩), .int .i64 1] X fun e w2 => e = .returned (.int .u64 x) ∧ P w2) (hP : ∀ w2, P w2 → w2.heap[q]? = some (d.obj sv)) :
    Calls Try.prog 61 #[.pointer (some ⟨q, 0, none⟩), .pointer (some ⟨p, 0, none⟩)] w fun e w' => e = .returned (.tuple #[]) ∧ StN P q ((d.next x).obj sv) w' := by
  have HQ := hide hP
  have HC := hide HA
  have HD := hide hd
  clear hP HA
  have hq0 := h0
  unfold Nd.obj NObj at hq0
  obtain ⟨yw, hyw⟩ : ∃ yw, yw = d.who := ⟨_, rfl⟩
  have HYW := hide hyw
  have b5 : w.cell? ⟨q, 5, none⟩ = some (.int .i64 (yw : Int)) := by rw [hyw]; exact cell_of hq0 rfl
  rw [← hyw] at hwh
  have hw1 : IntKind.u64.wrap (yw : Int) = (yw : Int) := wr_id (by unfold W64; omega)
  clear hq0 h0 hd hwh hyw
  go_enter Try.func61, Try.ntmps61
  go_wp2_with fail
  refine wp_region_noPanic ?_
  go_region_held3 (fun x => x.cell? ⟨q, 5, none⟩ = some (.int .i64 (yw : Int))) (first | with_reducible exact z5 | go_keep)
    (first
      | (go_at_call 44; refine (HC.out _ (below_drew (Below.refl _ _))).mono ?_; rintro e w2 ⟨rfl, hp2⟩; have HP2 := hide hp2; have hq2 := HQ.out w2 hp2; unfold Nd.obj NObj at hq2; rw [← HYW.out] at hq2; have z5 : w2.cell? ⟨q, 5, none⟩ = some (.int .i64 (yw : Int)) := cell_of hq2 rfl; clear hp2 hq2)
      | fail)
  rename_i hHeld
  clear hHeld hw1 b5 z5
  refine NoPanic.normal ?_
  by_cases hx : x = (yw : Int)
  · have hne : (x != (yw : Int)) = false := by simp [hx]
    have HN : Hid (d.next x = { d with ph := 6 }) := by
      unfold Nd.next Hid; simp only [HD.out]
      rw [if_pos (by rw [← HYW.out]; exact hx)]
    have hp2 := HP2.out
    have hq := HQ.out w2 hp2
    unfold Nd.obj NObj at hq
    have c9 := cell_of hq (i := 9) rfl
    have f9 := free_of hq 9
    have HE : Hid (StN P q ((d.next x).obj sv) (w2.setCell ⟨q, 9, none⟩ (.func (.func 72) #[] #[]))) := hide ((StN.of hp2 hq (Below.refl _ _)).more (by rw [HN.out]; unfold Nd.obj NObj; simp only [nxF]; rfl))
    clear hp2 hq hx
    first | rw [hne] | skip
    go_wp2_with fail
    first | go_end0 | refine bodyPost_ret (results_none rfl _ _ _) rfl ?_
    exact ⟨rfl, HE.out⟩
  · have hne : (x != (yw : Int)) = true := by simp [hx]
    have HN : Hid (d.next x = { d with ph := 1 }) := by
      unfold Nd.next Hid; simp only [HD.out]
      rw [if_neg (by rw [← HYW.out]; exact hx)]
    have hp2 := HP2.out
    have hq := HQ.out w2 hp2
    unfold Nd.obj NObj at hq
    have c9 := cell_of hq (i := 9) rfl
    have f9 := free_of hq 9
    have HE : Hid (StN P q ((d.next x).obj sv) (w2.setCell ⟨q, 9, none⟩ (.func (.func 31) #[] #[]))) := hide ((StN.of hp2 hq (Below.refl _ _)).more (by rw [HN.out]; unfold Nd.obj NObj; simp only [nxF]; rfl))
    clear hp2 hq hx
    first | rw [hne] | skip
    go_wp2_with fail
    first | go_end0 | refine bodyPost_ret (results_none rfl _ _ _) rfl ?_
    exact ⟨rfl, HE.out⟩

theorem StN.on {ob : Obj} {w3 w4 : World} (h : StN P q ob w3) (hb : Below w3.heap.size w3 w4) : StN P q ob w4 := by
  obtain ⟨w2, h1, h2, h3⟩ := h
  exact ⟨w2, h1, (hb.block _ (lt_of_heap h2)).trans h2, h3.trans (Chg.of_below hb)⟩
set_option maxRecDepth 100000 in
theorem isFirst_at (W : World) (y : Nat) (c5 : W.cell? ⟨q, 5, none⟩ = some (.int .i64 (y : Int))) : Calls Try.prog 75 #[.pointer (some ⟨q, 0, none⟩)] W fun e w' => e = .returned (.bool (decide (y = 0))) ∧ w' = W := by
  by_cases h0 : y = 0
  · subst h0
    go_enter Try.func75, Try.ntmps75
    go_wp2
    go_ret
    exact ⟨rfl, rfl⟩
  · have h1 : ((y : Int) == 0) = false := by simp; omega
    have h2 : decide (y = 0) = false := by simp [h0]
    rw [h2]
    go_enter Try.func75, Try.ntmps75
    go_wp2
    go_ret
    exact ⟨rfl, rfl⟩
theorem neg_iff {a b : Int} : wr a = wr (-b) ↔ wr (b + wr a) = 0 := by
  have e : ∀ x, wr x = x % 18446744073709551616 := fun _ => rfl
  simp only [e]
  omega
theorem Try.results76' : Try.f76.results = #[.cell 2 94] := by kernel_rfl
set_option maxRecDepth 100000 in
set_option maxHeartbeats 4000000 in
theorem atRest_any {y : Int} (W : World) (ba bl who n bu nx m k : Value) (a : Value) (cnt : Int) (h : W.heap[q]? = some (.cells #[a, .int .i64 x, .int .i64 y, ba, bl, who, n, sv, bu, nx, m, .int .u64 cnt, k] 96 (0, 0))) : Calls Try.prog 76 #[.pointer (some ⟨q, 0, none⟩)] W fun e w' => e = .returned (.agg #[.bool false, .int .i64 x, .int .i64 y, .int .u64 (wr (-cnt)), .bool false]) ∧ Below W.heap.size W w' := by
  obtain ⟨X, hX⟩ : ∃ X, X = W.alloc (.cells #[.bool false, .int .i64 0, .int .i64 0, .int .u64 0, .bool false] 94) := ⟨_, rfl⟩
  have hbX : Below W.heap.size W X := by rw [hX]; exact below_alloc (Below.refl _ _) _
  have hz : X.heap[W.heap.size]? = some (.cells #[.bool false, .int .i64 0, .int .i64 0, .int .u64 0, .bool false] 94 (0, 0)) := by rw [hX]; exact heap_new W _
  have hq := (hbX.block _ (lt_of_heap h)).trans h
  have hne : ¬ q = W.heap.size := by have := lt_of_heap h; omega
  have hne2 : ¬ W.heap.size = q := by omega
  have c1 : X.cell? ⟨q, 1, none⟩ = some (.int .i64 x) := cell_of hq rfl
  have c2 : X.cell? ⟨q, 2, none⟩ = some (.int .i64 y) := cell_of hq rfl
  have c11 : X.cell? ⟨q, 11, none⟩ = some (.int .u64 cnt) := cell_of hq rfl
  have f0 := free_of hz 0; have f1 := free_of hz 1; have f2 := free_of hz 2; have f3 := free_of hz 3; have f4 := free_of hz 4
  have e0 := cell_of hz (i := 0) rfl; have e1 := cell_of hz (i := 1) rfl; have e2 := cell_of hz (i := 2) rfl; have e3 := cell_of hz (i := 3) rfl; have e4 := cell_of hz (i := 4) rfl
  have HBX := hide hbX
  have HZ := hide hz
  clear hbX hz hq h
  go_enter Try.func76, Try.ntmps76
  go_wp2_with fail
  rw [← hX]
  clear hX
  refine wp_region_noPanic ?_
  go_region_held3 (fun x' => x'.cell? ⟨q, 1, none⟩ = some (.int .i64 x) ∧ x'.cell? ⟨q, 2, none⟩ = some (.int .i64 y) ∧ x'.cell? ⟨q, 11, none⟩ = some (.int .u64 cnt)) (go_keep) (fail)
  all_goals
    refine NoPanic.normal ?_
    have HR : Hid (∀ u3, ((((((X.setCell ⟨W.heap.size, 0, none⟩ (.bool false)).setCell ⟨W.heap.size, 1, none⟩ (.int .i64 x)).setCell ⟨W.heap.size, 2, none⟩ (.int .i64 y)).setCell ⟨W.heap.size, 3, none⟩ u3).setCell ⟨W.heap.size, 4, none⟩ (.bool false)).drew).heap[W.heap.size]? = some (.cells #[.bool false, .int .i64 x, .int .i64 y, u3, .bool false] 94 (0, 0)) ∧ Below W.heap.size W ((((((X.setCell ⟨W.heap.size, 0, none⟩ (.bool false)).setCell ⟨W.heap.size, 1, none⟩ (.int .i64 x)).setCell ⟨W.heap.size, 2, none⟩ (.int .i64 y)).setCell ⟨W.heap.size, 3, none⟩ u3).setCell ⟨W.heap.size, 4, none⟩ (.bool false)).drew)) := hide (fun u3 => ⟨by
      rw [heap_drew]
      rw [heap_set (heap_set (heap_set (heap_set (heap_set HZ.out _) _) _) _) _]; rfl, (((((HBX.out.setCell (p := ⟨W.heap.size, 0, none⟩) (Nat.le_refl _) _).setCell (p := ⟨W.heap.size, 1, none⟩) (Nat.le_refl _) _).setCell (p := ⟨W.heap.size, 2, none⟩) (Nat.le_refl _) _).setCell (p := ⟨W.heap.size, 3, none⟩) (Nat.le_refl _) _).setCell (p := ⟨W.heap.size, 4, none⟩) (Nat.le_refl _) _).drew⟩)
    have HWF := hide (HR.out (.int .u64 (IntKind.u64.wrap (-cnt))))
    clear HR
    generalize ((((((X.setCell ⟨W.heap.size, 0, none⟩ (.bool false)).setCell ⟨W.heap.size, 1, none⟩ (.int .i64 x)).setCell ⟨W.heap.size, 2, none⟩ (.int .i64 y)).setCell ⟨W.heap.size, 3, none⟩ (.int .u64 (IntKind.u64.wrap (-cnt)))).setCell ⟨W.heap.size, 4, none⟩ (.bool false)).drew) = wf at HWF ⊢
    go_wp2
    exact bodyPost_ret (results_cell_row Try.results76' _ wf W.heap.size 94 _ (0, 0) _ rfl HWF.out.1 Try.underlying94 rfl (by kernel_rfl)) rfl ⟨rfl, HWF.out.2⟩

set_option maxRecDepth 100000 in
set_option maxHeartbeats 4000000 in
theorem ph7N (hact : d.active = false) (hd : d.ph = 7)
    (HA : ∀ X, Below w.heap.size w X → Calls Try.prog 44 #[.pointer (some ⟨p, 0, none⟩), .int .i64 3] X fun e w2 => e = .returned (.int .u64 x) ∧ P w2) (hP : ∀ w2, P w2 → w2.heap[q]? = some (d.obj sv)) :
    Calls Try.prog 74 #[.pointer (some ⟨q, 0, none⟩), .pointer (some ⟨p, 0, none⟩)] w fun e w' => e = .returned (.tuple #[]) ∧ StN P q ((d.next x).obj sv) w' := by
  have HQ := hide hP
  have HC := hide HA
  have HD := hide hd
  clear hP HA
  obtain ⟨w2x, hw2x⟩ : ∃ w2x : World → World, w2x = fun w2 => w2.setCell ⟨q, 12, none⟩ (.int .u64 x) := ⟨_, rfl⟩
  have HACT := hide hact
  clear hact hd
  go_enter Try.func74, Try.ntmps74
  go_wp2_with fail
  refine (HC.out w (Below.refl _ _)).mono ?_
  rintro e w2 ⟨rfl, hp2⟩
  have hq := HQ.out w2 hp2
  unfold Nd.obj NObj at hq
  rw [HACT.out] at hq
  have c12 := cell_of hq (i := 12) rfl
  have f12 := free_of hq 12
  have h3 : StN P q (.cells #[.bool false, .int .i64 d.left, .int .i64 d.sent, .int .u64 (wr d.bal), .bool d.black, .int .i64 d.who, .int .i64 d.n, sv, .int .i64 d.burst, nxF d.ph, .int .u64 d.m, .int .u64 d.q, .int .u64 x] 96 (0, 0)) (w2.setCell ⟨q, 12, none⟩ (.int .u64 x)) := ((StN.of hp2 hq (Below.refl _ _)).more rfl)
  have H3 := hide h3
  clear h3 hp2 hq
  go_upto_region 1 with fail
  generalize (w2.setCell ⟨q, 12, none⟩ (.int .u64 x)) = w3 at H3 ⊢
  clear c12 f12 hw2x
  obtain ⟨w1, hp1, hq3, hc3⟩ := H3.out
  have hcl : ∀ y : GW w3, ∀ i v, (#[.bool false, .int .i64 d.left, .int .i64 d.sent, .int .u64 (wr d.bal), .bool d.black, .int .i64 d.who, .int .i64 d.n, sv, .int .i64 d.burst, nxF d.ph, .int .u64 d.m, .int .u64 d.q, .int .u64 x] : Array Value)[i]? = some v → y.world.cell? ⟨q, i, none⟩ = some v := fun y i v h => cell_of ((y.bel.block _ (lt_of_heap hq3)).trans hq3) h
  have z0 := fun y => hcl y 0 _ rfl
  have z1 := fun y => hcl y 1 _ rfl
  have z2 := fun y => hcl y 2 _ rfl
  have z3 := fun y => hcl y 3 _ rfl
  have z4 := fun y => hcl y 4 _ rfl
  have z5 := fun y => hcl y 5 _ rfl
  have z9 := fun y => hcl y 9 _ rfl
  have z12 := fun y => hcl y 12 _ rfl
  have zf : ∀ y : GW w3, y.world.frozen? ⟨q, 9, none⟩ = false := fun y => free_of ((y.bel.block _ (lt_of_heap hq3)).trans hq3) 9
  have ZF := hide zf; have Z9 := hide z9
  have HF := hide (fun y : GW w3 => isFirst_at (q := q) y.world d.who (z5 y))
  have HA := hide (fun y : GW w3 => atRest_any (q := q) (sv := sv) (x := d.left) (y := d.sent) y.world _ _ _ _ _ _ _ _ (.bool false) d.q ((y.bel.block _ (lt_of_heap hq3)).trans hq3))
  have HEq := hide (fun W => regs_eql false false d.black false d.left d.left d.sent d.sent (wr d.bal) (wr (-d.q)) W)
  clear hp1 hq3 hc3 hcl z5 z9 zf w1
  by_cases h0 : d.who = 0
  · have hd0 : decide (d.who = 0) = true := by simpa using h0
    rw [hd0] at HF
    by_cases hx : x = 0
    · have hx0 : (x == 0) = true := by simp [hx]
      by_cases hz : d.black = false ∧ wr (d.q + wr d.bal) = 0
      · have hz1 := hide (show ∀ W, _ from HEq.out)
        have HN : Hid (d.next x = { d with ph := 11, k := x }) := by
          unfold Nd.next Hid; simp only [HD.out]
          rw [if_pos (by unfold Nd.done; simp [h0, hx, hz.1, hz.2])]
        have HE : Hid (∀ y : GW w3, StN P q ((d.next x).obj sv) (y.world.setCell ⟨q, 9, none⟩ (.func (.func 77) #[] #[]))) := hide (fun y => by
          refine (H3.out.on y.bel).more ?_
          rw [HN.out]; unfold Nd.obj NObj; simp only [HACT.out]; rfl)
        have heq : ∀ W, (binOp .eql 94 (.agg #[.bool false, .int .i64 d.left, .int .i64 d.sent, .int .u64 (wr d.bal), .bool d.black]) (.agg #[.bool false, .int .i64 d.left, .int .i64 d.sent, .int .u64 (wr (-d.q)), .bool false])).run Try.prog W = .ok (.bool true) W := fun W => by
          rw [HEq.out W]
          have hzz : (false == false && (d.left == d.left && (d.sent == d.sent && (wr d.bal == wr (-d.q) && (d.black == false && true))))) = true := (by have := neg_iff.2 hz.2; simp [hz.1, this])
          rw [hzz]
        clear hz hz1 h0 hx HEq
        refine wp_region_gw (by kernel_rfl) (by kernel_rfl) ?_
        repeat (go_big_quiet_step (first | (go_at_call 75; exact gw_of ((HF.out _).mono fun e w' h => ⟨h.1, by rw [h.2]; exact Below.refl _ _⟩)) | (go_at_call 76; exact gw_of (HA.out _)) | rfl))
        refine wpQuiet_nil ?_
        rintro _ ⟨y, rfl⟩
        have c9 := Z9.out y
        have f9 := ZF.out y
        go_wp2_with fail
        first | go_end0 | refine bodyPost_ret (results_none rfl _ _ _) rfl ?_
        exact ⟨rfl, HE.out _⟩
      · have hz1 := hide (show ∀ W, _ from HEq.out)
        have HN : Hid (d.next x = { d with ph := 8, k := x }) := by
          unfold Nd.next Hid; simp only [HD.out]
          rw [if_neg (by unfold Nd.done; simp only [decide_eq_true_eq]; exact fun q => hz ⟨q.2.2.1, q.2.2.2⟩)]
        have HE : Hid (∀ y : GW w3, StN P q ((d.next x).obj sv) (y.world.setCell ⟨q, 9, none⟩ (.func (.func 78) #[] #[]))) := hide (fun y => by
          refine (H3.out.on y.bel).more ?_
          rw [HN.out]; unfold Nd.obj NObj; simp only [HACT.out]; rfl)
        have heq : ∀ W, (binOp .eql 94 (.agg #[.bool false, .int .i64 d.left, .int .i64 d.sent, .int .u64 (wr d.bal), .bool d.black]) (.agg #[.bool false, .int .i64 d.left, .int .i64 d.sent, .int .u64 (wr (-d.q)), .bool false])).run Try.prog W = .ok (.bool false) W := fun W => by
          rw [HEq.out W]
          have hzz : (false == false && (d.left == d.left && (d.sent == d.sent && (wr d.bal == wr (-d.q) && (d.black == false && true))))) = false := (by
          cases hb : d.black with
          | true => simp
          | false =>
            have : ¬ wr d.bal = wr (-d.q) := fun e => hz ⟨hb, neg_iff.1 e⟩
            simp [this])
          rw [hzz]
        clear hz hz1 h0 hx HEq
        refine wp_region_gw (by kernel_rfl) (by kernel_rfl) ?_
        repeat (go_big_quiet_step (first | (go_at_call 75; exact gw_of ((HF.out _).mono fun e w' h => ⟨h.1, by rw [h.2]; exact Below.refl _ _⟩)) | (go_at_call 76; exact gw_of (HA.out _)) | rfl))
        refine wpQuiet_nil ?_
        rintro _ ⟨y, rfl⟩
        have c9 := Z9.out y
        have f9 := ZF.out y
        go_wp2_with fail
        first | go_end0 | refine bodyPost_ret (results_none rfl _ _ _) rfl ?_
        exact ⟨rfl, HE.out _⟩
    · have hx0 : (x == 0) = false := by simp [hx]
      have HN : Hid (d.next x = { d with ph := 8, k := x }) := by
        unfold Nd.next Hid; simp only [HD.out]
        rw [if_neg (by unfold Nd.done; simp [hx])]
      have HE : Hid (∀ y : GW w3, StN P q ((d.next x).obj sv) (y.world.setCell ⟨q, 9, none⟩ (.func (.func 78) #[] #[]))) := hide (fun y => by
        refine (H3.out.on y.bel).more ?_
        rw [HN.out]; unfold Nd.obj NObj; simp only [HACT.out]; rfl)
      clear h0
      refine wp_region_gw (by kernel_rfl) (by kernel_rfl) ?_
      repeat (go_big_quiet_step (first | (go_at_call 75; exact gw_of ((HF.out _).mono fun e w' h => ⟨h.1, by rw [h.2]; exact Below.refl _ _⟩)) | (go_at_call 76; exact gw_of (HA.out _)) | rfl))
      refine wpQuiet_nil ?_
      rintro _ ⟨y, rfl⟩
      have c9 := Z9.out y
      have f9 := ZF.out y
      go_wp2_with fail
      first | go_end0 | refine bodyPost_ret (results_none rfl _ _ _) rfl ?_
      exact ⟨rfl, HE.out _⟩
  · have hd0 : decide (d.who = 0) = false := by simpa using h0
    rw [hd0] at HF
    have HN : Hid (d.next x = { d with ph := 8, k := x }) := by
      unfold Nd.next Hid; simp only [HD.out]
      rw [if_neg (by unfold Nd.done; simp [h0])]
    have HE : Hid (∀ y : GW w3, StN P q ((d.next x).obj sv) (y.world.setCell ⟨q, 9, none⟩ (.func (.func 78) #[] #[]))) := hide (fun y => by
      refine (H3.out.on y.bel).more ?_
      rw [HN.out]; unfold Nd.obj NObj; simp only [HACT.out]; rfl)
    clear h0
    refine wp_region_gw (by kernel_rfl) (by kernel_rfl) ?_
    repeat (go_big_quiet_step (first | (go_at_call 75; exact gw_of ((HF.out _).mono fun e w' h => ⟨h.1, by rw [h.2]; exact Below.refl _ _⟩)) | (go_at_call 76; exact gw_of (HA.out _)) | rfl))
    refine wpQuiet_nil ?_
    rintro _ ⟨y, rfl⟩
    have c9 := Z9.out y
    have f9 := ZF.out y
    go_wp2_with fail
    first | go_end0 | refine bodyPost_ret (results_none rfl _ _ _) rfl ?_
    exact ⟨rfl, HE.out _⟩

end
end Go.Proofs.Ytdjkidgkeekenaa
