/- Insert 41, Take 43, Reply 23 of a handle; slices.Clone 63 of tasks. -/
import Derived.Test.YtgjdjdgondpjeaaGreatSt4
import Derived.Test.YtgjdjdgondpjeaaGreatSoT
import Derived.Test.YtgjdjdgondpjeaaGreatT1
import Derived.Deep.RegionHeld3
import Derived.Deep.RegionWith
import Derived.BigRegion
namespace Go.Proofs.YtgjdjdgondpjeaaGreat
open Go.RowKit Go.Lib
set_option linter.unusedVariables false
set_option linter.unusedSimpArgs false
set_option maxRecDepth 100000 in
set_option maxHeartbeats 2000000 in
theorem cloneT_any (v : Value) (l : List Tk) (w : World) (h : TAt w v l) (hl : l.length * 16 ≤ 140737488355328) :
    Calls Tryz.prog 63 #[v] w fun e w' => ∃ u, e = .returned u ∧ TOwn w' w.heap.size u l ∧ Below w.heap.size w w' := by
  have q24 : ∀ (w : World) (a : Option Addr) (n c n' c' : Nat), (binOp .eql 24 (.slice a n c) (.slice none n' c')).run Tryz.prog w = .ok (.bool a.isNone) w := fun w a n c n' c' => Lib.run_eql_slice_nil w _ _ a n c n' c' Tryz.underlying24
  obtain ⟨ao, c, rfl, hc, hm⟩ := h.shape
  obtain ⟨i0, hi, hz0, hz1, hz2⟩ := info_parts Tryz.info42
  have HL := hide h
  obtain ⟨n, hn⟩ : ∃ n, n = l.length := ⟨_, rfl⟩
  rw [← hn] at hc HL ⊢
  have HN := hide hn
  have hnn : ao = none → n = 0 := fun e => by
    subst e
    rcases Nat.eq_zero_or_pos n with z | z
    · exact z
    · obtain ⟨g, o, e, _⟩ := h.cellAt 0 (by omega); cases e
  have HLEN := hide hl
  clear h hn hl
  cases ao with
  | none =>
    obtain rfl := hnn rfl
    go_enter Tryz.func63, Tryz.ntmps63
    go_wp2_with fail
    go_ret
    have : l = [] := List.eq_nil_of_length_eq_zero HN.out.symm
    subst this
    exact ⟨_, rfl, TOwn.nil _ _, Below.refl _ _⟩
  | some a =>
    clear hnn
    go_enter Tryz.func63, Tryz.ntmps63
    go_wp2_with (at_builtin; refine wpList_freshT rfl (.tmp 5) (.tmp 6) 24 rfl 42 i0 (.agg #[.int .u64 0, .int .u64 0]) Tryz.underlying24 hi hz0 hz1 hz2 rfl w.heap.size _ (own_new2 _ 42 w.heap.size rfl) (by simp) _ l rfl rfl (HL.out.below (below_alloc (Below.refl _ _) _)) HLEN.out (by have := HLEN.out; unfold maxLen; omega) ?_; intro v4 w4 hownA hbelA)
    have hb := below_on (below_alloc (Below.refl _ _) _) hbelA
    go_ret
    exact ⟨_, rfl, hownA, hb⟩
theorem results_cell1 {P : Program} {fn : Func} {p : Tmp} {ty : TypeId} (h : fn.results = #[.cell p ty]) (tmps : Array Value) (w : World) (g : Nat) (t : TypeId) (cs : Array Value) (fr : Nat × Nat) (d : TypeDesc)
    (hp : tmps.getD p undef = .pointer (some ⟨g, 0, none⟩)) (hg : w.heap[g]? = some (.cells cs t fr))
    (hu : P.underlying ty = some d) (hd : (match d with | .struct _ | .array _ _ => true | _ => false) = true) (hi : (P.info? ty).map (·.size) = some cs.size) :
    (results fn tmps).run P w = .ok (.agg cs) w := by
  have hp' : tmps[p]?.getD undef = .pointer (some ⟨g, 0, none⟩) := by simpa using hp
  simp only [results, h]
  simp [Result.andThen, hp', asAddr, run_loadVar_row w g t ty cs fr d hg hu hd hi]
theorem Tryz.results23 : Tryz.f23.results = #[.cell 2 71] := by kernel_rfl
section
variable {w : World} {q b C : Nat} {d : Hs} {v : Value}
set_option maxRecDepth 100000 in
set_option maxHeartbeats 2000000 in
theorem reply_any {fr : Nat} (h : w.heap[q]? = some (HObj b C d v)) (hv : TOwn w fr v d.out) (hl : d.out.length ≤ 1) :
    Calls Tryz.prog 23 #[.pointer (some ⟨q, 0, none⟩)] w fun e w' => Below w.heap.size w w' ∧ ∃ u, e = .returned (.agg #[.int .i64 d.st, u]) ∧ TOwn w' w.heap.size u d.out := by
  have hpn := ptr63 q
  obtain ⟨W, hW⟩ : ∃ W, W = w.alloc (.cells #[.int .i64 0, .slice none 0 0] 71) := ⟨_, rfl⟩
  have hbW : Below w.heap.size w W := by rw [hW]; exact below_alloc (Below.refl _ _) _
  have HZ := hide (show W.heap[w.heap.size]? = some (.cells #[.int .i64 0, .slice none 0 0] 71 (0, 0)) by rw [hW]; exact heap_new w _)
  have hq := (hbW.block _ (lt_of_heap h)).trans h
  unfold HObj at hq
  have HC := hide (fun X (k : Below W.heap.size W X) => cloneT_any v d.out X ((hv.below hbW).below k).tat (by omega))
  have HK : Hid (∀ X, Below W.heap.size W X → X.cell? ⟨q, 6, none⟩ = some (.int .i64 d.st) ∧ X.cell? ⟨q, 7, none⟩ = some v) := hide (fun X hX => by
    have q := (hX.block _ (lt_of_heap hq)).trans hq
    exact ⟨cell_of q rfl, cell_of q rfl⟩)
  have HBW := hide hbW
  have HS0 := hide (show w.heap.size < W.heap.size from lt_of_heap HZ.out)
  obtain ⟨st, hst⟩ : ∃ st, st = d.st := ⟨_, rfl⟩
  rw [← hst] at HK ⊢
  obtain ⟨ao, c, rfl, _⟩ := hv.tat.shape
  generalize d.out.length = n at HC HK
  obtain ⟨c6, c7⟩ := HK.out W (Below.refl _ _)
  have e0 := cell_of HZ.out (i := 0) rfl; have e1 := cell_of HZ.out (i := 1) rfl
  have f0 := free_of HZ.out 0; have f1 := free_of HZ.out 1
  have hne : ¬ q = w.heap.size := by have := lt_of_heap h; omega
  have hne2 : ¬ w.heap.size = q := by omega
  clear hst h hv hbW hq hl
  go_enter Tryz.func23, Tryz.ntmps23
  go_wp2_with fail
  rw [← hW]
  clear hW
  refine wp_region_noPanic ?_
  go_region_held3 (fun x => x.cell? ⟨q, 6, none⟩ = some (.int .i64 st) ∧ x.cell? ⟨q, 7, none⟩ = some (.slice ao n c)) (first | exact ⟨c6, c7⟩ | exact ⟨z6, z7⟩ | go_keep)
    (first
      | (go_at_call 63; refine (HC.out _ (below_drew (Below.refl _ _))).mono ?_; rintro e w4 ⟨u4, rfl, ho4, hb4⟩; obtain ⟨a4, c4', rfl, _⟩ := ho4.tat.shape; have HB4 := hide (below_on (a := W) (below_drew (Below.refl _ _)) hb4); have HO4 := hide ho4; obtain ⟨z6, z7⟩ := HK.out w4 HB4.out; have hz4 := (HB4.out.block _ (lt_of_heap HZ.out)).trans HZ.out; have HZ4 := hide hz4; have g0 := cell_of hz4 (i := 0) rfl; have g1 := cell_of hz4 (i := 1) rfl; have k0 := free_of hz4 0; have k1 := free_of hz4 1; clear hb4 ho4 hz4)
      | fail)
  all_goals
    refine NoPanic.normal ?_
    go_wp2_with fail
    have hf := heap_set (i := 1) (heap_set (i := 0) HZ4.out (.int .i64 st)) (.slice a4 d.out.length c4')
    refine ⟨rfl, _, results_cell1 Tryz.results23 _ _ w.heap.size 71 _ (0, 0) _ rfl hf Tryz.underlying71 rfl (by kernel_rfl), ?_, _, rfl, ?_⟩
    · exact ((below_on HBW.out HB4.out).setCell (p := ⟨w.heap.size, 0, none⟩) (Nat.le_refl _) _).setCell (p := ⟨w.heap.size, 1, none⟩) (Nat.le_refl _) _
    · have hw : W.drew.heap.size = W.heap.size := rfl
      have ho := HO4.out
      have hs := HS0.out
      have := ownsRow_block (w' := ((w4.setCell ⟨w.heap.size, 0, none⟩ (.int .i64 st)).setCell ⟨w.heap.size, 1, none⟩ (.slice a4 d.out.length c4'))) ho (fun k hk => by
        have hl := (ho.lt k hk).1
        rw [Below.heap_setCell _ _ _ _ (by show k ≠ w.heap.size; omega), Below.heap_setCell _ _ _ _ (by show k ≠ w.heap.size; omega)])
      exact own_lower this (by omega)
set_option maxRecDepth 100000 in
set_option maxHeartbeats 2000000 in
theorem take_any (h : w.heap[q]? = some (HObj b C d v)) (hok : OkR b C) :
    Calls Tryz.prog 43 #[.pointer (some ⟨q, 0, none⟩)] w fun e w' => (d.ph = 0 ∧ e = .returned (.int .i64 0) ∧ w'.heap[q]? = some (HObj b C d.tak (.slice none 0 0)) ∨ d.ph ≠ 0 ∧ e = .returned (.int .i64 61) ∧ w'.heap[q]? = some (HObj b C d v)) ∧ Chg (fun k => k = q) w w' := by
  have HR := hide (ready_any h hok)
  have HH := hide h
  clear h
  by_cases e : d.ph = 0
  · rw [if_pos e] at HR
    go_enter Tryz.func43, Tryz.ntmps43
    go_wp2_with fail
    refine HR.out.mono ?_
    rintro e1 w1 ⟨rfl, hb1⟩
    have hq := (hb1.block _ (lt_of_heap HH.out)).trans HH.out
    have HQ := hide hq
    have HB := hide hb1
    unfold HObj at hq
    have f2 := free_of hq 2; have f3 := free_of hq 3; have f4 := free_of hq 4; have f5 := free_of hq 5; have f6 := free_of hq 6; have f7 := free_of hq 7
    have c2 := cell_of hq (i := 2) rfl; have c4 := cell_of hq (i := 4) rfl; have c5 := cell_of hq (i := 5) rfl; have c6 := cell_of hq (i := 6) rfl; have c7 := cell_of hq (i := 7) rfl
    clear hq hb1
    go_wp2_with fail
    go_ret
    have hz := heap_set (i := 7) (heap_set (i := 6) (heap_set (i := 5) (heap_set (i := 4) (heap_set (i := 2) HQ.out (.int .i64 7)) (.int .u64 0)) (.int .u64 0)) (.int .i64 0)) (.slice none 0 0)
    exact ⟨.inl ⟨e, rfl, hz⟩, ((((((Chg.of_below HB.out).putq _ _).putq _ _).putq _ _).putq _ _).putq _ _)⟩
  · rw [if_neg e] at HR
    go_enter Tryz.func43, Tryz.ntmps43
    go_wp2_with fail
    refine HR.out.mono ?_
    rintro e1 w1 ⟨rfl, hb1⟩
    have HQ := hide ((hb1.block _ (lt_of_heap HH.out)).trans HH.out)
    have HB := hide hb1
    clear hb1
    go_wp2_with fail
    go_ret
    exact ⟨.inr ⟨e, rfl, HQ.out⟩, Chg.of_below HB.out⟩
set_option maxRecDepth 100000 in
set_option maxHeartbeats 2000000 in
theorem insert_any (x y : Int) (h : w.heap[q]? = some (HObj b C d v)) (hok : OkR b C) :
    Calls Tryz.prog 41 #[.pointer (some ⟨q, 0, none⟩), .agg #[.int .u64 x, .int .u64 y]] w fun e w' => (d.ph = 0 ∧ x ≠ Nev ∧ e = .returned (.int .i64 0) ∧ w'.heap[q]? = some (HObj b C (d.ins (x, y)) (.slice none 0 0)) ∨ d.ph ≠ 0 ∧ e = .returned (.int .i64 61) ∧ w'.heap[q]? = some (HObj b C d v) ∨ d.ph = 0 ∧ x = Nev ∧ e = .returned (.int .i64 51) ∧ w'.heap[q]? = some (HObj b C d v)) ∧ Chg (fun k => k = q) w w' := by
  obtain ⟨W, hW⟩ : ∃ W, W = w.alloc (.cells #[.int .u64 x, .int .u64 y] 42) := ⟨_, rfl⟩
  have hbW : Below w.heap.size w W := by rw [hW]; exact below_alloc (Below.refl _ _) _
  have HZ := hide (show W.heap[w.heap.size]? = some (.cells #[.int .u64 x, .int .u64 y] 42 (0, 0)) by rw [hW]; exact heap_new w _)
  have hqW := (hbW.block _ (lt_of_heap h)).trans h
  have HR := hide (ready_any hqW hok)
  have HH := hide hqW
  have HBW := hide hbW
  have hne : ¬ q = w.heap.size := by have := lt_of_heap h; omega
  have hne2 : ¬ w.heap.size = q := by omega
  clear h hqW hbW
  by_cases e : d.ph = 0
  · rw [if_pos e] at HR
    by_cases e2 : x = Nev
    · have E2 := hide e2
      have e2b : (x == 18446744073709551615) = true := by simpa [Nev] using e2
      clear e2
      go_enter Tryz.func41, Tryz.ntmps41
      go_wp2_with fail
      rw [← hW]
      clear hW
      refine HR.out.mono ?_
      rintro e1 w1 ⟨rfl, hb1⟩
      have HQ := hide ((hb1.block _ (lt_of_heap HH.out)).trans HH.out)
      have HB := hide (below_on HBW.out hb1)
      have hz := (hb1.block _ (lt_of_heap HZ.out)).trans HZ.out
      have z0 := cell_of hz (i := 0) rfl
      clear hb1 hz
      go_wp2_with fail
      go_ret
      exact ⟨.inr (.inr ⟨e, E2.out, rfl, HQ.out⟩), Chg.of_below HB.out⟩
    · go_enter Tryz.func41, Tryz.ntmps41
      go_wp2_with fail
      rw [← hW]
      clear hW
      refine HR.out.mono ?_
      rintro e1 w1 ⟨rfl, hb1⟩
      have hq := (hb1.block _ (lt_of_heap HH.out)).trans HH.out
      have HQ := hide hq
      have HB := hide (below_on HBW.out hb1)
      have hz := (hb1.block _ (lt_of_heap HZ.out)).trans HZ.out
      have z0 := cell_of hz (i := 0) rfl; have z1 := cell_of hz (i := 1) rfl
      have e2b : (x == 18446744073709551615) = false := by simpa [Nev] using e2
      have E2 := hide e2
      unfold HObj at hq
      have f2 := free_of hq 2; have f3 := free_of hq 3; have f4 := free_of hq 4; have f5 := free_of hq 5; have f6 := free_of hq 6; have f7 := free_of hq 7
      have c2 := cell_of hq (i := 2) rfl; have c4 := cell_of hq (i := 4) rfl; have c5 := cell_of hq (i := 5) rfl; have c6 := cell_of hq (i := 6) rfl; have c7 := cell_of hq (i := 7) rfl
      have HE : Hid (∀ m n, (((((((w1.drewN m).setCell ⟨q, 2, none⟩ (.int .i64 1)).setCell ⟨q, 4, none⟩ (.int .u64 x)).setCell ⟨q, 5, none⟩ (.int .u64 y)).setCell ⟨q, 6, none⟩ (.int .i64 0)).setCell ⟨q, 7, none⟩ (.slice none 0 0)).drewN n).heap[q]? = some (HObj b C (d.ins (x, y)) (.slice none 0 0)) ∧ Chg (fun k => k = q) w (((((((w1.drewN m).setCell ⟨q, 2, none⟩ (.int .i64 1)).setCell ⟨q, 4, none⟩ (.int .u64 x)).setCell ⟨q, 5, none⟩ (.int .u64 y)).setCell ⟨q, 6, none⟩ (.int .i64 0)).setCell ⟨q, 7, none⟩ (.slice none 0 0)).drewN n)) := hide (fun m n => ⟨heap_set (i := 7) (heap_set (i := 6) (heap_set (i := 5) (heap_set (i := 4) (heap_set (i := 2) (w := w1.drewN m) HQ.out (.int .i64 1)) (.int .u64 x)) (.int .u64 y)) (.int .i64 0)) (.slice none 0 0), ((((((Chg.of_below (below_on HB.out (below_drN w1 m))).putq _ _).putq _ _).putq _ _).putq _ _).putq _ _).trans (Chg.of_below (below_drN _ n))⟩)
      clear hq hb1 hz e2
      go_wp2_with fail
      clear HZ HH HBW HQ HB
      go_region
      go_wp2
      go_ret
      exact ⟨.inl ⟨e, E2.out, rfl, (HE.out 0 _).1⟩, (HE.out 0 _).2⟩
  · rw [if_neg e] at HR
    go_enter Tryz.func41, Tryz.ntmps41
    go_wp2_with fail
    rw [← hW]
    clear hW
    refine HR.out.mono ?_
    rintro e1 w1 ⟨rfl, hb1⟩
    have HQ := hide ((hb1.block _ (lt_of_heap HH.out)).trans HH.out)
    have HB := hide (below_on HBW.out hb1)
    clear hb1
    go_wp2_with fail
    go_ret
    exact ⟨.inr (.inl ⟨e, rfl, HQ.out⟩), Chg.of_below HB.out⟩
end
end Go.Proofs.YtgjdjdgondpjeaaGreat
