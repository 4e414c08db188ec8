/- The loom's calls: rest, stopped, Pick. -/
import Derived.Test.YtdjkidgkeekenaaLA
import Derived.Test.YtdjkidgkeekenaaM2
namespace Go.Proofs.Ytdjkidgkeekenaa
open Go.RowKit Go.Lib Go.MuLone
set_option linter.unusedVariables false
set_option linter.unusedSimpArgs false
theorem rest42_any (i n : Int) (w : World) (hn : 0 < n) (hn2 : n ≤ 9223372036854775807) :
    Calls Try.prog 19 #[.int .i64 i, .int .i64 n] w fun r w' => r = .returned (.int .i64 (i % n)) ∧ w' = w := by
  have hne : ¬ n = 0 := by omega
  have E := hide (emod_of_tmod i n hn)
  have hb := Int.tmod_lt_of_pos i hn
  by_cases h : i.tmod n < 0
  · have hb2 : -9223372036854775807 < i.tmod n := by
      have := Int.tmod_lt_of_pos (-i) hn
      rw [Int.neg_tmod] at this
      omega
    go_enter Try.func19, Try.ntmps19
    go_wp2
    go_ret
    rw [E.out, if_pos h]
    exact ⟨rfl, rfl⟩
  · go_enter Try.func19, Try.ntmps19
    go_wp2
    go_ret
    rw [E.out, if_neg (by omega)]
    exact ⟨rfl, rfl⟩
section
variable {w wr wr' : World} {X b gc Y Z n lb sb K : Nat} {lv lv' vN : Value} {s s' : Ast} {qs rs : Nat → Nat} {sv : Nat → Value} {gs : Nat → Bool} {ds : Nat → Nd} {mv : Nat → Int}
set_option maxRecDepth 100000 in
theorem stopped_any (h : LMm w wr X b gc Y Z n lb sb lv s vN qs rs sv gs ds mv K) :
    Calls Try.prog 20 #[.pointer (some ⟨b, 0, none⟩)] wr fun r w' => r = .returned (.bool false) ∧ LMm w w' X b gc Y Z n lb sb lv s vN qs rs sv gs ds mv K ∧ Kp gc wr w' := by
  have HF := hide (fault_any Y b gc lv s wr h.ar)
  have H := hide h
  have hgo := hide h.go
  clear h
  go_enter Try.func20, Try.ntmps20
  go_wp2_with fail
  refine HF.out.mono ?_
  rintro e w1 ⟨rfl, ha, c⟩
  rw [hgo.out]
  have HL := hide (H.out.look ha c)
  have HKP := hide (H.out.kpb c)
  unfold fltV
  clear H HF ha c
  go_wp2_with fail
  go_ret
  exact ⟨rfl, HL.out.below (below_alloc (Below.refl _ _) _), HKP.out.trans (Kp.of_below (below_alloc (Below.refl _ _) _))⟩
def turnV (i : Nat) (m o : Bool) : Value := .agg #[.int .i64 i, .bool m, .bool o]
def pkd (s : Ast) (ds : Nat → Nd) (i : Nat) : Ast := if (ds i).ph = 0 then s else s.made (ds i).cell ((ds i).acc (nth s.cells (ds i).cell))
theorem Kp.new {S : Nat → Prop} {x y z : World} (k : Kp gc x y) (c : Chg S y z) (hS : ∀ j, S j → x.heap.size ≤ j) : Kp gc x z :=
  ⟨Nat.le_trans k.1 c.size, fun j cs t a e => c.heap (k.2 j cs t a e) (fun q => by have := hS j q; have := lt_of_heap a; omega)⟩
theorem LMm.two (h : LMm w wr X b gc Y Z n lb sb lv s vN qs rs sv gs ds mv K) {t u : Nat} {cs cs' : Array Value} (ht : wr.heap[t]? = some (.cells cs 31 (0, 0))) (hu : wr.heap[u]? = some (.cells cs' 31 (0, 0))) (hwt : w.heap.size ≤ t) (hwu : w.heap.size ≤ u) (c : Chg (fun j => j = t ∨ j = u) wr wr') : LMm w wr' X b gc Y Z n lb sb lv s vN qs rs sv gs ds mv K := by
  obtain ⟨h1, h2, h3, h4, h5, h6, h7, h8⟩ := h.parts c (fun j hj => by
    rcases hj with hj | hj
    · subst hj; exact ⟨hwt, fun _ => ⟨_, _, ht, .inr rfl⟩⟩
    · subst hj; exact ⟨hwu, fun _ => ⟨_, _, hu, .inr rfl⟩⟩)
  obtain ⟨csb, hsb, _⟩ := h.se
  have hne : ∀ {j : Nat} {cs' : Array Value} {x : TypeId}, wr.heap[j]? = some (.cells cs' x (0, 0)) → x ≠ 31 → ¬ (j = t ∨ j = u) := fun hj hx e => e.elim (ne_ty hj ht hx) (ne_ty hj hu hx)
  obtain ⟨cx, hcx⟩ : ∃ S : Nat → Prop, S = fun j => j = t ∨ j = u := ⟨_, rfl⟩
  refine ⟨h1, h.zl, h2, ?_, h3, h4, h8 (hne hsb (by decide)), fun j hj => ⟨h6 j hj (hne (h.nd j hj).1 (by decide)), h5 j hj⟩, fun j hj => h7 j hj (hne (h.po j hj) (by decide)), h.inj, h.lo, h.inv, h.go, h.kp, h.cnt, h.lk, h.n64, h.mb⟩
  exact h.ar.kept c (hne h.ar.hb (by decide)) (hne h.ar.hc (by decide)) (fun j hj => by
    obtain ⟨_, cs', h3⟩ := own_ty8 h.ar.hl hj; exact hne h3 (by decide))
theorem results_cell1 {P : Program} {fn : Func} {p : Tmp} {ty : TypeId} (h : fn.results = #[.cell p ty]) (tmps : Array Value) (w : World) (g : Nat) (t : TypeId) (cs : Array Value) (fr : Nat × Nat) (d : TypeDesc)
    (hp : tmps.getD p undef = .pointer (some ⟨g, 0, none⟩)) (hg : w.heap[g]? = some (.cells cs t fr))
    (hu : P.underlying ty = some d) (hd : (match d with | .struct _ | .array _ _ => true | _ => false) = true) (hi : (P.info? ty).map (·.size) = some cs.size) :
    (results fn tmps).run P w = .ok (.agg cs) w := by
  have hp' : tmps[p]?.getD undef = .pointer (some ⟨g, 0, none⟩) := by simpa using hp
  simp only [results, h]
  simp [Result.andThen, hp', asAddr, run_loadVar_row w g t ty cs fr d hg hu hd hi]
theorem Try.results7 : Try.f7.results = #[.cell 4 31] := by kernel_rfl
theorem not34 {gc j : Nat} : kT gc 31 j := .inl (by unfold mT; decide)
set_option maxRecDepth 100000 in
set_option maxHeartbeats 4000000 in
theorem pick_any (h : LMm w wr X b gc Y Z n lb sb lv s vN qs rs sv gs ds mv K) {i : Nat} (x : Int) (hx : x % (n : Int) = (i : Int)) (hi : i < n) (hK : K ≤ 1099511627776) :
    Calls Try.prog 7 #[.pointer (some ⟨lb, 0, none⟩), .int .i64 x] wr fun r w' => r = .returned (turnV i (decide ((ds i).ph ≠ 0)) (decide (((stp (ds, s.cells) i).1 i).ph = 0))) ∧ ∃ lv' gs' mv', LMm w w' X b gc Y Z n lb sb lv' (pkd s ds i) vN qs rs sv gs' (stp (ds, s.cells) i).1 mv' (K + 1) ∧ Kp gc wr w' := by
  have hn := h.n64
  have H := hide h
  have HR := hide (fun W => rest42_any x n W (by omega) (by omega))
  rw [hx] at HR
  obtain ⟨x0, x1, _, _, _, _⟩ := h.cells hi
  have hii : (i : Int) < n := by omega
  have hn0 : ¬ (n : Int) = 0 := by omega
  have hl1 := lt_of_heap h.lm
  have HSP := hide (fun W (kb : Below wr.heap.size wr W) => stopped_any (h.below kb))
  clear h hx
  by_cases h0 : (ds i).ph = 0
  · go_enter Try.func7, Try.ntmps7
    go_wp2_with fail
    refine (HR.out _).mono ?_
    rintro e w1 ⟨rfl, rfl⟩
    go_wp2_with fail
    refine (HSP.out _ (below_alloc (below_alloc (Below.refl _ _) _) _)).mono ?_
    rintro e w2 ⟨rfl, h2, k2⟩
    have hR := k2.2 wr.heap.size _ 31 (heap_old (heap_new wr _) _) not34
    have hT := k2.2 (wr.heap.size + 1) _ 31 (by have := heap_new (wr.alloc (.cells #[.int .i64 0, .bool false, .bool false] 31)) (.cells #[.int .i64 i, .bool false, .bool false] 31); simpa using this) not34
    obtain ⟨x0, x1, x2, x3, x4, x5⟩ := h2.cells hi
    have HO := hide (lm_over h2 hi)
    have hm := fun w => Try.mOver (.pointer (some ⟨qs i, 0, none⟩)) w
    unfold mV at x2
    rw [show decide ((ds i).ph = 0) = true by simpa using h0] at HO
    have H2 := hide h2
    have HK2 := hide k2
    have HT := hide hT
    have HRR := hide hR
    clear h2 k2 hT hR HSP HR
    have r0 : w2.cell? ⟨wr.heap.size, 0, none⟩ = some (.int .i64 0) := cell_of HRR.out rfl
    have r1 : w2.cell? ⟨wr.heap.size, 1, none⟩ = some (.bool false) := cell_of HRR.out rfl
    have r2 : w2.cell? ⟨wr.heap.size, 2, none⟩ = some (.bool false) := cell_of HRR.out rfl
    have t0 : w2.cell? ⟨wr.heap.size + 1, 0, none⟩ = some (.int .i64 i) := cell_of HT.out rfl
    have t1 : w2.cell? ⟨wr.heap.size + 1, 1, none⟩ = some (.bool false) := cell_of HT.out rfl
    have t2 : w2.cell? ⟨wr.heap.size + 1, 2, none⟩ = some (.bool false) := cell_of HT.out rfl
    have fr := fun i => free_of HRR.out i
    have ft := fun i => free_of HT.out i
    go_wp2_with fail
    refine HO.out.mono ?_
    rintro e w3 ⟨rfl, rfl⟩
    go_wp2_with fail
    refine HO.out.mono ?_
    rintro e w4 ⟨rfl, rfl⟩
    go_wp2_with fail
    have cc : Chg (fun j => j = wr.heap.size + 1 ∨ j = wr.heap.size) w4 ((((w4.setCell ⟨wr.heap.size + 1, 2, none⟩ (.bool true)).setCell ⟨wr.heap.size, 0, none⟩ (.int .i64 i)).setCell ⟨wr.heap.size, 1, none⟩ (.bool false)).setCell ⟨wr.heap.size, 2, none⟩ (.bool true)) :=
      ((((Chg.refl _ _).put _ _ _ (.inl rfl)).put _ _ _ (.inr rfl)).put _ _ _ (.inr rfl)).put _ _ _ (.inr rfl)
    have hf := heap_set (i := 2) (heap_set (i := 1) (heap_set (i := 0) ((Below.heap_setCell w4 ⟨wr.heap.size + 1, 2, none⟩ (.bool true) wr.heap.size (by simp)).trans HRR.out) (.int .i64 i)) (.bool false)) (.bool true)
    have est : stp (ds, s.cells) i = (ds, s.cells) := if_pos h0
    have ewb := H.out.bel.size
    refine ⟨rfl, _, results_cell1 Try.results7 _ _ wr.heap.size 31 _ (0, 0) _ rfl hf Try.underlying31 rfl (by kernel_rfl), ?_, ?_⟩
    · rw [est, decide_eq_false (p := (ds i).ph ≠ 0) (by simpa using h0), decide_eq_true h0]
      rfl
    · rw [est, show pkd s ds i = s from if_pos h0]
      exact ⟨_, _, _, (H2.out.two HT.out HRR.out (by omega) (by omega) cc).mono, ((Kp.of_below (below_alloc (below_alloc (Below.refl _ _) _) _)).trans HK2.out).new cc (fun j hj => by omega)⟩
  · have hwb := H.out.mb i hi
    have hcb : 0 ≤ s.count ∧ s.count ≤ 1099511627776 := by have := H.out.cnt; have := H.out.lk; omega
    have hmw : IntKind.i64.wrap (mv i + 1) = mv i + 1 := IntWalk.i64_in _ (by omega)
    have hgt : decide (s.count + 1 > s.count) = true := decide_eq_true (by omega)
    go_enter Try.func7, Try.ntmps7
    go_wp2_with fail
    refine (HR.out _).mono ?_
    rintro e w1 ⟨rfl, rfl⟩
    go_wp2_with fail
    refine (HSP.out _ (below_alloc (below_alloc (Below.refl _ _) _) _)).mono ?_
    rintro e w2 ⟨rfl, h2, k2⟩
    have hR := k2.2 wr.heap.size _ 31 (heap_old (heap_new wr _) _) not34
    have hT := k2.2 (wr.heap.size + 1) _ 31 (by have := heap_new (wr.alloc (.cells #[.int .i64 0, .bool false, .bool false] 31)) (.cells #[.int .i64 i, .bool false, .bool false] 31); simpa using this) not34
    obtain ⟨x0, x1, x2, x3, x4, x5⟩ := h2.cells hi
    have HO := hide (lm_over h2 hi)
    have hm := fun w => Try.mOver (.pointer (some ⟨qs i, 0, none⟩)) w
    unfold mV at x2
    rw [show decide ((ds i).ph = 0) = false by simpa using h0] at HO
    have HCT := hide (count_any Y b gc lv s w2 h2.ar)
    have H2 := hide h2
    have HK2 := hide k2
    have HT := hide hT
    have HRR := hide hR
    clear h2 k2 hT hR HSP HR
    go_wp2_with fail
    refine HO.out.mono ?_
    rintro e w3 ⟨rfl, rfl⟩
    go_wp2_with fail
    refine HCT.out.mono ?_
    rintro e w4 ⟨rfl, ha4, c4, _⟩
    have H4 := hide (H2.out.look ha4 c4)
    have HK4 := hide (H2.out.kpb c4)
    clear ha4 c4 x0 x1 x2 x3 x4 x5
    obtain ⟨x0, x1, x2, x3, x4, x5⟩ := H4.out.cells hi
    have HSA := hide (seat_any H4.out hi h0 hK)
    clear x2
    go_wp2_with fail
    refine HSA.out.mono ?_
    rintro e w5 ⟨rfl, lv5, gs5, h5, k5⟩
    have H5 := hide h5
    have HK5 := hide k5
    have hct5 := count_any _ _ _ _ _ w5 h5.ar
    rw [show (s.made (ds i).cell ((ds i).acc (nth s.cells (ds i).cell))).count = s.count + 1 from rfl] at hct5
    have HCT5 := hide hct5
    clear hct5
    have HT5 := hide (k5.2 _ _ _ (HK4.out.2 _ _ _ HT.out not34) not34)
    have HR5 := hide (k5.2 _ _ _ (HK4.out.2 _ _ _ HRR.out not34) not34)
    clear h5 k5 x0 x1 x3 x4 x5
    obtain ⟨x0, x1, x2, x3, x4, x5⟩ := H5.out.cells hi
    unfold mV at x2
    clear HO HCT HSA
    go_wp2_with fail
    refine HCT5.out.mono ?_
    rintro e w6 ⟨rfl, ha6, c6, _⟩
    have HK6 := hide (H5.out.kpb c6)
    have H6 := hide (H5.out.look ha6 c6)
    have HT6 := hide (HK6.out.2 _ _ _ HT5.out not34)
    have HR6 := hide (HK6.out.2 _ _ _ HR5.out not34)
    clear ha6 c6 x0 x1 x2 x3 x4 x5 HCT5
    have t1 : w6.cell? ⟨wr.heap.size + 1, 1, none⟩ = some (.bool false) := cell_of HT6.out rfl
    have ft := fun i => free_of HT6.out i
    obtain ⟨y0, y1, y2, y3, y4, y5⟩ := H6.out.cells hi
    unfold mV at y2
    go_upto_region 11 with fail
    have ewb := H.out.bel.size
    have H7 := hide (H6.out.two HT6.out HR6.out (by omega) (by omega) (((Chg.refl (fun j => j = wr.heap.size + 1 ∨ j = wr.heap.size) w6).put (wr.heap.size + 1) 1 (.bool true) (.inl rfl))))
    have HT7 := hide (heap_set (i := 1) HT6.out (.bool true))
    have HR7 := hide ((Below.heap_setCell w6 ⟨wr.heap.size + 1, 1, none⟩ (.bool true) wr.heap.size (by simp)).trans HR6.out)
    have hk2 : Kp gc wr w3 := (Kp.of_below (below_alloc (below_alloc (Below.refl _ _) _) _)).trans HK2.out
    have hk7 : Kp gc wr (w6.setCell ⟨wr.heap.size + 1, 1, none⟩ (.bool true)) := (hk2.trans (HK4.out.trans (HK5.out.trans HK6.out))).new ((Chg.refl (fun j => j = wr.heap.size + 1 ∨ j = wr.heap.size) w6).put (wr.heap.size + 1) 1 (.bool true) (.inl rfl)) (fun j hj => by omega)
    have HK7 := hide hk7
    clear hk2 hk7
    generalize w6.setCell ⟨wr.heap.size + 1, 1, none⟩ (.bool true) = w7 at H7 HT7 HR7 HK7 ⊢
    clear t1 ft y0 y1 y2 y3 y4 y5 hgt HK2 HK4 HK5 HK6 HT HT5 HT6 HRR HR5 HR6 H2 H4 H5 H6
    obtain ⟨y0, y1, y2, y3, y4, y5⟩ := H7.out.cells hi
    clear y2
    go_upto_region 12 with fail
    obtain ⟨h8, k8⟩ := H7.out.bump hi (by omega)
    have H8 := hide h8
    have HT8 := hide (k8.2 _ _ _ HT7.out not34)
    have HR8 := hide (k8.2 _ _ _ HR7.out not34)
    have HK8 := hide (HK7.out.trans k8)
    clear h8 k8
    generalize w7.setCell ⟨sb, i * 3 + 2, none⟩ (.int .i64 (mv i + 1)) = w8 at H8 HT8 HR8 HK8 ⊢
    clear y0 y1 y3 y4 y5 H7 HT7 HR7 HK7
    obtain ⟨y0, y1, y2, y3, y4, y5⟩ := H8.out.cells hi
    unfold mV at y2
    have HO := hide (lm_over H8.out hi)
    have r0 : w8.cell? ⟨wr.heap.size, 0, none⟩ = some (.int .i64 0) := cell_of HR8.out rfl
    have r1 : w8.cell? ⟨wr.heap.size, 1, none⟩ = some (.bool false) := cell_of HR8.out rfl
    have r2 : w8.cell? ⟨wr.heap.size, 2, none⟩ = some (.bool false) := cell_of HR8.out rfl
    have t0 : w8.cell? ⟨wr.heap.size + 1, 0, none⟩ = some (.int .i64 i) := cell_of HT8.out rfl
    have t1 : w8.cell? ⟨wr.heap.size + 1, 1, none⟩ = some (.bool true) := cell_of HT8.out rfl
    have t2 : w8.cell? ⟨wr.heap.size + 1, 2, none⟩ = some (.bool false) := cell_of HT8.out rfl
    have fr := fun i => free_of HR8.out i
    have ft := fun i => free_of HT8.out i
    go_wp2_with fail
    refine HO.out.mono ?_
    rintro e w9 ⟨rfl, rfl⟩
    go_wp2_with fail
    obtain ⟨ov, hov⟩ : ∃ o, o = decide (((stp (ds, s.cells) i).1 i).ph = 0) := ⟨_, rfl⟩
    rw [← hov]
    have cc : Chg (fun j => j = wr.heap.size + 1 ∨ j = wr.heap.size) w9 ((((w9.setCell ⟨wr.heap.size + 1, 2, none⟩ (.bool ov)).setCell ⟨wr.heap.size, 0, none⟩ (.int .i64 i)).setCell ⟨wr.heap.size, 1, none⟩ (.bool true)).setCell ⟨wr.heap.size, 2, none⟩ (.bool ov)) :=
      ((((Chg.refl _ _).put _ _ _ (.inl rfl)).put _ _ _ (.inr rfl)).put _ _ _ (.inr rfl)).put _ _ _ (.inr rfl)
    have hf := heap_set (i := 2) (heap_set (i := 1) (heap_set (i := 0) ((Below.heap_setCell w9 ⟨wr.heap.size + 1, 2, none⟩ (.bool ov) wr.heap.size (by simp)).trans HR8.out) (.int .i64 i)) (.bool true)) (.bool ov)
    refine ⟨rfl, _, results_cell1 Try.results7 _ _ wr.heap.size 31 _ (0, 0) _ rfl hf Try.underlying31 rfl (by kernel_rfl), ?_, ?_⟩
    · rw [decide_eq_true (p := (ds i).ph ≠ 0) h0]
      rfl
    · rw [show pkd s ds i = s.made (ds i).cell ((ds i).acc (nth s.cells (ds i).cell)) from if_neg h0]
      exact ⟨_, _, _, H8.out.two HT8.out HR8.out (by omega) (by omega) cc, HK8.out.new cc (fun j hj => by omega)⟩
end
end Go.Proofs.Ytdjkidgkeekenaa
