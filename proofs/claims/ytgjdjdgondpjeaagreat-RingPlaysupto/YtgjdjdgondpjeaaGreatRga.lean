import Derived.Test.YtgjdjdgondpjeaaGreatRfa
import Derived.Test.YtgjdjdgondpjeaaGreatRfb
import Derived.Test.YtgjdjdgondpjeaaGreatFiB
import Derived.Deep.RegionHeld3
import Derived.Deep.Cut
import Derived.BigQuiet
import Derived.Deep.AppendLies
import Derived.Room.AppendUpon
import Derived.Deep.QuietTactic
import Derived.Deep.RegionWith
/- do 13. -/
namespace Go.Proofs.YtgjdjdgondpjeaaGreat
open Go.RowKit Go.Lib
set_option linter.unusedVariables false
set_option linter.unusedSimpArgs false
theorem upd_eq {n i : Nat} {ds es : Nat → Hs} (h : ∀ j, j < n → ds j = es j) (D : Hs) : ∀ j, j < n → upd ds i D j = upd es i D j := fun j hj => by
  by_cases e : j = i
  · subst e; rw [upd_same, upd_same]
  · rw [upd_other _ _ e, upd_other _ _ e]; exact h j hj
section
variable {w wr wr' : World} {X ab gc Y Z n : Nat} {tb : Array Value} {gP cP gH cH : Nat} {qs ps : Nat → Nat} {b C : Nat} {Y2 rb rc gG cG : Nat} {rs : Nat → Nat} {lv : Value} {s : Ast} {vs : Nat → Value} {gs : Nat → Bool} {ds : Nat → Hs} {K : Nat} {lu : Value} {t : Ast} {us : Nat → Value} {es : Nat → Hs} {J : Nat}
set_option maxRecDepth 100000 in
set_option maxHeartbeats 4000000 in
theorem do_ins (h : PB w wr X ab gc Y Z n tb gP cP gH cH qs ps b C Y2 rb rc gG cG rs lv s vs gs ds K lu t us es K) (he : ∀ i, i < n → ds i = es i) (hc : t.cells = s.cells) (hl : t.log = s.log) (hst : t.stopped = s.stopped) (hK : K ≤ 1099511627776) (who t1 t2 : Int) (ht1 : W64 t1) (ht2 : W64 t2) :
    Calls Tryz.prog 13 #[.pointer (some ⟨X, 0, none⟩), .agg #[.int .i64 1, .int .i64 who, .int .u64 t1, .int .u64 t2]] wr fun e w' => e = .returned (.bool true) ∧ PQ w w' X ab gc Y Z n tb gP cP gH cH qs ps b C Y2 rb rc gG cG rs (K + 1) := by
  obtain ⟨W, hW⟩ : ∃ W, W = wr.alloc (.cells #[.int .i64 1, .int .i64 who, .int .u64 t1, .int .u64 t2] 44) := ⟨_, rfl⟩
  have hbW : Below wr.heap.size wr W := by rw [hW]; exact below_alloc (Below.refl _ _) _
  have hzW : W.heap[wr.heap.size]? = some (.cells #[.int .i64 1, .int .i64 who, .int .u64 t1, .int .u64 t2] 44 (0, 0)) := by rw [hW]; exact heap_new _ _
  have hB := h.below hbW
  have n64 := h.rm.n64
  have HE := hide he; have HC := hide hc; have HL := hide hl; have HST := hide hst; have HKK := hide hK; have HT1 := hide ht1; have HT2 := hide ht2
  obtain ⟨i, hi'⟩ : ∃ i, i = ixO who n := ⟨_, rfl⟩
  have hik : i < n := by rw [hi']; exact (ixO_lt who n64.1).1
  have hwi := who_ix who n64.1
  rw [← hi'] at hwi
  have hk0 : ¬ (n : Int) = 0 := by omega
  have hkb : ((n : Int) == 0) = false := by simpa using hk0
  have hii : (i : Int) < (n : Int) := by omega
  obtain ⟨r, hr⟩ : ∃ r, r = who.tmod (n : Int) := ⟨_, rfl⟩
  have hrb : -(n : Int) < r ∧ r < n := by
    rw [hr]
    constructor
    · have := Int.tmod_lt_of_pos (-who) (show (0 : Int) < n by omega)
      rw [Int.neg_tmod] at this; omega
    · exact Int.tmod_lt_of_pos _ (by omega)
  rw [← hr] at hwi
  have hrr : who.tmod (n : Int) = r := hr.symm
  have hrw1 : IntKind.i64.wrap r = r := IntWalk.i64_in _ (by omega)
  have hrw2 : IntKind.i64.wrap (r + (n : Int)) = r + (n : Int) := IntWalk.i64_in _ (by omega)
  obtain ⟨x0, x1, x2, x3, x4, x5, x6⟩ := hB.cells
  have z0 : W.cell? ⟨wr.heap.size, 0, none⟩ = some (.int .i64 1) := cell_of hzW rfl
  have z1 : W.cell? ⟨wr.heap.size, 1, none⟩ = some (.int .i64 who) := cell_of hzW rfl
  have HB := hide hB; have HZ := hide hzW
  clear hi' hr h hB hbW hzW he hc hl hst hK ht1 ht2
  go_enter Tryz.func13, Tryz.ntmps13
  go_upto_region 1 with fail
  rw [← hW]
  clear hW
  generalize wr.heap.size = ob at HZ z0 z1 ⊢
  have v1 := gw_cell z1; have v4 := gw_cell x4
  refine wp_region_gw (by kernel_rfl) (by kernel_rfl) ?_
  repeat (go_big_quiet_step (rfl))
  refine wpQuiet_nil ?_
  intro _ hw'
  obtain ⟨x', hw''⟩ := hw'
  subst hw''
  replace HZ := hide ((x'.bel.block _ (lt_of_heap HZ.out)).trans HZ.out)
  replace HB := hide (HB.out.below x'.bel)
  clear v1 v4 x0 x1 x2 x3 x4 x5 x6 z0 z1
  generalize x'.world = wq at HB HZ ⊢
  clear x'
  obtain ⟨x0, x1, x2, x3, x4, x5, x6⟩ := HB.out.cells
  obtain ⟨y1, y2, y3⟩ := HB.out.at hik
  have z0 : wq.cell? ⟨ob, 0, none⟩ = some (.int .i64 1) := cell_of HZ.out rfl
  have z2 : wq.cell? ⟨ob, 2, none⟩ = some (.int .u64 t1) := cell_of HZ.out rfl
  have z3 : wq.cell? ⟨ob, 3, none⟩ = some (.int .u64 t2) := cell_of HZ.out rfl
  go_upto_if 19 with fail
  go_cut [5] from 18 to 26 (fun a wx => a = .int .i64 (i : Int) ∧ wq = wx)
  case first =>
    by_cases hr0 : r < 0
    · have hri : r + (n : Int) = (i : Int) := by rw [if_pos hr0] at hwi; exact hwi
      clear hwi
      go_wp2_with fail
      go_meet
      case rel => exact ⟨rfl, rfl⟩
    · have hri : r = (i : Int) := by rw [if_neg hr0] at hwi; exact hwi
      subst hri
      clear hwi hrb hrw2
      go_wp2_with fail
      go_meet
      case rel => exact ⟨rfl, rfl⟩
  case rest =>
    obtain ⟨rfl, rfl⟩ := hcut
    clear hwi hrb hrr hrw1 hrw2

    obtain ⟨E, hE⟩ : ∃ E : Int, E = (if (ds i).ph ≠ 0 then 61 else if t1 = Nev then 51 else 0) := ⟨_, rfl⟩
    obtain ⟨D, hD⟩ : ∃ D, D = (if (ds i).ph = 0 ∧ t1 ≠ Nev then (ds i).ins (t1, t2) else ds i) := ⟨_, rfl⟩
    have HP : Hid (∀ V, PB w V X ab gc Y Z n tb gP cP gH cH qs ps b C Y2 rb rc gG cG rs lv s vs gs ds K lu t us es K → Calls Tryz.prog 41 #[.pointer (some ⟨qs i, 0, none⟩), .agg #[.int .u64 t1, .int .u64 t2]] V fun e w' => e = .returned (.int .i64 E) ∧ ∃ vs', PB w w' X ab gc Y Z n tb gP cP gH cH qs ps b C Y2 rb rc gG cG rs lv s vs' gs (upd ds i D) K lu t us es K ∧ Chg (PF ab gc qs ps n lv) V w') := hide (fun V hV => by
      rw [hE, hD]
      exact (rmx_insert hV.rm hik t1 t2 HT1.out HT2.out).mono fun e w' ⟨a1, vs', a2, a3, a4⟩ => ⟨a1, vs', hV.pr a2 a4 (.inl rfl), a4⟩)
    have HR : Hid (∀ V vs', PB w V X ab gc Y Z n tb gP cP gH cH qs ps b C Y2 rb rc gG cG rs lv s vs' gs (upd ds i D) K lu t us es K → Calls Tryz.prog 42 #[.pointer (some ⟨rs i, 0, none⟩), .agg #[.int .u64 t1, .int .u64 t2]] V fun e w' => e = .returned (.int .i64 E) ∧ ∃ us', PB w w' X ab gc Y Z n tb gP cP gH cH qs ps b C Y2 rb rc gG cG rs lv s vs' gs (upd ds i D) K lu t us' (upd es i D) K ∧ Chg (RF rb rc rs n lu) V w') := hide (fun V vs' hV => by
      have z := rs_insert hV.rr hik t1 t2 HT1.out HT2.out
      rw [← HE.out i hik, ← hE, ← hD] at z
      exact z.mono fun e w' ⟨a1, us', a2, a4⟩ => ⟨a1, us', hV.re a2 a4 (.inl rfl), a4⟩)
    clear hE hD
    go_upto_region 6 with fail
    refine wp_region_noPanic ?_
    go_region_held3 (fun x => x.cell? ⟨X, 4, none⟩ = some (.slice (some ⟨gH, 0, none⟩) n cH) ∧ x.cell? ⟨gH, i, none⟩ = some (.pointer (some ⟨qs i, 0, none⟩)) ∧ x.cell? ⟨ob, 2, none⟩ = some (.int .u64 t1) ∧ x.cell? ⟨ob, 3, none⟩ = some (.int .u64 t2)) (first | exact ⟨x4, y2, z2, z3⟩ | exact ⟨p4, p5, p2, p3⟩ | go_keep)
      (first
        | (go_at_call 41; refine (HP.out _ (HB.out.below (below_drew (Below.refl _ _)))).mono ?_; rintro e w2 ⟨rfl, vs', hB2, c2⟩; have HB2 := hide hB2; have hz2 := (HB.out.below (below_drew (Below.refl _ _))).ext c2 (show wq.drew.heap[ob]? = _ from HZ.out) (.inl rfl); have HZ2 := hide hz2; obtain ⟨_, _, _, _, p4, _, p6⟩ := hB2.cells; obtain ⟨_, p5, p7⟩ := hB2.at hik; have p0 : w2.cell? ⟨ob, 0, none⟩ = some (.int .i64 1) := cell_of hz2 rfl; have p2 : w2.cell? ⟨ob, 2, none⟩ = some (.int .u64 t1) := cell_of hz2 rfl; have p3 : w2.cell? ⟨ob, 3, none⟩ = some (.int .u64 t2) := cell_of hz2 rfl; clear hB2 c2 hz2)
        | fail)
    all_goals
      refine NoPanic.normal ?_
      clear x0 x1 x2 x3 x4 x5 x6 y1 y2 y3 z0 z2 z3 HB HZ
      go_upto_region 7 with fail
      refine wp_region_noPanic ?_
      go_region_held3 (fun x => x.cell? ⟨X, 6, none⟩ = some (.slice (some ⟨gG, 0, none⟩) n cG) ∧ x.cell? ⟨gG, i, none⟩ = some (.pointer (some ⟨rs i, 0, none⟩)) ∧ x.cell? ⟨ob, 2, none⟩ = some (.int .u64 t1) ∧ x.cell? ⟨ob, 3, none⟩ = some (.int .u64 t2)) (first | exact ⟨p6, p7, p2, p3⟩ | exact ⟨r6, r7, r2, r3⟩ | go_keep)
        (first
          | (go_at_call 42; refine (HR.out _ _ (HB2.out.below (below_drew (Below.refl _ _)))).mono ?_; rintro e w3 ⟨rfl, us', hB3, c3⟩; have HBr := hide hB3; have hz3 := (HB2.out.below (below_drew (Below.refl _ _))).rext c3 (show w2.drew.heap[ob]? = _ from HZ2.out) (.inl rfl); obtain ⟨_, _, _, _, _, _, r6⟩ := hB3.cells; obtain ⟨_, _, r7⟩ := hB3.at hik; have r2 : w3.cell? ⟨ob, 2, none⟩ = some (.int .u64 t1) := cell_of hz3 rfl; have r3 : w3.cell? ⟨ob, 3, none⟩ = some (.int .u64 t2) := cell_of hz3 rfl; clear hB3 c3 hz3)
          | fail)
      all_goals
        refine NoPanic.normal ?_
        clear p0 p2 p3 p4 p5 p6 p7 r2 r3 r6 r7 HB2 HZ2
        go_wp2_with fail
        refine (alike_any HBr.out hik (by rw [upd_same, upd_same])).mono ?_
        rintro e w9 ⟨rfl, hb9⟩
        have HB9 := hide (HBr.out.below hb9)
        clear hb9
        go_wp2_with fail
        go_ret
        exact ⟨rfl, lv, s, _, gs, _, lu, t, _, _, HB9.out.mono (Nat.le_succ K) (Nat.le_succ K), upd_eq HE.out D, HC.out, HL.out, HST.out⟩
set_option maxRecDepth 100000 in
set_option maxHeartbeats 4000000 in
theorem do_tak (h : PB w wr X ab gc Y Z n tb gP cP gH cH qs ps b C Y2 rb rc gG cG rs lv s vs gs ds K lu t us es K) (he : ∀ i, i < n → ds i = es i) (hc : t.cells = s.cells) (hl : t.log = s.log) (hst : t.stopped = s.stopped) (hK : K ≤ 1099511627776) (who t1 t2 : Int) (ht1 : W64 t1) (ht2 : W64 t2) :
    Calls Tryz.prog 13 #[.pointer (some ⟨X, 0, none⟩), .agg #[.int .i64 2, .int .i64 who, .int .u64 t1, .int .u64 t2]] wr fun e w' => e = .returned (.bool true) ∧ PQ w w' X ab gc Y Z n tb gP cP gH cH qs ps b C Y2 rb rc gG cG rs (K + 1) := by
  obtain ⟨W, hW⟩ : ∃ W, W = wr.alloc (.cells #[.int .i64 2, .int .i64 who, .int .u64 t1, .int .u64 t2] 44) := ⟨_, rfl⟩
  have hbW : Below wr.heap.size wr W := by rw [hW]; exact below_alloc (Below.refl _ _) _
  have hzW : W.heap[wr.heap.size]? = some (.cells #[.int .i64 2, .int .i64 who, .int .u64 t1, .int .u64 t2] 44 (0, 0)) := by rw [hW]; exact heap_new _ _
  have hB := h.below hbW
  have n64 := h.rm.n64
  have HE := hide he; have HC := hide hc; have HL := hide hl; have HST := hide hst; have HKK := hide hK; have HT1 := hide ht1; have HT2 := hide ht2
  obtain ⟨i, hi'⟩ : ∃ i, i = ixO who n := ⟨_, rfl⟩
  have hik : i < n := by rw [hi']; exact (ixO_lt who n64.1).1
  have hwi := who_ix who n64.1
  rw [← hi'] at hwi
  have hk0 : ¬ (n : Int) = 0 := by omega
  have hkb : ((n : Int) == 0) = false := by simpa using hk0
  have hii : (i : Int) < (n : Int) := by omega
  obtain ⟨r, hr⟩ : ∃ r, r = who.tmod (n : Int) := ⟨_, rfl⟩
  have hrb : -(n : Int) < r ∧ r < n := by
    rw [hr]
    constructor
    · have := Int.tmod_lt_of_pos (-who) (show (0 : Int) < n by omega)
      rw [Int.neg_tmod] at this; omega
    · exact Int.tmod_lt_of_pos _ (by omega)
  rw [← hr] at hwi
  have hrr : who.tmod (n : Int) = r := hr.symm
  have hrw1 : IntKind.i64.wrap r = r := IntWalk.i64_in _ (by omega)
  have hrw2 : IntKind.i64.wrap (r + (n : Int)) = r + (n : Int) := IntWalk.i64_in _ (by omega)
  obtain ⟨x0, x1, x2, x3, x4, x5, x6⟩ := hB.cells
  have z0 : W.cell? ⟨wr.heap.size, 0, none⟩ = some (.int .i64 2) := cell_of hzW rfl
  have z1 : W.cell? ⟨wr.heap.size, 1, none⟩ = some (.int .i64 who) := cell_of hzW rfl
  have HB := hide hB; have HZ := hide hzW
  clear hi' hr h hB hbW hzW he hc hl hst hK ht1 ht2
  go_enter Tryz.func13, Tryz.ntmps13
  go_upto_region 1 with fail
  rw [← hW]
  clear hW
  generalize wr.heap.size = ob at HZ z0 z1 ⊢
  have v1 := gw_cell z1; have v4 := gw_cell x4
  refine wp_region_gw (by kernel_rfl) (by kernel_rfl) ?_
  repeat (go_big_quiet_step (rfl))
  refine wpQuiet_nil ?_
  intro _ hw'
  obtain ⟨x', hw''⟩ := hw'
  subst hw''
  replace HZ := hide ((x'.bel.block _ (lt_of_heap HZ.out)).trans HZ.out)
  replace HB := hide (HB.out.below x'.bel)
  clear v1 v4 x0 x1 x2 x3 x4 x5 x6 z0 z1
  generalize x'.world = wq at HB HZ ⊢
  clear x'
  obtain ⟨x0, x1, x2, x3, x4, x5, x6⟩ := HB.out.cells
  obtain ⟨y1, y2, y3⟩ := HB.out.at hik
  have z0 : wq.cell? ⟨ob, 0, none⟩ = some (.int .i64 2) := cell_of HZ.out rfl
  have z2 : wq.cell? ⟨ob, 2, none⟩ = some (.int .u64 t1) := cell_of HZ.out rfl
  have z3 : wq.cell? ⟨ob, 3, none⟩ = some (.int .u64 t2) := cell_of HZ.out rfl
  go_upto_if 19 with fail
  go_cut [5] from 18 to 26 (fun a wx => a = .int .i64 (i : Int) ∧ wq = wx)
  case first =>
    by_cases hr0 : r < 0
    · have hri : r + (n : Int) = (i : Int) := by rw [if_pos hr0] at hwi; exact hwi
      clear hwi
      go_wp2_with fail
      go_meet
      case rel => exact ⟨rfl, rfl⟩
    · have hri : r = (i : Int) := by rw [if_neg hr0] at hwi; exact hwi
      subst hri
      clear hwi hrb hrw2
      go_wp2_with fail
      go_meet
      case rel => exact ⟨rfl, rfl⟩
  case rest =>
    obtain ⟨rfl, rfl⟩ := hcut
    clear hwi hrb hrr hrw1 hrw2

    obtain ⟨E, hE⟩ : ∃ E : Int, E = (if (ds i).ph ≠ 0 then 61 else 0) := ⟨_, rfl⟩
    obtain ⟨D, hD⟩ : ∃ D, D = (if (ds i).ph = 0 then (ds i).tak else ds i) := ⟨_, rfl⟩
    have HP : Hid (∀ V, PB w V X ab gc Y Z n tb gP cP gH cH qs ps b C Y2 rb rc gG cG rs lv s vs gs ds K lu t us es K → Calls Tryz.prog 43 #[.pointer (some ⟨qs i, 0, none⟩)] V fun e w' => e = .returned (.int .i64 E) ∧ ∃ vs', PB w w' X ab gc Y Z n tb gP cP gH cH qs ps b C Y2 rb rc gG cG rs lv s vs' gs (upd ds i D) K lu t us es K ∧ Chg (PF ab gc qs ps n lv) V w') := hide (fun V hV => by
      rw [hE, hD]
      exact (rmx_take hV.rm hik).mono fun e w' ⟨a1, vs', a2, a3, a4⟩ => ⟨a1, vs', hV.pr a2 a4 (.inl rfl), a4⟩)
    have HR : Hid (∀ V vs', PB w V X ab gc Y Z n tb gP cP gH cH qs ps b C Y2 rb rc gG cG rs lv s vs' gs (upd ds i D) K lu t us es K → Calls Tryz.prog 44 #[.pointer (some ⟨rs i, 0, none⟩)] V fun e w' => e = .returned (.int .i64 E) ∧ ∃ us', PB w w' X ab gc Y Z n tb gP cP gH cH qs ps b C Y2 rb rc gG cG rs lv s vs' gs (upd ds i D) K lu t us' (upd es i D) K ∧ Chg (RF rb rc rs n lu) V w') := hide (fun V vs' hV => by
      have z := rs_take hV.rr hik
      rw [← HE.out i hik, ← hE, ← hD] at z
      exact z.mono fun e w' ⟨a1, us', a2, a4⟩ => ⟨a1, us', hV.re a2 a4 (.inl rfl), a4⟩)
    clear hE hD
    go_wp2_with fail
    refine (HP.out _ HB.out).mono ?_
    rintro e w2 ⟨rfl, vs', hB2, c2⟩
    have HB2 := hide hB2
    obtain ⟨_, _, _, _, _, _, p6⟩ := hB2.cells
    obtain ⟨_, _, p7⟩ := hB2.at hik
    clear hB2 c2 x0 x1 x2 x3 x4 x5 x6 y1 y2 y3 z0 z2 z3 HB HZ
    go_wp2_with fail
    refine (HR.out _ _ HB2.out).mono ?_
    rintro e w3 ⟨rfl, us', hB3, c3⟩
    have HBr := hide hB3
    clear hB3 c3 p6 p7 HB2
    go_wp2_with fail
    refine (alike_any HBr.out hik (by rw [upd_same, upd_same])).mono ?_
    rintro e w9 ⟨rfl, hb9⟩
    have HB9 := hide (HBr.out.below hb9)
    clear hb9
    go_wp2_with fail
    go_ret
    exact ⟨rfl, lv, s, _, gs, _, lu, t, _, _, HB9.out.mono (Nat.le_succ K) (Nat.le_succ K), upd_eq HE.out D, HC.out, HL.out, HST.out⟩
end
end Go.Proofs.YtgjdjdgondpjeaaGreat

/- do 13: a step, with a grant and without; held. -/
namespace Go.Proofs.YtgjdjdgondpjeaaGreat
open Go.RowKit Go.Lib
set_option linter.unusedVariables false
set_option linter.unusedSimpArgs false
section
variable {w wr wr' : World} {X ab gc Y Z n : Nat} {tb : Array Value} {gP cP gH cH : Nat} {qs ps : Nat → Nat} {b C : Nat} {Y2 rb rc gG cG : Nat} {rs : Nat → Nat} {lv : Value} {s : Ast} {vs : Nat → Value} {gs : Nat → Bool} {ds : Nat → Hs} {K : Nat} {lu : Value} {t : Ast} {us : Nat → Value} {es : Nat → Hs} {J : Nat}
/-- The law stops the document's arena. -/
theorem PB.halt (h : PB w wr X ab gc Y Z n tb gP cP gH cH qs ps b C Y2 rb rc gG cG rs lv s vs gs ds K lu t us es J) : PB w (wr.setCell ⟨rb, 3, none⟩ (.bool true)) X ab gc Y Z n tb gP cP gH cH qs ps b C Y2 rb rc gG cG rs lv s vs gs ds K lu { t with stopped := true } us es J := by
  have c : Chg (fun k => k = rb) wr (wr.setCell ⟨rb, 3, none⟩ (.bool true)) := (Chg.refl (fun k => k = rb) wr).putq _ _
  have cR : Chg (RF rb rc rs n lu) wr (wr.setCell ⟨rb, 3, none⟩ (.bool true)) := c.mono fun j hj => .inl hj
  have hb := h.rr.ar.hb
  unfold RObj at hb
  have hz := heap_set (i := 3) hb (.bool true)
  have ar : RIs (wr.setCell ⟨rb, 3, none⟩ (.bool true)) Y2 rb rc lu { t with stopped := true } := ⟨hz, c.heap h.rr.ar.hc (fun e => h.rr.ar.ne e.symm), ownsRow_block h.rr.ar.hl (fun g hg => c.block g (owns_lt h.rr.ar.hl hg).2 (fun e => (h.rr.ar.own_ne hg).1 e)), h.rr.ar.bY, h.rr.ar.gY, h.rr.ar.ne, h.rr.ar.len, Nat.le_trans h.rr.ar.yw c.size⟩
  refine h.re ⟨h.rr.lo, ar, own_stayR h.rr.rg (fun g hg => ?_), fun j hj => ⟨c.heap (h.rr.hd j hj).1 (ne_ty (h.rr.hd j hj).1 h.rr.ar.hb (by decide)), own_stayR (h.rr.hd j hj).2 (fun g hg => ?_)⟩, h.rr.inj, h.rr.lz, h.rr.hw, h.rr.cb, h.rr.cnt, h.rr.kp, h.rr.lk⟩ cR (.inl rfl)
  · obtain ⟨_, cs, h3⟩ := own_tyz h.rr.rg hg
    exact c.block _ (lt_of_heap h3) (ne_ty h3 h.rr.ar.hb (by decide))
  · obtain ⟨_, cs, h3⟩ := own_tyz (h.rr.hd j hj).2 hg
    exact c.block _ (lt_of_heap h3) (ne_ty h3 h.rr.ar.hb (by decide))
theorem PB.log1 (h : PB w wr X ab gc Y Z n tb gP cP gH cH qs ps b C Y2 rb rc gG cG rs lv s vs gs ds K lu t us es J) : ∃ ao c, lu = .slice ao t.log.length c ∧ wr.cell? ⟨rb, 1, none⟩ = some (.slice ao t.log.length c) := by
  obtain ⟨ao, c, e⟩ := owns_shape h.rr.ar.hl
  have z : wr.cell? ⟨rb, 1, none⟩ = some lu := cell_of h.rr.ar.hb rfl
  exact ⟨ao, c, e, by rw [← e]; exact z⟩
set_option maxRecDepth 100000 in
theorem count_call (h : PB w wr X ab gc Y Z n tb gP cP gH cH qs ps b C Y2 rb rc gG cG rs lv s vs gs ds K lu t us es J) (hl : t.log = s.log) : Calls Tryz.prog 48 #[.pointer (some ⟨ab, 0, none⟩)] wr fun r w' => r = .returned (.int .i64 (t.log.length : Int)) ∧ PB w w' X ab gc Y Z n tb gP cP gH cH qs ps b C Y2 rb rc gG cG rs lv s vs gs ds K lu t us es J := by
  refine (rmx_count h.rm).mono ?_
  rintro r w' ⟨rfl, hm, c⟩
  exact ⟨by rw [h.rm.cnt, hl], h.pr hm c (.inl rfl)⟩
set_option maxRecDepth 100000 in
set_option maxHeartbeats 4000000 in
theorem do_step (h : PB w wr X ab gc Y Z n tb gP cP gH cH qs ps b C Y2 rb rc gG cG rs lv s vs gs ds K lu t us es K) (he : ∀ i, i < n → ds i = es i) (hc : t.cells = s.cells) (hl : t.log = s.log) (hst : t.stopped = s.stopped) (hK : K ≤ 1099511627776) (who t1 t2 : Int) (ht1 : W64 t1) (ht2 : W64 t2) :
    Calls Tryz.prog 13 #[.pointer (some ⟨X, 0, none⟩), .agg #[.int .i64 3, .int .i64 who, .int .u64 t1, .int .u64 t2]] wr fun e w' => e = .returned (.bool true) ∧ PQ w w' X ab gc Y Z n tb gP cP gH cH qs ps b C Y2 rb rc gG cG rs (K + 1) := by
  obtain ⟨W, hW⟩ : ∃ W, W = wr.alloc (.cells #[.int .i64 3, .int .i64 who, .int .u64 t1, .int .u64 t2] 44) := ⟨_, rfl⟩
  have hbW : Below wr.heap.size wr W := by rw [hW]; exact below_alloc (Below.refl _ _) _
  have hzW : W.heap[wr.heap.size]? = some (.cells #[.int .i64 3, .int .i64 who, .int .u64 t1, .int .u64 t2] 44 (0, 0)) := by rw [hW]; exact heap_new _ _
  have hB := h.below hbW
  have n64 := h.rm.n64
  have HE := hide he; have HC := hide hc; have HL := hide hl; have HST := hide hst; have HKK := hide hK; have HT1 := hide ht1; have HT2 := hide ht2
  obtain ⟨i, hi'⟩ : ∃ i, i = ixO who n := ⟨_, rfl⟩
  have hik : i < n := by rw [hi']; exact (ixO_lt who n64.1).1
  have hwi := who_ix who n64.1
  rw [← hi'] at hwi
  have hk0 : ¬ (n : Int) = 0 := by omega
  have hkb : ((n : Int) == 0) = false := by simpa using hk0
  have hii : (i : Int) < (n : Int) := by omega
  obtain ⟨r, hr⟩ : ∃ r, r = who.tmod (n : Int) := ⟨_, rfl⟩
  have hrb : -(n : Int) < r ∧ r < n := by
    rw [hr]
    constructor
    · have := Int.tmod_lt_of_pos (-who) (show (0 : Int) < n by omega)
      rw [Int.neg_tmod] at this; omega
    · exact Int.tmod_lt_of_pos _ (by omega)
  rw [← hr] at hwi
  have hrr : who.tmod (n : Int) = r := hr.symm
  have hrw1 : IntKind.i64.wrap r = r := IntWalk.i64_in _ (by omega)
  have hrw2 : IntKind.i64.wrap (r + (n : Int)) = r + (n : Int) := IntWalk.i64_in _ (by omega)
  obtain ⟨x0, x1, x2, x3, x4, x5, x6⟩ := hB.cells
  have z0 : W.cell? ⟨wr.heap.size, 0, none⟩ = some (.int .i64 3) := cell_of hzW rfl
  have z1 : W.cell? ⟨wr.heap.size, 1, none⟩ = some (.int .i64 who) := cell_of hzW rfl
  have HB := hide hB; have HZ := hide hzW
  clear hi' hr h hB hbW hzW he hc hl hst hK ht1 ht2
  go_enter Tryz.func13, Tryz.ntmps13
  go_upto_region 1 with fail
  rw [← hW]
  clear hW
  generalize wr.heap.size = ob at HZ z0 z1 ⊢
  have v1 := gw_cell z1; have v4 := gw_cell x4
  refine wp_region_gw (by kernel_rfl) (by kernel_rfl) ?_
  repeat (go_big_quiet_step (rfl))
  refine wpQuiet_nil ?_
  intro _ hw'
  obtain ⟨x', hw''⟩ := hw'
  subst hw''
  replace HZ := hide ((x'.bel.block _ (lt_of_heap HZ.out)).trans HZ.out)
  replace HB := hide (HB.out.below x'.bel)
  clear v1 v4 x0 x1 x2 x3 x4 x5 x6 z0 z1
  generalize x'.world = wq at HB HZ ⊢
  clear x'
  obtain ⟨x0, x1, x2, x3, x4, x5, x6⟩ := HB.out.cells
  obtain ⟨y1, y2, y3⟩ := HB.out.at hik
  have z0 : wq.cell? ⟨ob, 0, none⟩ = some (.int .i64 3) := cell_of HZ.out rfl
  have z2 : wq.cell? ⟨ob, 2, none⟩ = some (.int .u64 t1) := cell_of HZ.out rfl
  have z3 : wq.cell? ⟨ob, 3, none⟩ = some (.int .u64 t2) := cell_of HZ.out rfl
  go_upto_if 19 with fail
  go_cut [5] from 18 to 26 (fun a wx => a = .int .i64 (i : Int) ∧ wq = wx)
  case first =>
    by_cases hr0 : r < 0
    · have hri : r + (n : Int) = (i : Int) := by rw [if_pos hr0] at hwi; exact hwi
      clear hwi
      go_wp2_with fail
      go_meet
      case rel => exact ⟨rfl, rfl⟩
    · have hri : r = (i : Int) := by rw [if_neg hr0] at hwi; exact hwi
      subst hri
      clear hwi hrb hrw2
      go_wp2_with fail
      go_meet
      case rel => exact ⟨rfl, rfl⟩
  case rest =>
    obtain ⟨rfl, rfl⟩ := hcut
    clear hwi hrb hrr hrw1 hrw2

    obtain ⟨D, hD⟩ : ∃ D, D = stpD s.cells s.stopped true b C (ds i) := ⟨_, rfl⟩
    obtain ⟨CS, hCS⟩ : ∃ D, D = stpC s.cells s.stopped true b C i (ds i) := ⟨_, rfl⟩
    obtain ⟨LG, hLG⟩ : ∃ D, D = stpL s.cells s.log s.stopped true b C i (ds i) := ⟨_, rfl⟩
    obtain ⟨ST, hSTT⟩ : ∃ D, D = s.stopped := ⟨_, rfl⟩
    have HG := hide (rmx_grant HB.out.rm hik)
    have HP : Hid (∀ V, PB w V X ab gc Y Z n tb gP cP gH cH qs ps b C Y2 rb rc gG cG rs lv s vs (upd gs i true) ds K lu t us es K → Calls Tryz.prog 46 #[.pointer (some ⟨qs i, 0, none⟩), .pointer (some ⟨ps i, 0, none⟩)] V fun e w' => e = .returned (.tuple #[]) ∧ ∃ lv' s' vs' gs', PB w w' X ab gc Y Z n tb gP cP gH cH qs ps b C Y2 rb rc gG cG rs lv' s' vs' gs' (upd ds i D) (K + 1) lu t us es K ∧ s'.cells = CS ∧ s'.log = LG ∧ s'.stopped = ST) := hide (fun V hV => by
      refine (pb_step hV hik (upd_same _ _ _) HKK.out).mono ?_
      rw [← hD, ← hCS, ← hLG]
      rintro e w' ⟨a1, lv', s', vs', gs', a2, ⟨a3, a4, a5⟩, a6⟩
      exact ⟨a1, lv', s', vs', gs', a2, a3, a4, by rw [a5, hSTT]; unfold stpT; rw [if_neg (by simp)]⟩)
    have HWD : Hid (∀ k, k < t.cells.length → W64 (nth t.cells k)) := hide (by rw [HC.out]; exact HB.out.rm.wd)
    have HR : Hid (∀ V lv' s' vs' gs', PB w V X ab gc Y Z n tb gP cP gH cH qs ps b C Y2 rb rc gG cG rs lv' s' vs' gs' (upd ds i D) (K + 1) lu t us es K → Calls Tryz.prog 47 #[.pointer (some ⟨rs i, 0, none⟩), .pointer (some ⟨rb, 0, none⟩), .int .i64 i] V fun e w' => e = .returned (.tuple #[]) ∧ ∃ lu' t' us', PB w w' X ab gc Y Z n tb gP cP gH cH qs ps b C Y2 rb rc gG cG rs lv' s' vs' gs' (upd ds i D) (K + 1) lu' t' us' (upd es i D) (K + 1) ∧ t'.cells = CS ∧ t'.log = LG ∧ t'.stopped = ST) := hide (fun V lv' s' vs' gs' hV => by
      refine (pb_rstep hV hik HWD.out HKK.out).mono ?_
      rw [← HE.out i hik, HC.out, HL.out, HST.out, ← hD, ← hCS, ← hLG, ← hSTT]
      rintro e w' ⟨a1, lu', t', us', a2, ⟨a3, a4, a5⟩, a6⟩
      exact ⟨a1, lu', t', us', a2, a3, a4, a5⟩)
    clear hD hCS hLG hSTT
    go_wp2_with fail
    refine HG.out.mono ?_
    rintro e wg ⟨rfl, hm, c⟩
    have HBg := hide (HB.out.pr hm c (.inl rfl))
    clear hm c x0 x1 x2 x3 x4 x5 x6 y1 y2 y3 z0 z2 z3 HB HZ HG
    obtain ⟨x0, x1, x2, x3, x4, x5, x6⟩ := HBg.out.cells
    obtain ⟨y1, y2, y3⟩ := HBg.out.at hik
    go_upto_region 15 with fail
    refine wp_region_noPanic ?_
    go_region_held3 (fun x => x.cell? ⟨X, 3, none⟩ = some (.slice (some ⟨gP, 0, none⟩) n cP) ∧ x.cell? ⟨gP, i, none⟩ = some (.pointer (some ⟨ps i, 0, none⟩)) ∧ x.cell? ⟨X, 4, none⟩ = some (.slice (some ⟨gH, 0, none⟩) n cH) ∧ x.cell? ⟨gH, i, none⟩ = some (.pointer (some ⟨qs i, 0, none⟩))) (first | exact ⟨x3, y1, x4, y2⟩ | exact ⟨p3, q1, p4, q2⟩ | go_keep)
      (first
        | (go_at_call 46; refine (HP.out _ (HBg.out.below (below_drew (Below.refl _ _)))).mono ?_; rintro e w2 ⟨rfl, lv2, s2, vs2, gs2, hB2, hf1, hf2, hf3⟩; have HB2 := hide hB2; have HF1 := hide hf1; have HF2 := hide hf2; have HF3 := hide hf3; obtain ⟨_, _, _, p3, p4, p5, p6⟩ := hB2.cells; obtain ⟨q1, q2, q3⟩ := hB2.at hik; clear hB2 hf1 hf2 hf3)
        | fail)
    all_goals
      refine NoPanic.normal ?_
      clear x0 x1 x2 x3 x4 x5 x6 y1 y2 y3
      clear HBg
      go_upto_region 16 with fail
      refine wp_region_noPanic ?_
      go_region_held3 (fun x => x.cell? ⟨X, 5, none⟩ = some (.pointer (some ⟨rb, 0, none⟩)) ∧ x.cell? ⟨X, 6, none⟩ = some (.slice (some ⟨gG, 0, none⟩) n cG) ∧ x.cell? ⟨gG, i, none⟩ = some (.pointer (some ⟨rs i, 0, none⟩))) (first | exact ⟨p5, p6, q3⟩ | exact ⟨r5, r6, r7⟩ | go_keep)
        (first
          | (go_at_call 47; refine (HR.out _ _ _ _ _ (HB2.out.below (below_drew (Below.refl _ _)))).mono ?_; rintro e w3 ⟨rfl, lu2, t2, us2, hB3, hg1, hg2, hg3⟩; have HBr := hide hB3; have HG1 := hide hg1; have HG2 := hide hg2; have HG3 := hide hg3; obtain ⟨_, _, r2, _, _, r5, r6⟩ := hB3.cells; obtain ⟨_, _, r7⟩ := hB3.at hik; clear hB3 hg1 hg2 hg3)
          | fail)
      all_goals
        refine NoPanic.normal ?_
        have HLG : Hid (t2.log = s2.log) := hide (by rw [HG2.out, HF2.out])
        have HAL := hide (fun V (kb : Below w3.heap.size w3 V) => alike_any (HBr.out.below kb) hik (by rw [upd_same, upd_same]))
        have HCT := hide (fun V (kb : Below w3.heap.size w3 V) => count_call (HBr.out.below kb) HLG.out)
        obtain ⟨ao, cl, HLU, r1⟩ := HBr.out.log1
        have HL1 := hide (fun V (hV : PB w V X ab gc Y Z n tb gP cP gH cH qs ps b C Y2 rb rc gG cG rs lv2 s2 vs2 gs2 (upd ds i D) (K + 1) lu2 t2 us2 (upd es i D) (K + 1)) => (show V.cell? ⟨rb, 1, none⟩ = some (.slice ao t2.log.length cl) from by rw [← HLU]; exact cell_of hV.rr.ar.hb rfl))
        obtain ⟨T2, hT2⟩ : ∃ T, T = t2.log.length := ⟨_, rfl⟩
        have HT2' := hide hT2
        rw [← hT2] at r1 HL1 HCT
        clear p3 p4 p5 p6 q1 q2 q3 r6 r7 HB2 HLU hT2
        go_upto_region 17 with fail
        refine wp_region_noPanic ?_
        go_region_held3 (fun x => x.cell? ⟨X, 2, none⟩ = some (.pointer (some ⟨ab, 0, none⟩)) ∧ x.cell? ⟨X, 5, none⟩ = some (.pointer (some ⟨rb, 0, none⟩)) ∧ x.cell? ⟨rb, 1, none⟩ = some (.slice ao T2 cl)) (first | exact ⟨r2, r5, r1⟩ | exact ⟨u2, u5, u1⟩ | exact ⟨v2, v5, v1⟩ | go_keep)
          (first
            | (go_at_call 12; refine (HAL.out _ (below_drew (Below.refl _ _))).mono ?_; rintro e w4 ⟨rfl, hb4⟩; have HB4 := hide (HBr.out.below (below_on (a := w3) (below_drew (Below.refl _ _)) hb4)); have HK4 := hide (below_on (a := w3) (below_drew (Below.refl _ _)) hb4); obtain ⟨_, _, u2, _, _, u5, _⟩ := HB4.out.cells; have u1 := HL1.out _ HB4.out; clear hb4)
            | (go_at_call 48; refine (HCT.out _ HK4.out).mono ?_; rintro e w5 ⟨rfl, hB5⟩; have HB5 := hide hB5; obtain ⟨_, _, v2, _, _, v5, _⟩ := HB5.out.cells; have v1 := HL1.out _ HB5.out; clear hB5)
            | fail)
        all_goals
          refine NoPanic.normal ?_
          clear r1 r2 r5 u1 u2 u5 v1 v2 v5
          go_wp2_with fail
          go_ret
          exact ⟨rfl, lv2, s2, vs2, gs2, _, lu2, t2, us2, _, HB5.out, upd_eq HE.out D, by rw [HG1.out, HF1.out], HLG.out, by rw [HG3.out, HF3.out]⟩
set_option maxRecDepth 100000 in
set_option maxHeartbeats 4000000 in
theorem do_bare (h : PB w wr X ab gc Y Z n tb gP cP gH cH qs ps b C Y2 rb rc gG cG rs lv s vs gs ds K lu t us es K) (he : ∀ i, i < n → ds i = es i) (hc : t.cells = s.cells) (hl : t.log = s.log) (hst : t.stopped = s.stopped) (hK : K ≤ 1099511627776) (who t1 t2 : Int) (ht1 : W64 t1) (ht2 : W64 t2) :
    Calls Tryz.prog 13 #[.pointer (some ⟨X, 0, none⟩), .agg #[.int .i64 4, .int .i64 who, .int .u64 t1, .int .u64 t2]] wr fun e w' => e = .returned (.bool true) ∧ PQ w w' X ab gc Y Z n tb gP cP gH cH qs ps b C Y2 rb rc gG cG rs (K + 1) := by
  obtain ⟨W, hW⟩ : ∃ W, W = wr.alloc (.cells #[.int .i64 4, .int .i64 who, .int .u64 t1, .int .u64 t2] 44) := ⟨_, rfl⟩
  have hbW : Below wr.heap.size wr W := by rw [hW]; exact below_alloc (Below.refl _ _) _
  have hzW : W.heap[wr.heap.size]? = some (.cells #[.int .i64 4, .int .i64 who, .int .u64 t1, .int .u64 t2] 44 (0, 0)) := by rw [hW]; exact heap_new _ _
  have hB := h.below hbW
  have n64 := h.rm.n64
  have HE := hide he; have HC := hide hc; have HL := hide hl; have HST := hide hst; have HKK := hide hK; have HT1 := hide ht1; have HT2 := hide ht2
  obtain ⟨i, hi'⟩ : ∃ i, i = ixO who n := ⟨_, rfl⟩
  have hik : i < n := by rw [hi']; exact (ixO_lt who n64.1).1
  have hwi := who_ix who n64.1
  rw [← hi'] at hwi
  have hk0 : ¬ (n : Int) = 0 := by omega
  have hkb : ((n : Int) == 0) = false := by simpa using hk0
  have hii : (i : Int) < (n : Int) := by omega
  obtain ⟨r, hr⟩ : ∃ r, r = who.tmod (n : Int) := ⟨_, rfl⟩
  have hrb : -(n : Int) < r ∧ r < n := by
    rw [hr]
    constructor
    · have := Int.tmod_lt_of_pos (-who) (show (0 : Int) < n by omega)
      rw [Int.neg_tmod] at this; omega
    · exact Int.tmod_lt_of_pos _ (by omega)
  rw [← hr] at hwi
  have hrr : who.tmod (n : Int) = r := hr.symm
  have hrw1 : IntKind.i64.wrap r = r := IntWalk.i64_in _ (by omega)
  have hrw2 : IntKind.i64.wrap (r + (n : Int)) = r + (n : Int) := IntWalk.i64_in _ (by omega)
  obtain ⟨x0, x1, x2, x3, x4, x5, x6⟩ := hB.cells
  have z0 : W.cell? ⟨wr.heap.size, 0, none⟩ = some (.int .i64 4) := cell_of hzW rfl
  have z1 : W.cell? ⟨wr.heap.size, 1, none⟩ = some (.int .i64 who) := cell_of hzW rfl
  have HB := hide hB; have HZ := hide hzW
  clear hi' hr h hB hbW hzW he hc hl hst hK ht1 ht2
  go_enter Tryz.func13, Tryz.ntmps13
  go_upto_region 1 with fail
  rw [← hW]
  clear hW
  generalize wr.heap.size = ob at HZ z0 z1 ⊢
  have v1 := gw_cell z1; have v4 := gw_cell x4
  refine wp_region_gw (by kernel_rfl) (by kernel_rfl) ?_
  repeat (go_big_quiet_step (rfl))
  refine wpQuiet_nil ?_
  intro _ hw'
  obtain ⟨x', hw''⟩ := hw'
  subst hw''
  replace HZ := hide ((x'.bel.block _ (lt_of_heap HZ.out)).trans HZ.out)
  replace HB := hide (HB.out.below x'.bel)
  clear v1 v4 x0 x1 x2 x3 x4 x5 x6 z0 z1
  generalize x'.world = wq at HB HZ ⊢
  clear x'
  obtain ⟨x0, x1, x2, x3, x4, x5, x6⟩ := HB.out.cells
  obtain ⟨y1, y2, y3⟩ := HB.out.at hik
  have z0 : wq.cell? ⟨ob, 0, none⟩ = some (.int .i64 4) := cell_of HZ.out rfl
  have z2 : wq.cell? ⟨ob, 2, none⟩ = some (.int .u64 t1) := cell_of HZ.out rfl
  have z3 : wq.cell? ⟨ob, 3, none⟩ = some (.int .u64 t2) := cell_of HZ.out rfl
  go_upto_if 19 with fail
  go_cut [5] from 18 to 26 (fun a wx => a = .int .i64 (i : Int) ∧ wq = wx)
  case first =>
    by_cases hr0 : r < 0
    · have hri : r + (n : Int) = (i : Int) := by rw [if_pos hr0] at hwi; exact hwi
      clear hwi
      go_wp2_with fail
      go_meet
      case rel => exact ⟨rfl, rfl⟩
    · have hri : r = (i : Int) := by rw [if_neg hr0] at hwi; exact hwi
      subst hri
      clear hwi hrb hrw2
      go_wp2_with fail
      go_meet
      case rel => exact ⟨rfl, rfl⟩
  case rest =>
    obtain ⟨rfl, rfl⟩ := hcut
    clear hwi hrb hrr hrw1 hrw2

    obtain ⟨g, hg⟩ : ∃ g, g = gs i := ⟨_, rfl⟩
    have HGR := hide (rmx_granted HB.out.rm hik)
    rw [← hg] at HGR
    have HGG := hide hg
    clear hg
    go_wp2_with fail
    refine HGR.out.mono ?_
    rintro e wg ⟨rfl, hm, c⟩
    have HBg := hide (HB.out.pr hm c (.inl rfl))
    clear hm c x0 x1 x2 x3 x4 x5 x6 y1 y2 y3 z0 z2 z3 HB HZ HGR
    obtain ⟨x0, x1, x2, x3, x4, x5, x6⟩ := HBg.out.cells
    obtain ⟨y1, y2, y3⟩ := HBg.out.at hik
    have HDONE : Hid (PQ w wg X ab gc Y Z n tb gP cP gH cH qs ps b C Y2 rb rc gG cG rs (K + 1)) := hide ⟨lv, s, vs, gs, ds, lu, t, us, es, HBg.out.mono (Nat.le_succ K) (Nat.le_succ K), HE.out, HC.out, HL.out, HST.out⟩
    cases g with
    | true =>
      go_wp2_with fail
      go_ret
      exact ⟨rfl, HDONE.out⟩
    | false =>
      have HOV := hide (rs_over HBg.out.rr hik)
      by_cases hph : (es i).ph = 0
      · rw [show decide ((es i).ph = 0) = true by simpa using hph] at HOV
        clear hph
        go_wp2_with fail
        refine HOV.out.mono ?_
        rintro e wo ⟨rfl, rfl⟩
        go_wp2_with fail
        go_ret
        exact ⟨rfl, HDONE.out⟩
      · rw [show decide ((es i).ph = 0) = false by simpa using hph] at HOV
        have hph2 : (ds i).ph ≠ 0 := by rw [HE.out i hik]; exact hph
        obtain ⟨D, hD⟩ : ∃ D, D = stpD s.cells s.stopped false b C (ds i) := ⟨_, rfl⟩
        obtain ⟨CS, hCS⟩ : ∃ D, D = s.cells := ⟨_, rfl⟩
        obtain ⟨LG, hLG⟩ : ∃ D, D = s.log := ⟨_, rfl⟩
        obtain ⟨ST, hSTT⟩ : ∃ D, D = true := ⟨_, rfl⟩
        have hgo1 : goB s.stopped false (ds i) = false := by unfold goB; simp
        have hgo2 : goB true true (es i) = false := by unfold goB; simp
        have hD2 : stpD t.cells true true b C (es i) = D := by
          rw [hD]
          unfold stpD
          rw [if_neg hph, if_neg hph2, if_neg (by simp), if_neg (by simp), HE.out i hik]
        have HP : Hid (∀ V, PB w V X ab gc Y Z n tb gP cP gH cH qs ps b C Y2 rb rc gG cG rs lv s vs gs ds K lu t us es K → Calls Tryz.prog 46 #[.pointer (some ⟨qs i, 0, none⟩), .pointer (some ⟨ps i, 0, none⟩)] V fun e w' => e = .returned (.tuple #[]) ∧ ∃ lv' s' vs' gs', PB w w' X ab gc Y Z n tb gP cP gH cH qs ps b C Y2 rb rc gG cG rs lv' s' vs' gs' (upd ds i D) (K + 1) lu t us es K ∧ s'.cells = CS ∧ s'.log = LG ∧ s'.stopped = ST) := hide (fun V hV => by
          refine (pb_step hV hik HGG.out.symm HKK.out).mono ?_
          rw [← hD]
          rintro e w' ⟨a1, lv', s', vs', gs', a2, ⟨a3, a4, a5⟩, a6⟩
          refine ⟨a1, lv', s', vs', gs', a2, ?_, ?_, ?_⟩
          · rw [a3]; unfold stpC; rw [hgo1]; exact hCS.symm
          · rw [a4]; unfold stpL; rw [hgo1]; exact hLG.symm
          · rw [a5]; unfold stpT; rw [if_pos ⟨hph2, rfl⟩]; exact hSTT.symm)
        have HWD : Hid (∀ k, k < t.cells.length → W64 (nth t.cells k)) := hide (by rw [HC.out]; exact HBg.out.rm.wd)
        have HR : Hid (∀ V lv' s' vs' gs', PB w V X ab gc Y Z n tb gP cP gH cH qs ps b C Y2 rb rc gG cG rs lv' s' vs' gs' (upd ds i D) (K + 1) lu { t with stopped := true } us es K → Calls Tryz.prog 47 #[.pointer (some ⟨rs i, 0, none⟩), .pointer (some ⟨rb, 0, none⟩), .int .i64 i] V fun e w' => e = .returned (.tuple #[]) ∧ ∃ lu' t' us', PB w w' X ab gc Y Z n tb gP cP gH cH qs ps b C Y2 rb rc gG cG rs lv' s' vs' gs' (upd ds i D) (K + 1) lu' t' us' (upd es i D) (K + 1) ∧ t'.cells = CS ∧ t'.log = LG ∧ t'.stopped = ST) := hide (fun V lv' s' vs' gs' hV => by
          refine (pb_rstep hV hik HWD.out HKK.out).mono ?_
          rintro e w' ⟨a1, lu', t', us', a2, ⟨a3, a4, a5⟩, a6⟩
          have a2' := a2
          dsimp only at a2'
          rw [hD2] at a2'
          refine ⟨a1, lu', t', us', a2', ?_, ?_, ?_⟩
          · rw [a3]; unfold stpC; dsimp only; rw [hgo2]; show t.cells = CS; rw [hCS]; exact HC.out
          · rw [a4]; unfold stpL; dsimp only; rw [hgo2]; show t.log = LG; rw [hLG]; exact HL.out
          · rw [a5, hSTT])
        clear hD hCS hLG hSTT hgo1 hgo2 hD2 hph hph2 HDONE
        go_wp2_with (go_at_call 40; refine HOV.out.mono ?_; rintro e wo ⟨rfl, rfl⟩)
        go_upto_region 21 with fail
        refine wp_region_noPanic ?_
        go_region_held3 (fun x => x.cell? ⟨X, 3, none⟩ = some (.slice (some ⟨gP, 0, none⟩) n cP) ∧ x.cell? ⟨gP, i, none⟩ = some (.pointer (some ⟨ps i, 0, none⟩)) ∧ x.cell? ⟨X, 4, none⟩ = some (.slice (some ⟨gH, 0, none⟩) n cH) ∧ x.cell? ⟨gH, i, none⟩ = some (.pointer (some ⟨qs i, 0, none⟩))) (first | exact ⟨x3, y1, x4, y2⟩ | exact ⟨p3, q1, p4, q2⟩ | go_keep)
          (first
            | (go_at_call 46; refine (HP.out _ (HBg.out.below (below_drew (Below.refl _ _)))).mono ?_; rintro e w2 ⟨rfl, lv2, s2, vs2, gs2, hB2, hf1, hf2, hf3⟩; have HB2 := hide hB2; have HF1 := hide hf1; have HF2 := hide hf2; have HF3 := hide hf3; obtain ⟨_, _, _, p3, p4, p5, p6⟩ := hB2.cells; obtain ⟨q1, q2, q3⟩ := hB2.at hik; clear hB2 hf1 hf2 hf3)
            | fail)
        all_goals
          refine NoPanic.normal ?_
          clear x0 x1 x2 x3 x4 x5 x6 y1 y2 y3
          have rbf : w2.frozen? ⟨rb, 3, none⟩ = false := free_of HB2.out.rr.ar.hb 3
          have rbc : w2.cell? ⟨rb, 3, none⟩ = some (.bool t.stopped) := cell_of HB2.out.rr.ar.hb rfl
          clear HBg HOV
          have HH2 := hide HB2.out.halt
          go_upto_region 23 with fail
          generalize w2.setCell ⟨rb, 3, none⟩ (.bool true) = wh at HH2 ⊢
          replace HB2 := HH2
          clear HH2 rbf rbc p3 p4 p5 p6 q1 q2 q3
          obtain ⟨_, _, _, p3, p4, p5, p6⟩ := HB2.out.cells
          obtain ⟨q1, q2, q3⟩ := HB2.out.at hik
          refine wp_region_noPanic ?_
          go_region_held3 (fun x => x.cell? ⟨X, 5, none⟩ = some (.pointer (some ⟨rb, 0, none⟩)) ∧ x.cell? ⟨X, 6, none⟩ = some (.slice (some ⟨gG, 0, none⟩) n cG) ∧ x.cell? ⟨gG, i, none⟩ = some (.pointer (some ⟨rs i, 0, none⟩))) (first | exact ⟨p5, p6, q3⟩ | exact ⟨r5, r6, r7⟩ | go_keep)
            (first
              | (go_at_call 47; refine (HR.out _ _ _ _ _ (HB2.out.below (below_drew (Below.refl _ _)))).mono ?_; rintro e w3 ⟨rfl, lu2, t2, us2, hB3, hg1, hg2, hg3⟩; have HBr := hide hB3; have HG1 := hide hg1; have HG2 := hide hg2; have HG3 := hide hg3; obtain ⟨_, _, r2, _, _, r5, r6⟩ := hB3.cells; obtain ⟨_, _, r7⟩ := hB3.at hik; clear hB3 hg1 hg2 hg3)
              | fail)
          all_goals
            refine NoPanic.normal ?_
            have HLG : Hid (t2.log = s2.log) := hide (by rw [HG2.out, HF2.out])
            have HAL := hide (fun V (kb : Below w3.heap.size w3 V) => alike_any (HBr.out.below kb) hik (by rw [upd_same, upd_same]))
            have HCT := hide (fun V (kb : Below w3.heap.size w3 V) => count_call (HBr.out.below kb) HLG.out)
            obtain ⟨ao, cl, HLU, r1⟩ := HBr.out.log1
            have HL1 := hide (fun V (hV : PB w V X ab gc Y Z n tb gP cP gH cH qs ps b C Y2 rb rc gG cG rs lv2 s2 vs2 gs2 (upd ds i D) (K + 1) lu2 t2 us2 (upd es i D) (K + 1)) => (show V.cell? ⟨rb, 1, none⟩ = some (.slice ao t2.log.length cl) from by rw [← HLU]; exact cell_of hV.rr.ar.hb rfl))
            obtain ⟨T2, hT2⟩ : ∃ T, T = t2.log.length := ⟨_, rfl⟩
            have HT2' := hide hT2
            rw [← hT2] at r1 HL1 HCT
            clear p3 p4 p5 p6 q1 q2 q3 r6 r7 HB2 HLU hT2
            go_upto_region 24 with fail
            refine wp_region_noPanic ?_
            go_region_held3 (fun x => x.cell? ⟨X, 2, none⟩ = some (.pointer (some ⟨ab, 0, none⟩)) ∧ x.cell? ⟨X, 5, none⟩ = some (.pointer (some ⟨rb, 0, none⟩)) ∧ x.cell? ⟨rb, 1, none⟩ = some (.slice ao T2 cl)) (first | exact ⟨r2, r5, r1⟩ | exact ⟨u2, u5, u1⟩ | exact ⟨v2, v5, v1⟩ | go_keep)
              (first
                | (go_at_call 12; refine (HAL.out _ (below_drew (Below.refl _ _))).mono ?_; rintro e w4 ⟨rfl, hb4⟩; have HB4 := hide (HBr.out.below (below_on (a := w3) (below_drew (Below.refl _ _)) hb4)); have HK4 := hide (below_on (a := w3) (below_drew (Below.refl _ _)) hb4); obtain ⟨_, _, u2, _, _, u5, _⟩ := HB4.out.cells; have u1 := HL1.out _ HB4.out; clear hb4)
                | (go_at_call 48; refine (HCT.out _ HK4.out).mono ?_; rintro e w5 ⟨rfl, hB5⟩; have HB5 := hide hB5; obtain ⟨_, _, v2, _, _, v5, _⟩ := HB5.out.cells; have v1 := HL1.out _ HB5.out; clear hB5)
                | fail)
            all_goals
              refine NoPanic.normal ?_
              clear r1 r2 r5 u1 u2 u5 v1 v2 v5
              go_wp2_with fail
              go_ret
              exact ⟨rfl, lv2, s2, vs2, gs2, _, lu2, t2, us2, _, HB5.out, upd_eq HE.out D, by rw [HG1.out, HF1.out], HLG.out, by rw [HG3.out, HF3.out]⟩
set_option maxRecDepth 100000 in
set_option maxHeartbeats 4000000 in
theorem do_held (h : PB w wr X ab gc Y Z n tb gP cP gH cH qs ps b C Y2 rb rc gG cG rs lv s vs gs ds K lu t us es K) (he : ∀ i, i < n → ds i = es i) (hc : t.cells = s.cells) (hl : t.log = s.log) (hst : t.stopped = s.stopped) (hK : K ≤ 1099511627776) (who t1 t2 : Int) (ht1 : W64 t1) (ht2 : W64 t2) :
    Calls Tryz.prog 13 #[.pointer (some ⟨X, 0, none⟩), .agg #[.int .i64 5, .int .i64 who, .int .u64 t1, .int .u64 t2]] wr fun e w' => e = .returned (.bool true) ∧ PQ w w' X ab gc Y Z n tb gP cP gH cH qs ps b C Y2 rb rc gG cG rs (K + 1) := by
  obtain ⟨W, hW⟩ : ∃ W, W = wr.alloc (.cells #[.int .i64 5, .int .i64 who, .int .u64 t1, .int .u64 t2] 44) := ⟨_, rfl⟩
  have hbW : Below wr.heap.size wr W := by rw [hW]; exact below_alloc (Below.refl _ _) _
  have hzW : W.heap[wr.heap.size]? = some (.cells #[.int .i64 5, .int .i64 who, .int .u64 t1, .int .u64 t2] 44 (0, 0)) := by rw [hW]; exact heap_new _ _
  have hB := h.below hbW
  have n64 := h.rm.n64
  have HE := hide he; have HC := hide hc; have HL := hide hl; have HST := hide hst; have HKK := hide hK; have HT1 := hide ht1; have HT2 := hide ht2
  obtain ⟨i, hi'⟩ : ∃ i, i = ixO who n := ⟨_, rfl⟩
  have hik : i < n := by rw [hi']; exact (ixO_lt who n64.1).1
  have hwi := who_ix who n64.1
  rw [← hi'] at hwi
  have hk0 : ¬ (n : Int) = 0 := by omega
  have hkb : ((n : Int) == 0) = false := by simpa using hk0
  have hii : (i : Int) < (n : Int) := by omega
  obtain ⟨r, hr⟩ : ∃ r, r = who.tmod (n : Int) := ⟨_, rfl⟩
  have hrb : -(n : Int) < r ∧ r < n := by
    rw [hr]
    constructor
    · have := Int.tmod_lt_of_pos (-who) (show (0 : Int) < n by omega)
      rw [Int.neg_tmod] at this; omega
    · exact Int.tmod_lt_of_pos _ (by omega)
  rw [← hr] at hwi
  have hrr : who.tmod (n : Int) = r := hr.symm
  have hrw1 : IntKind.i64.wrap r = r := IntWalk.i64_in _ (by omega)
  have hrw2 : IntKind.i64.wrap (r + (n : Int)) = r + (n : Int) := IntWalk.i64_in _ (by omega)
  obtain ⟨x0, x1, x2, x3, x4, x5, x6⟩ := hB.cells
  have z0 : W.cell? ⟨wr.heap.size, 0, none⟩ = some (.int .i64 5) := cell_of hzW rfl
  have z1 : W.cell? ⟨wr.heap.size, 1, none⟩ = some (.int .i64 who) := cell_of hzW rfl
  have HB := hide hB; have HZ := hide hzW
  clear hi' hr h hB hbW hzW he hc hl hst hK ht1 ht2
  go_enter Tryz.func13, Tryz.ntmps13
  go_upto_region 1 with fail
  rw [← hW]
  clear hW
  generalize wr.heap.size = ob at HZ z0 z1 ⊢
  have v1 := gw_cell z1; have v4 := gw_cell x4
  refine wp_region_gw (by kernel_rfl) (by kernel_rfl) ?_
  repeat (go_big_quiet_step (rfl))
  refine wpQuiet_nil ?_
  intro _ hw'
  obtain ⟨x', hw''⟩ := hw'
  subst hw''
  replace HZ := hide ((x'.bel.block _ (lt_of_heap HZ.out)).trans HZ.out)
  replace HB := hide (HB.out.below x'.bel)
  clear v1 v4 x0 x1 x2 x3 x4 x5 x6 z0 z1
  generalize x'.world = wq at HB HZ ⊢
  clear x'
  obtain ⟨x0, x1, x2, x3, x4, x5, x6⟩ := HB.out.cells
  obtain ⟨y1, y2, y3⟩ := HB.out.at hik
  have z0 : wq.cell? ⟨ob, 0, none⟩ = some (.int .i64 5) := cell_of HZ.out rfl
  have z2 : wq.cell? ⟨ob, 2, none⟩ = some (.int .u64 t1) := cell_of HZ.out rfl
  have z3 : wq.cell? ⟨ob, 3, none⟩ = some (.int .u64 t2) := cell_of HZ.out rfl
  go_upto_if 19 with fail
  go_cut [5] from 18 to 26 (fun a wx => a = .int .i64 (i : Int) ∧ wq = wx)
  case first =>
    by_cases hr0 : r < 0
    · have hri : r + (n : Int) = (i : Int) := by rw [if_pos hr0] at hwi; exact hwi
      clear hwi
      go_wp2_with fail
      go_meet
      case rel => exact ⟨rfl, rfl⟩
    · have hri : r = (i : Int) := by rw [if_neg hr0] at hwi; exact hwi
      subst hri
      clear hwi hrb hrw2
      go_wp2_with fail
      go_meet
      case rel => exact ⟨rfl, rfl⟩
  case rest =>
    obtain ⟨rfl, rfl⟩ := hcut
    clear hwi hrb hrr hrw1 hrw2

    go_wp2_with fail
    refine (lheld_any HB.out HE.out HC.out).mono ?_
    rintro e w2 ⟨rfl, hB2⟩
    have HB2 := hide hB2
    clear hB2
    go_wp2_with fail
    go_ret
    exact ⟨rfl, lv, s, vs, gs, ds, lu, t, us, es, HB2.out.mono (Nat.le_succ K) (Nat.le_succ K), HE.out, HC.out, HL.out, HST.out⟩
set_option maxRecDepth 100000 in
set_option maxHeartbeats 4000000 in
theorem do_none (h : PB w wr X ab gc Y Z n tb gP cP gH cH qs ps b C Y2 rb rc gG cG rs lv s vs gs ds K lu t us es K) (he : ∀ i, i < n → ds i = es i) (hc : t.cells = s.cells) (hl : t.log = s.log) (hst : t.stopped = s.stopped) (hK : K ≤ 1099511627776) (kd : Int) (k1 : (kd == 1) = false) (k2 : (kd == 2) = false) (k3 : (kd == 3) = false) (k4 : (kd == 4) = false) (k5 : (kd == 5) = false) (k6 : (kd == 6) = false) (who t1 t2 : Int) (ht1 : W64 t1) (ht2 : W64 t2) :
    Calls Tryz.prog 13 #[.pointer (some ⟨X, 0, none⟩), .agg #[.int .i64 kd, .int .i64 who, .int .u64 t1, .int .u64 t2]] wr fun e w' => e = .returned (.bool true) ∧ PQ w w' X ab gc Y Z n tb gP cP gH cH qs ps b C Y2 rb rc gG cG rs (K + 1) := by
  obtain ⟨W, hW⟩ : ∃ W, W = wr.alloc (.cells #[.int .i64 kd, .int .i64 who, .int .u64 t1, .int .u64 t2] 44) := ⟨_, rfl⟩
  have hbW : Below wr.heap.size wr W := by rw [hW]; exact below_alloc (Below.refl _ _) _
  have hzW : W.heap[wr.heap.size]? = some (.cells #[.int .i64 kd, .int .i64 who, .int .u64 t1, .int .u64 t2] 44 (0, 0)) := by rw [hW]; exact heap_new _ _
  have hB := h.below hbW
  have n64 := h.rm.n64
  have HE := hide he; have HC := hide hc; have HL := hide hl; have HST := hide hst; have HKK := hide hK; have HT1 := hide ht1; have HT2 := hide ht2
  obtain ⟨i, hi'⟩ : ∃ i, i = ixO who n := ⟨_, rfl⟩
  have hik : i < n := by rw [hi']; exact (ixO_lt who n64.1).1
  have hwi := who_ix who n64.1
  rw [← hi'] at hwi
  have hk0 : ¬ (n : Int) = 0 := by omega
  have hkb : ((n : Int) == 0) = false := by simpa using hk0
  have hii : (i : Int) < (n : Int) := by omega
  obtain ⟨r, hr⟩ : ∃ r, r = who.tmod (n : Int) := ⟨_, rfl⟩
  have hrb : -(n : Int) < r ∧ r < n := by
    rw [hr]
    constructor
    · have := Int.tmod_lt_of_pos (-who) (show (0 : Int) < n by omega)
      rw [Int.neg_tmod] at this; omega
    · exact Int.tmod_lt_of_pos _ (by omega)
  rw [← hr] at hwi
  have hrr : who.tmod (n : Int) = r := hr.symm
  have hrw1 : IntKind.i64.wrap r = r := IntWalk.i64_in _ (by omega)
  have hrw2 : IntKind.i64.wrap (r + (n : Int)) = r + (n : Int) := IntWalk.i64_in _ (by omega)
  obtain ⟨x0, x1, x2, x3, x4, x5, x6⟩ := hB.cells
  have z0 : W.cell? ⟨wr.heap.size, 0, none⟩ = some (.int .i64 kd) := cell_of hzW rfl
  have z1 : W.cell? ⟨wr.heap.size, 1, none⟩ = some (.int .i64 who) := cell_of hzW rfl
  have HB := hide hB; have HZ := hide hzW
  clear hi' hr h hB hbW hzW he hc hl hst hK ht1 ht2
  go_enter Tryz.func13, Tryz.ntmps13
  go_upto_region 1 with fail
  rw [← hW]
  clear hW
  generalize wr.heap.size = ob at HZ z0 z1 ⊢
  have v1 := gw_cell z1; have v4 := gw_cell x4
  refine wp_region_gw (by kernel_rfl) (by kernel_rfl) ?_
  repeat (go_big_quiet_step (rfl))
  refine wpQuiet_nil ?_
  intro _ hw'
  obtain ⟨x', hw''⟩ := hw'
  subst hw''
  replace HZ := hide ((x'.bel.block _ (lt_of_heap HZ.out)).trans HZ.out)
  replace HB := hide (HB.out.below x'.bel)
  clear v1 v4 x0 x1 x2 x3 x4 x5 x6 z0 z1
  generalize x'.world = wq at HB HZ ⊢
  clear x'
  obtain ⟨x0, x1, x2, x3, x4, x5, x6⟩ := HB.out.cells
  obtain ⟨y1, y2, y3⟩ := HB.out.at hik
  have z0 : wq.cell? ⟨ob, 0, none⟩ = some (.int .i64 kd) := cell_of HZ.out rfl
  have z2 : wq.cell? ⟨ob, 2, none⟩ = some (.int .u64 t1) := cell_of HZ.out rfl
  have z3 : wq.cell? ⟨ob, 3, none⟩ = some (.int .u64 t2) := cell_of HZ.out rfl
  go_upto_if 19 with fail
  go_cut [5] from 18 to 26 (fun a wx => a = .int .i64 (i : Int) ∧ wq = wx)
  case first =>
    by_cases hr0 : r < 0
    · have hri : r + (n : Int) = (i : Int) := by rw [if_pos hr0] at hwi; exact hwi
      clear hwi
      go_wp2_with fail
      go_meet
      case rel => exact ⟨rfl, rfl⟩
    · have hri : r = (i : Int) := by rw [if_neg hr0] at hwi; exact hwi
      subst hri
      clear hwi hrb hrw2
      go_wp2_with fail
      go_meet
      case rel => exact ⟨rfl, rfl⟩
  case rest =>
    obtain ⟨rfl, rfl⟩ := hcut
    clear hwi hrb hrr hrw1 hrw2

    go_wp2_with fail
    go_ret
    exact ⟨rfl, lv, s, vs, gs, ds, lu, t, us, es, HB.out.mono (Nat.le_succ K) (Nat.le_succ K), HE.out, HC.out, HL.out, HST.out⟩
end
end Go.Proofs.YtgjdjdgondpjeaaGreat

/- reply 50: what a reply's tasks come to, and what is done to them. -/
namespace Go.Proofs.YtgjdjdgondpjeaaGreat
open Go.RowKit Go.Lib
set_option linter.unusedVariables false
set_option linter.unusedSimpArgs false
section
variable {P : Program}
/-- An append, and the old row stays. -/
theorem run_append_old (w : World) (t ty : TypeId) (base : Nat) (e : TypeId) (i : TypeInfo) (z : Value) (size bytes : Nat) (ht : P.underlying t = some (.slice e)) (hi : P.info? e = some i) (hz : i.zero = some z)
    (hsize : i.size = size) (hby : i.bytes = bytes) (hzs : z.cells.size = size) (hsz : 0 < size)
    (v : Value) (n : Nat) (xs : List Value) (hown : w.ownsRow base e size v n xs)
    (ad : Addr) (m c : Nat) (news : List Value) (hl : news.length = m * size) (hnews : ∀ j u, news[j]? = some u → w.cell? (ad.add j) = some u) (h1 : ∀ u ∈ news, u.oneCell' = true)
    (hm : 0 < m) (h63 : n + m ≤ maxLen) (hbytes : (n + m) * bytes ≤ 140737488355328) (hbase : base ≤ w.heap.size) :
    ∃ g cap w', (Builtin.append_ #[t, t] ty #[v, .slice (some ad) m c]).run P w = .ok (.slice (some ⟨g, 0, none⟩) (n + m) cap) w' ∧
      w'.ownsRow base e size (.slice (some ⟨g, 0, none⟩) (n + m) cap) (n + m) (xs ++ news) ∧ w'.ownsRow base e size v n xs ∧ w.grownBy w' v.ownBlock ∧ (v.ownBlock = some g ∨ g = w.heap.size) := by
  obtain ⟨g, cap, w', hr, ho, hg, hat, hlt⟩ := run_append_lies (P := P) w t ty base e i z size bytes ht hi hz hsize hby hzs hsz v n xs hown ad m c news hl hnews h1 hm h63 hbytes hbase _ rfl
  refine ⟨g, cap, w', hr, ho, ?_, hg, hat⟩
  obtain ⟨hlen, ⟨rfl, rfl⟩ | ⟨q, cp, cur, rfl, hb, hq, a1, a2, a3, a4⟩⟩ := hown
  · exact ⟨hlen, .inl ⟨rfl, rfl⟩⟩
  · by_cases hroom : n + m ≤ cp
    · have e1 := run_append_cap_room (P := P) w t t ty e i ht hi (some ⟨q, 0, none⟩) n cp (.slice (some ad) m c) m news (by subst hsize; exact Src.ofSlice w ht ad m c news hl hnews h1) hroom hr
      simp only [Value.slice.injEq, Option.some.injEq, Addr.mk.injEq, and_true, true_and] at e1
      obtain ⟨rfl, rfl⟩ := e1
      obtain ⟨_, ⟨hh, _⟩ | ⟨q', cp', cur', hv, hb', hq', b1, b2, b3, b4⟩⟩ := ho
      · cases hh
      · simp only [Value.slice.injEq, Option.some.injEq, Addr.mk.injEq, and_true, true_and] at hv
        obtain ⟨rfl, rfl⟩ := hv
        refine ⟨hlen, .inr ⟨_, _, cur', rfl, hb, hq', a1, a2, b3, ?_⟩⟩
        have e2 : cur'.toList.take (n * size) = (cur'.toList.take ((n + m) * size)).take (n * size) := by rw [List.take_take, Nat.min_eq_left (Nat.mul_le_mul_right _ (by omega))]
        rw [e2, b4, List.take_append_of_le_length (by omega), List.take_of_length_le (by omega)]
    · obtain ⟨v2, w2, hr2, r1, r2⟩ := run_append_arg_grows (P := P) w t ty e i z size bytes ht hi hz hsize hby hzs hsz ⟨q, 0, none⟩ n cp xs hlen (fun j u hj => by
        have hj' := hj
        rw [← a4, List.getElem?_take] at hj'
        split at hj'
        · rw [Addr.add_lit]
          exact cell_of hq (by simpa using hj')
        · cases hj') ad m c news hl hnews (by omega) h63 hbytes
      rw [hr] at hr2
      simp only [Result.ok.injEq] at hr2
      obtain ⟨_, rfl⟩ := hr2
      exact own_stayR (X := w) ⟨hlen, .inr ⟨q, cp, cur, rfl, hb, hq, a1, a2, a3, a4⟩⟩ (fun k hk => by
        cases hk
        exact r2.block _ (lt_of_heap hq) (by simp))
theorem wpList_append_old (w : World) {ops : Array Oper} {rest : List Oper} {o : Oper} {a : Act} {Q : Exit → Act → World → Prop} (hgd : o.guard = none) (s x : Operand) (t : TypeId)
    (ho : o.op = .call { callee := .builtin .append, args := #[s, x], argTypes := #[t, t] })
    (base : Nat) (e : TypeId) (i : TypeInfo) (z : Value) (size bytes : Nat) (ht : P.underlying t = some (.slice e)) (hi : P.info? e = some i) (hz : i.zero = some z)
    (hsize : i.size = size) (hby : i.bytes = bytes) (hzs : z.cells.size = size) (hsz : 0 < size)
    (v : Value) (n : Nat) (xs : List Value) (hs : a.eval s = v) (hown : w.ownsRow base e size v n xs)
    (ad : Addr) (m c : Nat) (news : List Value) (hx : a.eval x = .slice (some ad) m c) (hl : news.length = m * size) (hnews : ∀ j u, news[j]? = some u → w.cell? (ad.add j) = some u) (h1 : ∀ u ∈ news, u.oneCell' = true)
    (hm : 0 < m) (h63 : n + m ≤ maxLen) (hbytes : (n + m) * bytes ≤ 140737488355328) (hbase : base ≤ w.heap.size)
    (h : ∀ g cap w', w'.ownsRow base e size (.slice (some ⟨g, 0, none⟩) (n + m) cap) (n + m) (xs ++ news) → w'.ownsRow base e size v n xs → w.grownBy w' v.ownBlock → (v.ownBlock = some g ∨ g = w.heap.size) → wpList P ops Q rest (a.put o.dst (.slice (some ⟨g, 0, none⟩) (n + m) cap)) w') : wpList P ops Q (o :: rest) a w := by
  refine wpList_plain hgd fun K hK => ?_
  obtain ⟨g, cap, w', hr, h2, h3, h4, h5⟩ := run_append_old (P := P) w t o.type base e i z size bytes ht hi hz hsize hby hzs hsz v n xs hown ad m c news hl hnews h1 hm h63 hbytes hbase
  unfold Oper.wp execOp
  simp only [ho, resolve, invoke, builtin, Sem.run_bind, Sem.run_pure, Result.andThen_ok, List.map_toArray, List.map_cons, List.map_nil, hs, hx, hr]
  exact hK _ _ (h g cap w' h2 h3 h4 h5)
end
theorem keepB2 {W W' : World} {lo x n z : Nat} {t : TypeId} {v : Value} {xs : List Value} (ho : W.ownsRow lo t z v n xs) (c : Chg (fun q => q = x) W W') (hx : v.ownBlock ≠ some x) : W'.ownsRow lo t z v n xs :=
  own_stayR ho (fun g hg => by
    obtain ⟨_, cs', h3⟩ := own_tyz ho hg
    exact c.block _ (lt_of_heap h3) (fun e => hx (by rw [hg, e])))
/-- Two replies in boxes of their own. -/
structure TR (w wq : World) (b1 b2 : Nat) (st : Int) (u1 u2 : Value) (l1 l2 : List Tk) : Prop where
  bel : Below w.heap.size w wq
  lo : w.heap.size ≤ b1 ∧ w.heap.size ≤ b2
  bx1 : wq.heap[b1]? = some (.cells #[.int .i64 st, u1] 71 (0, 0))
  bx2 : wq.heap[b2]? = some (.cells #[.int .i64 st, u2] 71 (0, 0))
  o1 : TOwn wq w.heap.size u1 l1
  o2 : TOwn wq w.heap.size u2 l2
  dj : ∀ g, u1.ownBlock = some g → u2.ownBlock ≠ some g
section
variable {w wq : World} {b1 b2 : Nat} {st : Int} {u1 u2 : Value} {l1 l2 : List Tk}
theorem TR.swap (h : TR w wq b1 b2 st u1 u2 l1 l2) : TR w wq b2 b1 st u2 u1 l2 l1 := ⟨h.bel, ⟨h.lo.2, h.lo.1⟩, h.bx2, h.bx1, h.o2, h.o1, fun g e1 e2 => h.dj g e2 e1⟩
theorem TR.set1 {g n c i : Nat} (h : TR w wq b1 b2 st (.slice (some ⟨g, 0, none⟩) n c) u2 l1 l2) (hi : i < l1.length) (t : Tk) : TR w ((wq.setCell ⟨g, i * 2, none⟩ (.int .u64 t.1)).setCell ⟨g, i * 2 + 1, none⟩ (.int .u64 t.2)) b1 b2 st (.slice (some ⟨g, 0, none⟩) n c) u2 (l1.set i t) l2 := by
  have c := ((Chg.refl (fun k => k = g) wq).putq (i * 2) (.int .u64 t.1)).putq (i * 2 + 1) (.int .u64 t.2)
  obtain ⟨hg, cs, h3⟩ := own_tyz h.o1 (g := g) rfl
  exact ⟨Chg.below h.bel c (fun j hj => by subst hj; exact hg) h.bel.size, h.lo, c.heap h.bx1 (ne_ty h.bx1 h3 (by decide)), c.heap h.bx2 (ne_ty h.bx2 h3 (by decide)), h.o1.put hi t, keepB2 h.o2 c (h.dj g rfl), h.dj⟩
theorem TR.set2 {g n c i : Nat} (h : TR w wq b1 b2 st u1 (.slice (some ⟨g, 0, none⟩) n c) l1 l2) (hi : i < l2.length) (t : Tk) : TR w ((wq.setCell ⟨g, i * 2, none⟩ (.int .u64 t.1)).setCell ⟨g, i * 2 + 1, none⟩ (.int .u64 t.2)) b1 b2 st u1 (.slice (some ⟨g, 0, none⟩) n c) l1 (l2.set i t) := (h.swap.set1 hi t).swap
theorem TR.app1 {w6 : World} {o : Obj} {g c n : Nat} {xs : List Value} (h : TR w wq b1 b2 st u1 u2 l1 l2) (ho : w6.ownsRow w.heap.size 42 2 (.slice (some ⟨g, 0, none⟩) n c) n xs) (hold : TOwn w6 w.heap.size u1 l1) (hgr : (wq.alloc o).grownBy w6 u1.ownBlock) (hat : u1.ownBlock = some g ∨ g = (wq.alloc o).heap.size) : TR w w6 b1 b2 st u1 u2 l1 l2 ∧ u2.ownBlock ≠ some g := by
  have c : Chg (fun q => u1.ownBlock = some q) wq w6 := ((Chg.refl _ wq).alloc o).grown hgr (fun q e => .inl e)
  refine ⟨⟨Chg.below h.bel c (fun j hj => (own_tyz h.o1 hj).1) h.bel.size, h.lo, c.heap h.bx1 (fun e => ?_), c.heap h.bx2 (fun e => ?_), hold, own_stayR h.o2 (fun q hq => c.block _ (h.o2.lt q hq).2 (fun e => h.dj q e hq)), h.dj⟩, fun e => ?_⟩
  · obtain ⟨_, cs, h3⟩ := own_tyz h.o1 e; exact ne_ty h.bx1 h3 (by decide) rfl
  · obtain ⟨_, cs, h3⟩ := own_tyz h.o1 e; exact ne_ty h.bx2 h3 (by decide) rfl
  · rcases hat with q | q
    · exact h.dj g q e
    · have := (h.o2.lt g e).2
      simp at q; omega
end
end Go.Proofs.YtgjdjdgondpjeaaGreat

/- reply 50: the walk. -/
namespace Go.Proofs.YtgjdjdgondpjeaaGreat
open Go.RowKit Go.Lib
set_option linter.unusedVariables false
set_option linter.unusedSimpArgs false
section
variable {w w0 : World} {X ab gc Y Z n : Nat} {tb : Array Value} {gP cP gH cH : Nat} {qs ps : Nat → Nat} {b C : Nat} {Y2 rb rc gG cG : Nat} {rs : Nat → Nat} {lv : Value} {s : Ast} {vs : Nat → Value} {gs : Nat → Bool} {ds : Nat → Hs} {K : Nat} {lu : Value} {t : Ast} {us : Nat → Value} {es : Nat → Hs} {J : Nat}
theorem own_past {wq w7 : World} {o : Obj} {v u : Value} {lo : Nat} {l : List Tk} (h : TOwn wq lo v l) (hgr : (wq.alloc o).grownBy w7 u.ownBlock) (hne : ∀ g, v.ownBlock = some g → u.ownBlock ≠ some g) : TOwn w7 lo v l :=
  own_stayR h (fun q hq => by
    have c : Chg (fun q => u.ownBlock = some q) wq w7 := ((Chg.refl _ wq).alloc o).grown hgr (fun q e => .inl e)
    exact c.block _ (h.lt q hq).2 (hne q hq))
set_option maxRecDepth 100000 in
set_option maxHeartbeats 4000000 in
theorem lreply_any (h : PB w w0 X ab gc Y Z n tb gP cP gH cH qs ps b C Y2 rb rc gG cG rs lv s vs gs ds K lu t us es J) {i : Nat} (hi : i < n) (he : ds i = es i) :
    Calls Tryz.prog 50 #[.pointer (some ⟨X, 0, none⟩), .int .i64 i] w0 fun e w' => e = .returned (.bool true) ∧ Below w0.heap.size w0 w' := by
  have n64 := h.rm.n64
  have hii : (i : Int) < (n : Int) := by omega
  have HAL := hide (fun V (kb : Below w0.heap.size w0 V) => alike_any (h.below kb) hi he)
  have HRP := hide (fun V (kb : Below w0.heap.size w0 V) => rm_reply (h.rm.below kb) hi)
  have hol := (h.rm.hw i hi).1.out
  obtain ⟨st, hst⟩ : ∃ st, st = (ds i).st := ⟨_, rfl⟩
  obtain ⟨out, hout⟩ : ∃ o, o = (ds i).out := ⟨_, rfl⟩
  rw [← hst, ← hout] at HRP
  rw [← hout] at hol
  have HCE := hide (fun V (kb : Below w0.heap.size w0 V) => (⟨(h.below kb).cells, (h.below kb).at hi⟩ : _ ∧ _))
  obtain ⟨⟨x0, x1, x2, x3, x4, x5, x6⟩, y1, y2, y3⟩ := HCE.out w0 (Below.refl _ _)
  obtain ⟨L, hL⟩ : ∃ L, L = out.length := ⟨_, rfl⟩
  have HLE := hide hL
  have HL1 := hide (show L ≤ 1 by omega)
  clear h hst hout he hol hL
  go_enter Tryz.func50, Tryz.ntmps50
  go_wp2_with fail
  refine (HRP.out _ (Below.refl _ _)).mono ?_
  rintro e w2 ⟨hb2, u, rfl, hu⟩
  obtain ⟨au, cu, rfl⟩ := owns_shape hu
  have HB2 := hide hb2; have HU2 := hide hu
  rw [← HLE.out]
  clear hb2 hu x0 x1 x2 x3 x4 x5 x6 y1 y2 y3
  obtain ⟨⟨x0, x1, x2, x3, x4, x5, x6⟩, y1, y2, y3⟩ := HCE.out w2 HB2.out
  go_upto_region 2 with fail
  obtain ⟨w3, hw3⟩ : ∃ w3, w3 = w2.alloc (.cells #[.int .i64 st, .slice au L cu] 71) := ⟨_, rfl⟩
  have hb3 : Below w2.heap.size w2 w3 := by rw [hw3]; exact below_alloc (Below.refl _ _) _
  have HZ3 := hide (show w3.heap[w2.heap.size]? = some (.cells #[.int .i64 st, .slice au L cu] 71 (0, 0)) by rw [hw3]; exact heap_new _ _)
  rw [← hw3]
  have HB3 := hide (below_on HB2.out hb3); have HU3 := hide (HU2.out.below hb3)
  have HLO := hide (⟨HB2.out.size, hb3.size, fun g hg => (HU2.out.lt g hg).2⟩ : w0.heap.size ≤ w2.heap.size ∧ w2.heap.size ≤ w3.heap.size ∧ ∀ g, (Value.slice au out.length cu).ownBlock = some g → g < w2.heap.size)
  generalize w2.heap.size = b1 at HZ3 HLO ⊢
  clear hw3 hb3 HU2 x0 x1 x2 x3 x4 x5 x6 y1 y2 y3
  obtain ⟨⟨x0, x1, x2, x3, x4, x5, x6⟩, y1, y2, y3⟩ := HCE.out w3 HB3.out
  go_wp2_with fail
  refine (HRP.out _ HB3.out).mono ?_
  rintro e w4 ⟨hb4, u, rfl, hu⟩
  obtain ⟨av, cv, rfl⟩ := owns_shape hu
  rw [← HLE.out]
  have HB4 := hide (below_on HB3.out hb4); have HU4 := hide (HU3.out.below hb4); have HV4 := hide hu
  have HZ4 := hide ((hb4.block _ (lt_of_heap HZ3.out)).trans HZ3.out)
  have HL4 := hide hb4.size
  clear hb4 hu HU3 HZ3 x0 x1 x2 x3 x4 x5 x6 y1 y2 y3
  go_upto_region 3 with fail
  obtain ⟨w5, hw5⟩ : ∃ w5, w5 = w4.alloc (.cells #[.int .i64 st, .slice av L cv] 71) := ⟨_, rfl⟩
  have hb5 : Below w4.heap.size w4 w5 := by rw [hw5]; exact below_alloc (Below.refl _ _) _
  have hz5 : w5.heap[w4.heap.size]? = some (.cells #[.int .i64 st, .slice av L cv] 71 (0, 0)) := by rw [hw5]; exact heap_new _ _
  rw [← hw5]
  have HT0 := hide (show TR w0 w5 b1 w4.heap.size st (.slice au L cu) (.slice av L cv) out out from by
    have h1 := HLO.out.1; have h2 := HLO.out.2.1; have h3 := HL4.out
    have e1 := own_lower HU4.out (Nat.zero_le _)
    refine ⟨below_on HB4.out hb5, ⟨h1, by omega⟩, (hb5.block _ (lt_of_heap HZ4.out)).trans HZ4.out, hz5, ?_, ?_, fun g e1 e2 => ?_⟩
    · rw [HLE.out]; exact HU4.out.below hb5
    · rw [HLE.out]; exact own_lower (HV4.out.below hb5) (by omega)
    · have a1 := HLO.out.2.2 g (by rw [← HLE.out]; exact e1)
      have a2 := (HV4.out.lt g (by rw [← HLE.out]; exact e2)).1
      omega)
  generalize w4.heap.size = b2 at HT0 ⊢
  clear hw5 hb5 hz5 HB4 HU4 HZ4 HB2 HB3 HV4 HL4 HLO HRP
  go_wp2_with fail
  go_loopw [7] (fun tt wq => ∃ j : Nat, j ≤ L ∧ tt = .int .i64 (j : Int) ∧ ∃ l1 l2, TR w0 wq b1 b2 st (.slice au L cu) (.slice av L cv) l1 l2 ∧ l1.length = L ∧ l2.length = L ∧ ∀ k, k < j → tAt l1 k = (71, 1) ∧ tAt l2 k = (72, 2)) (fun tt _ => L - (RowKit.intOf tt).toNat)
  case atStart => exact ⟨0, Nat.zero_le _, rfl, out, out, HT0.out, HLE.out.symm, HLE.out.symm, fun k hk => absurd hk (Nat.not_lt_zero _)⟩
  case round =>
    obtain ⟨j, hjL, rfl, l1, l2, ht, hl1, hl2, hk⟩ := hrel
    have HT := hide ht; have HK := hide hk; have HN1 := hide hl1; have HN2 := hide hl2
    clear HT0 ht hk hl1 hl2
    have s1 := cell_of HT.out.bx1 (i := 1) rfl
    have s2 := cell_of HT.out.bx2 (i := 1) rfl
    have l64 := HL1.out
    by_cases hlt : j < L
    · have hjj : (j : Int) < (L : Int) := by omega
      obtain rfl : L = 1 := by omega
      obtain rfl : j = 0 := by omega
      obtain ⟨g1, _, hg1⟩ := own_spot HT.out.o1 (by have := HN1.out; omega)
      obtain ⟨g2, _, hg2⟩ := own_spot HT.out.o2 (by have := HN2.out; omega)
      simp only [Value.slice.injEq] at hg1 hg2
      obtain ⟨rfl, -, rfl⟩ := hg1
      obtain ⟨rfl, -, rfl⟩ := hg2
      have f1 : ∀ o, wr.frozen? ⟨g1, o, none⟩ = false := (town_rown HT.out.o1).free
      obtain ⟨p0, p1⟩ := HT.out.o1.celled (i := 0) (by have := HN1.out; omega)
      go_upto_region 7 with fail
      have HT1 := hide (show TR w0 ((wr.setCell ⟨g1, 0, none⟩ (.int .u64 71)).setCell ⟨g1, 1, none⟩ (.int .u64 1)) b1 b2 st (.slice (some ⟨g1, 0, none⟩) 1 cu) (.slice (some ⟨g2, 0, none⟩) 1 cv) (l1.set 0 (71, 1)) l2 from HT.out.set1 (i := 0) (by have := HN1.out; omega) (71, 1))
      generalize ((wr.setCell ⟨g1, 0, none⟩ (.int .u64 71)).setCell ⟨g1, 1, none⟩ (.int .u64 1)) = wa at HT1 ⊢
      clear s1 s2 f1 p0 p1 HT
      have s1 := cell_of HT1.out.bx1 (i := 1) rfl
      have s2 := cell_of HT1.out.bx2 (i := 1) rfl
      have f2 : ∀ o, wa.frozen? ⟨g2, o, none⟩ = false := (town_rown HT1.out.o2).free
      obtain ⟨p0, p1⟩ := HT1.out.o2.celled (i := 0) (by have := HN2.out; omega)
      go_upto_region 5 with fail
      have HT2 := hide (show TR w0 ((wa.setCell ⟨g2, 0, none⟩ (.int .u64 72)).setCell ⟨g2, 1, none⟩ (.int .u64 2)) b1 b2 st (.slice (some ⟨g1, 0, none⟩) 1 cu) (.slice (some ⟨g2, 0, none⟩) 1 cv) (l1.set 0 (71, 1)) (l2.set 0 (72, 2)) from HT1.out.set2 (i := 0) (by have := HN2.out; omega) (72, 2))
      generalize ((wa.setCell ⟨g2, 0, none⟩ (.int .u64 72)).setCell ⟨g2, 1, none⟩ (.int .u64 2)) = wb at HT2 ⊢
      clear s1 s2 f2 p0 p1 HT1
      go_wp2_with fail
      exact ⟨⟨1, Nat.le_refl _, by simp, _, _, HT2.out, by rw [List.length_set]; exact HN1.out, by rw [List.length_set]; exact HN2.out, fun k hk => by
        obtain rfl : k = 0 := by omega
        have h1 := HN1.out; have h2 := HN2.out
        rw [tAt_set (by omega), tAt_set (by omega), if_pos rfl, if_pos rfl]
        exact ⟨rfl, rfl⟩⟩, mdecR hlt⟩
    · obtain rfl : j = L := by omega
      have HO1 := hide (show wr.ownsRow w0.heap.size 42 2 (.slice au j cu) j (tCells l1) from by have := HT.out.o1; unfold TOwn at this; rwa [HN1.out] at this)
      obtain ⟨i0, hi0, hz0, hz1, hz2⟩ := info_parts Tryz.info42
      have hw0 := HT.out.bel.size
      have htw := two_at wr
      go_upto_region 9 with (at_builtin; refine wpList_append_old _ rfl (.tmp 45) (.tmp 47) 24 rfl w0.heap.size 42 i0 (.agg #[.int .u64 0, .int .u64 0]) 2 16 Tryz.underlying24 hi0 hz0 hz1 hz2 rfl (by omega) _ j (tCells l1) rfl (HO1.out.alloc _) ⟨wr.heap.size, 0, none⟩ 1 1 [.int .u64 73, .int .u64 3] rfl rfl (two_at wr _ _ _) (by simp [Value.oneCell']) (by omega) (by unfold maxLen; omega) (by omega) (by simp; omega) ?_; intro g6 c6 w6 hown hold hgr hat; obtain ⟨hT6, hne⟩ := HT.out.app1 hown (show TOwn w6 w0.heap.size _ l1 by unfold TOwn; rw [HN1.out]; exact hold) hgr hat; have HT6 := hide hT6; have HG6 := hide (show TOwn w6 w0.heap.size (.slice (some ⟨g6, 0, none⟩) (j + 1) c6) (l1 ++ [(73, 3)]) by unfold TOwn; rw [List.length_append, tCells_snoc, HN1.out]; exact hown); have HNE := hide hne; clear hown hold hgr hat hT6 hne)
      clear s1 s2 htw hw0 HT HO1
      have s1 := cell_of HT6.out.bx1 (i := 1) rfl
      have s2 := cell_of HT6.out.bx2 (i := 1) rfl
      have HO2 := hide (show w6.ownsRow w0.heap.size 42 2 (.slice av j cv) j (tCells l2) from by have := HT6.out.o2; unfold TOwn at this; rwa [HN2.out] at this)
      have hw0 := HT6.out.bel.size
      have htw := two_at w6
      go_upto_region 10 with (at_builtin; refine wpList_append_old _ rfl (.tmp 50) (.tmp 52) 24 rfl w0.heap.size 42 i0 (.agg #[.int .u64 0, .int .u64 0]) 2 16 Tryz.underlying24 hi0 hz0 hz1 hz2 rfl (by omega) _ j (tCells l2) rfl (HO2.out.alloc _) ⟨w6.heap.size, 0, none⟩ 1 1 [.int .u64 74, .int .u64 4] rfl rfl (two_at w6 _ _ _) (by simp [Value.oneCell']) (by omega) (by unfold maxLen; omega) (by omega) (by simp; omega) ?_; intro g7 c7 w7 hown hold hgr hat; obtain ⟨hT7, _⟩ := HT6.out.swap.app1 hown (show TOwn w7 w0.heap.size _ l2 by unfold TOwn; rw [HN2.out]; exact hold) hgr hat; have HT7 := hide hT7.swap; have HG7 := hide (show TOwn w7 w0.heap.size (.slice (some ⟨g7, 0, none⟩) (j + 1) c7) (l2 ++ [(74, 4)]) by unfold TOwn; rw [List.length_append, tCells_snoc, HN2.out]; exact hown); have HG8 := hide (show TOwn w7 w0.heap.size (.slice (some ⟨g6, 0, none⟩) (j + 1) c6) (l1 ++ [(73, 3)]) from own_past HG6.out hgr (fun g hg => by cases hg; exact HNE.out)); clear hown hold hgr hat hT7)
      clear s1 s2 htw hw0 HT6 HO2 HG6 HNE
      have s1 := cell_of HT7.out.bx1 (i := 1) rfl
      have s2 := cell_of HT7.out.bx2 (i := 1) rfl
      have p6 := HG8.out.celled (i := j) (by rw [List.length_append, HN1.out]; simp)
      have p7 := HG7.out.celled (i := j) (by rw [List.length_append, HN2.out]; simp)
      rw [show tAt (l1 ++ [(73, 3)]) j = (73, 3) by unfold tAt; rw [← HN1.out]; simp] at p6
      rw [show tAt (l2 ++ [(74, 4)]) j = (74, 4) by unfold tAt; rw [← HN2.out]; simp] at p7
      have k6 := p6.1; have k7 := p7.1
      clear p6 p7 HG7 HG8
      go_wp2_with fail
      go_loopw [10] (fun tt wq => ∃ q : Nat, q ≤ j ∧ tt = .int .i64 (q : Int) ∧ wq = w7) (fun tt _ => j - (RowKit.intOf tt).toNat)
      case atStart => exact ⟨0, Nat.zero_le _, rfl, rfl⟩
      case round =>
        obtain ⟨q, hqj, rfl, rfl⟩ := hrel
        by_cases hlt2 : q < j
        · have hjj : (q : Int) < (j : Int) := by omega
          obtain rfl : j = 1 := by omega
          obtain rfl : q = 0 := by omega
          obtain ⟨g1, _, hg1⟩ := own_spot HT7.out.o1 (by have := HN1.out; omega)
          obtain ⟨g2, _, hg2⟩ := own_spot HT7.out.o2 (by have := HN2.out; omega)
          simp only [Value.slice.injEq] at hg1 hg2
          obtain ⟨rfl, -, rfl⟩ := hg1
          obtain ⟨rfl, -, rfl⟩ := hg2
          obtain ⟨m1, _⟩ := HT7.out.o1.celled (i := 0) (by have := HN1.out; omega)
          obtain ⟨m2, _⟩ := HT7.out.o2.celled (i := 0) (by have := HN2.out; omega)
          rw [(HK.out 0 (by omega)).1] at m1
          rw [(HK.out 0 (by omega)).2] at m2
          go_wp2_with fail
          exact ⟨⟨1, Nat.le_refl _, by simp, trivial⟩, mdecR hlt2⟩
        · obtain rfl : q = j := by omega
          have hlj : (q : Int) < (q : Int) + 1 := by omega
          go_wp2_with (go_at_call 12; refine (HAL.out _ HT7.out.bel).mono ?_; rintro e w9 ⟨rfl, hb9⟩; have HB9 := hide (below_on HT7.out.bel hb9); clear hb9)
          go_ret
          exact ⟨rfl, HB9.out⟩
end
end Go.Proofs.YtgjdjdgondpjeaaGreat

/- do 13: any op. -/
namespace Go.Proofs.YtgjdjdgondpjeaaGreat
open Go.RowKit Go.Lib
set_option linter.unusedVariables false
set_option linter.unusedSimpArgs false
section
variable {w wr wr' : World} {X ab gc Y Z n : Nat} {tb : Array Value} {gP cP gH cH : Nat} {qs ps : Nat → Nat} {b C : Nat} {Y2 rb rc gG cG : Nat} {rs : Nat → Nat} {lv : Value} {s : Ast} {vs : Nat → Value} {gs : Nat → Bool} {ds : Nat → Hs} {K : Nat} {lu : Value} {t : Ast} {us : Nat → Value} {es : Nat → Hs} {J : Nat}
set_option maxRecDepth 100000 in
set_option maxHeartbeats 4000000 in
theorem do_reply (h : PB w wr X ab gc Y Z n tb gP cP gH cH qs ps b C Y2 rb rc gG cG rs lv s vs gs ds K lu t us es K) (he : ∀ i, i < n → ds i = es i) (hc : t.cells = s.cells) (hl : t.log = s.log) (hst : t.stopped = s.stopped) (hK : K ≤ 1099511627776) (who t1 t2 : Int) (ht1 : W64 t1) (ht2 : W64 t2) :
    Calls Tryz.prog 13 #[.pointer (some ⟨X, 0, none⟩), .agg #[.int .i64 6, .int .i64 who, .int .u64 t1, .int .u64 t2]] wr fun e w' => e = .returned (.bool true) ∧ PQ w w' X ab gc Y Z n tb gP cP gH cH qs ps b C Y2 rb rc gG cG rs (K + 1) := by
  obtain ⟨W, hW⟩ : ∃ W, W = wr.alloc (.cells #[.int .i64 6, .int .i64 who, .int .u64 t1, .int .u64 t2] 44) := ⟨_, rfl⟩
  have hbW : Below wr.heap.size wr W := by rw [hW]; exact below_alloc (Below.refl _ _) _
  have hzW : W.heap[wr.heap.size]? = some (.cells #[.int .i64 6, .int .i64 who, .int .u64 t1, .int .u64 t2] 44 (0, 0)) := by rw [hW]; exact heap_new _ _
  have hB := h.below hbW
  have n64 := h.rm.n64
  have HE := hide he; have HC := hide hc; have HL := hide hl; have HST := hide hst; have HKK := hide hK; have HT1 := hide ht1; have HT2 := hide ht2
  obtain ⟨i, hi'⟩ : ∃ i, i = ixO who n := ⟨_, rfl⟩
  have hik : i < n := by rw [hi']; exact (ixO_lt who n64.1).1
  have hwi := who_ix who n64.1
  rw [← hi'] at hwi
  have hk0 : ¬ (n : Int) = 0 := by omega
  have hkb : ((n : Int) == 0) = false := by simpa using hk0
  have hii : (i : Int) < (n : Int) := by omega
  obtain ⟨r, hr⟩ : ∃ r, r = who.tmod (n : Int) := ⟨_, rfl⟩
  have hrb : -(n : Int) < r ∧ r < n := by
    rw [hr]
    constructor
    · have := Int.tmod_lt_of_pos (-who) (show (0 : Int) < n by omega)
      rw [Int.neg_tmod] at this; omega
    · exact Int.tmod_lt_of_pos _ (by omega)
  rw [← hr] at hwi
  have hrr : who.tmod (n : Int) = r := hr.symm
  have hrw1 : IntKind.i64.wrap r = r := IntWalk.i64_in _ (by omega)
  have hrw2 : IntKind.i64.wrap (r + (n : Int)) = r + (n : Int) := IntWalk.i64_in _ (by omega)
  obtain ⟨x0, x1, x2, x3, x4, x5, x6⟩ := hB.cells
  have z0 : W.cell? ⟨wr.heap.size, 0, none⟩ = some (.int .i64 6) := cell_of hzW rfl
  have z1 : W.cell? ⟨wr.heap.size, 1, none⟩ = some (.int .i64 who) := cell_of hzW rfl
  have HB := hide hB; have HZ := hide hzW
  clear hi' hr h hB hbW hzW he hc hl hst hK ht1 ht2
  go_enter Tryz.func13, Tryz.ntmps13
  go_upto_region 1 with fail
  rw [← hW]
  clear hW
  generalize wr.heap.size = ob at HZ z0 z1 ⊢
  have v1 := gw_cell z1; have v4 := gw_cell x4
  refine wp_region_gw (by kernel_rfl) (by kernel_rfl) ?_
  repeat (go_big_quiet_step (rfl))
  refine wpQuiet_nil ?_
  intro _ hw'
  obtain ⟨x', hw''⟩ := hw'
  subst hw''
  replace HZ := hide ((x'.bel.block _ (lt_of_heap HZ.out)).trans HZ.out)
  replace HB := hide (HB.out.below x'.bel)
  clear v1 v4 x0 x1 x2 x3 x4 x5 x6 z0 z1
  generalize x'.world = wq at HB HZ ⊢
  clear x'
  obtain ⟨x0, x1, x2, x3, x4, x5, x6⟩ := HB.out.cells
  obtain ⟨y1, y2, y3⟩ := HB.out.at hik
  have z0 : wq.cell? ⟨ob, 0, none⟩ = some (.int .i64 6) := cell_of HZ.out rfl
  have z2 : wq.cell? ⟨ob, 2, none⟩ = some (.int .u64 t1) := cell_of HZ.out rfl
  have z3 : wq.cell? ⟨ob, 3, none⟩ = some (.int .u64 t2) := cell_of HZ.out rfl
  go_upto_if 19 with fail
  go_cut [5] from 18 to 26 (fun a wx => a = .int .i64 (i : Int) ∧ wq = wx)
  case first =>
    by_cases hr0 : r < 0
    · have hri : r + (n : Int) = (i : Int) := by rw [if_pos hr0] at hwi; exact hwi
      clear hwi
      go_wp2_with fail
      go_meet
      case rel => exact ⟨rfl, rfl⟩
    · have hri : r = (i : Int) := by rw [if_neg hr0] at hwi; exact hwi
      subst hri
      clear hwi hrb hrw2
      go_wp2_with fail
      go_meet
      case rel => exact ⟨rfl, rfl⟩
  case rest =>
    obtain ⟨rfl, rfl⟩ := hcut
    clear hwi hrb hrr hrw1 hrw2

    have HLR := hide (lreply_any HB.out hik (HE.out i hik))
    go_wp2_with fail
    refine HLR.out.mono ?_
    rintro e w2 ⟨rfl, hb2⟩
    have HB2 := hide (HB.out.below hb2)
    clear hb2
    go_wp2_with fail
    go_ret
    exact ⟨rfl, lv, s, vs, gs, ds, lu, t, us, es, HB2.out.mono (Nat.le_succ K) (Nat.le_succ K), HE.out, HC.out, HL.out, HST.out⟩
theorem do_any (h : PQ w wr X ab gc Y Z n tb gP cP gH cH qs ps b C Y2 rb rc gG cG rs K) (hK : K ≤ 1099511627776) (kd who t1 t2 : Int) (ht1 : W64 t1) (ht2 : W64 t2) :
    Calls Tryz.prog 13 #[.pointer (some ⟨X, 0, none⟩), .agg #[.int .i64 kd, .int .i64 who, .int .u64 t1, .int .u64 t2]] wr fun e w' => e = .returned (.bool true) ∧ PQ w w' X ab gc Y Z n tb gP cP gH cH qs ps b C Y2 rb rc gG cG rs (K + 1) := by
  obtain ⟨lv, s, vs, gs, ds, lu, t, us, es, hB, he, hc, hl, hst⟩ := h
  by_cases e1 : kd = 1
  · subst e1; exact do_ins hB he hc hl hst hK who t1 t2 ht1 ht2
  by_cases e2 : kd = 2
  · subst e2; exact do_tak hB he hc hl hst hK who t1 t2 ht1 ht2
  by_cases e3 : kd = 3
  · subst e3; exact do_step hB he hc hl hst hK who t1 t2 ht1 ht2
  by_cases e4 : kd = 4
  · subst e4; exact do_bare hB he hc hl hst hK who t1 t2 ht1 ht2
  by_cases e5 : kd = 5
  · subst e5; exact do_held hB he hc hl hst hK who t1 t2 ht1 ht2
  by_cases e6 : kd = 6
  · subst e6; exact do_reply hB he hc hl hst hK who t1 t2 ht1 ht2
  exact do_none hB he hc hl hst hK kd (by simpa using e1) (by simpa using e2) (by simpa using e3) (by simpa using e4) (by simpa using e5) (by simpa using e6) who t1 t2 ht1 ht2
end
end Go.Proofs.YtgjdjdgondpjeaaGreat

/- RingPlays: the walk. -/
namespace Go.Proofs.YtgjdjdgondpjeaaGreat
open Go.RowKit Go.Lib
set_option linter.unusedVariables false
set_option linter.unusedSimpArgs false
section
variable {w wr wr' : World} {X ab gc Y Z k : Nat} {tb : Array Value} {gP cP gH cH : Nat} {qs ps : Nat → Nat} {b C : Nat} {Y2 rb rc gG cG : Nat} {rs : Nat → Nat} {K : Nat}
theorem PQ.below (h : PQ w wr X ab gc Y Z k tb gP cP gH cH qs ps b C Y2 rb rc gG cG rs K) (hb : Below wr.heap.size wr wr') : PQ w wr' X ab gc Y Z k tb gP cP gH cH qs ps b C Y2 rb rc gG cG rs K := by
  obtain ⟨lv, s, vs, gs, ds, lu, t, us, es, hB, h1, h2, h3, h4⟩ := h
  exact ⟨lv, s, vs, gs, ds, lu, t, us, es, hB.below hb, h1, h2, h3, h4⟩
theorem PQ.bel (h : PQ w wr X ab gc Y Z k tb gP cP gH cH qs ps b C Y2 rb rc gG cG rs K) : Below w.heap.size w wr := by
  obtain ⟨lv, s, vs, gs, ds, lu, t, us, es, hB, h1, h2, h3, h4⟩ := h
  exact hB.rm.bel
theorem PQ.gat (h : PQ w wr X ab gc Y Z k tb gP cP gH cH qs ps b C Y2 rb rc gG cG rs K) : wr.cell? ⟨X, 2, none⟩ = some (.pointer (some ⟨ab, 0, none⟩)) ∧ wr.cell? ⟨X, 4, none⟩ = some (.slice (some ⟨gH, 0, none⟩) k cH) ∧ wr.cell? ⟨X, 5, none⟩ = some (.pointer (some ⟨rb, 0, none⟩)) := by
  obtain ⟨lv, s, vs, gs, ds, lu, t, us, es, hB, h1, h2, h3, h4⟩ := h
  exact ⟨hB.cells.2.2.1, hB.cells.2.2.2.2.1, hB.cells.2.2.2.2.2.1⟩
theorem PQ.alike (h : PQ w wr X ab gc Y Z k tb gP cP gH cH qs ps b C Y2 rb rc gG cG rs K) {i : Nat} (hi : i < k) : Calls Tryz.prog 12 #[.pointer (some ⟨X, 0, none⟩), .int .i64 i] wr fun e w' => e = .returned (.bool true) ∧ PQ w w' X ab gc Y Z k tb gP cP gH cH qs ps b C Y2 rb rc gG cG rs K := by
  have h0 := h
  obtain ⟨lv, s, vs, gs, ds, lu, t, us, es, hB, h1, h2, h3, h4⟩ := h
  refine (alike_any hB hi (h1 i hi)).mono ?_
  rintro e w' ⟨rfl, hb⟩
  exact ⟨rfl, h0.below hb⟩
/-- The table at its start. -/
theorem LL.pq {w0 : World} {l : List Tk} (h : LL w wr X ab gc rb rc Y Y2 Z b C (s0 b C l) (s0 b C l) (.slice (some ⟨gP, 0, none⟩) k cP) (.slice (some ⟨gH, 0, none⟩) k cH) (.slice (some ⟨gG, 0, none⟩) k cG) k k k k qs ps rs) (hk : 1 ≤ k ∧ k ≤ 64) (htk : Tok l) (hC1 : 2 ≤ C) (hC2 : C ≤ 65536) (hl : l.length ≤ C) (hb : Below w0.heap.size w0 w) :
    PQ w0 wr X ab gc Y Z k (tb0 b C ab rb (.slice (some ⟨gP, 0, none⟩) k cP) (.slice (some ⟨gH, 0, none⟩) k cH) (.slice (some ⟨gG, 0, none⟩) k cG)) gP cP gH cH qs ps b C Y2 rb rc gG cG rs 0 := by
  have hz := h.zl
  have hs := hb.size
  exact ⟨_, s0 b C l, _, _, _, .slice none 0 0, s0 b C l, fun _ => .slice none 0 0, fun _ => Hs.new,
    ⟨(h.rm hk htk hC1 hC2 hl).base hb, ⟨⟨by omega, by omega, by omega⟩, h.rr, h.rg, fun j hj => ⟨(h.ob j hj).2.2, TOwn.nil _ _⟩, fun i j hij hj => (h.inj i j hij hj).2.2, fun j hj => (h.lo j hj).2.2, fun j hj => ⟨⟨by decide, by decide, by decide, by decide, by decide⟩, PutOk.new⟩, ⟨hC1, hC2, by rw [s0_len]; omega⟩, rfl, rfl, Nat.zero_le _⟩, ⟨rfl, rfl, rfl, rfl⟩, fun e => hz.2.2.2.2.2 e.symm, fun g hg => by cases hg⟩, fun _ _ => rfl, rfl, rfl, rfl⟩
theorem PB.keep {n : Nat} {lv : Value} {s : Ast} {vs : Nat → Value} {gs : Nat → Bool} {ds : Nat → Hs} {lu : Value} {t : Ast} {us : Nat → Value} {es : Nat → Hs} {J : Nat} (h : PB w wr X ab gc Y Z k tb gP cP gH cH qs ps b C Y2 rb rc gG cG rs lv s vs gs ds K lu t us es J) {lo z : Nat} {ty : TypeId} {v : Value} {xs : List Value} (ho : wr.ownsRow lo ty z v n xs) (hty : ty = 55 ∨ ty = 40) (hlo : gc < lo ∧ ∀ g, lv.ownBlock = some g → g < lo) (c : Chg (PF ab gc qs ps k lv) wr wr') : wr'.ownsRow lo ty z v n xs :=
  own_stayR ho (fun g hg => c.block _ (ho.lt g hg).2 (fun e => by
    obtain ⟨hl, cs, h3⟩ := own_tyz ho hg
    rcases e with e | e | e | ⟨i, hi, e | e⟩
    · subst e; have := ty_of h3 h.rm.ar.hb; rcases hty with q | q <;> (rw [q] at this; cases this)
    · subst e; omega
    · have := hlo.2 g e; omega
    · subst e; have := ty_of h3 (h.rm.hd i hi).1; rcases hty with q | q <;> (rw [q] at this; cases this)
    · subst e; have := ty_of h3 (h.rm.po i hi); rcases hty with q | q <;> (rw [q] at this; cases this)))
theorem rowat_get {V : World} {ao : Option Addr} {n c : Nat} {xs : List Int} (h : RowAt .u64 V (.slice ao n c) xs) {i : Nat} (hi : i < xs.length) : ∃ g o, ao = some ⟨g, o, none⟩ ∧ V.cell? ⟨g, o + i, none⟩ = some (.int .u64 (nth xs i)) := by
  obtain ⟨g, o, c', e, _, hc⟩ := h.cellAt i hi
  simp only [Value.slice.injEq] at e
  exact ⟨g, o, e.1, hc⟩
end

set_option maxRecDepth 100000 in
set_option maxHeartbeats 8000000 in
theorem plays_law (b C n : Int) (tv : Value) (l : List Tk) (ov : Value) (ops : List OpR) (w : World) (htv : TAt w tv l) (htk : Tok l) (hops : RAt opA 4 w ov ops) (hok : OpsOk ops) (hlen : ops.length ≤ 1048576) (hl20 : l.length ≤ 1048576) :
    Calls Tryz.prog 3 #[qAgg b C, tv, .int .i64 n, ov] w fun e w' => e = .returned (.bool true) ∧ Below w.heap.size w w' := by
  obtain ⟨W, hW⟩ : ∃ W, W = w.alloc (.cells #[.int .i64 b, .int .i64 C] 23) := ⟨_, rfl⟩
  have hbW : Below w.heap.size w W := by rw [hW]; exact below_alloc (Below.refl _ _) _
  have HBW := hide hbW
  have HZ := hide (show W.heap[w.heap.size]? = some (.cells #[.int .i64 b, .int .i64 C] 23 (0, 0)) by rw [hW]; exact heap_new _ _)
  have HF := hide (fits_any b C tv l W (htv.below hbW) htk)
  obtain ⟨oo, oc, rfl, hoc, hoc2⟩ := hops.shape
  obtain ⟨ta, tc, rfl, htc, _⟩ := htv.shape
  have HOP := hide (fun V (k : Below w.heap.size w V) => hops.below k)
  have HTV := hide (fun V (k : Below w.heap.size w V) => htv.below k)
  have a0 := cell_of HZ.out (i := 0) rfl; have a1 := cell_of HZ.out (i := 1) rfl
  unfold qAgg at HF ⊢
  by_cases he : errR b C l = 0
  · rw [show decide (errR b C l = 0) = true by simpa using he] at HF
    obtain ⟨b, C, rfl, rfl, hC1, hC2, hbm, hnv, hlc⟩ := errR_zero he
    have hk := hN_le n
    obtain ⟨k, hkk⟩ : ∃ k, k = hN n := ⟨_, rfl⟩
    rw [← hkk] at hk
    have HHN := hide (fun V => handles_any n V)
    rw [← hkk] at HHN
    have HLY := hide (fun V (kb : Below w.heap.size w V) => lay_any b C k _ l V (HTV.out V kb) htk hC1 hC2 hbm hnv hlc (by omega))
    have HTK := hide htk
    have HCL := hide (show 2 ≤ C ∧ C ≤ 65536 ∧ l.length ≤ C from ⟨hC1, hC2, hlc⟩)
    have HOK := hide hok
    have HBM := hide hbm
    unfold qAgg at HLY
    obtain ⟨L, hL⟩ : ∃ L, L = ops.length := ⟨_, rfl⟩
    have HLn := hide hL
    have HLL := hide (show L ≤ 1048576 by omega)
    rw [← hL] at hlen hoc HOP ⊢
    rw [hW] at a0 a1
    clear hops htv hbW he hnv hlc hkk htk hok hL hbm htc
    go_enter Tryz.func3, Tryz.ntmps3
    go_wp2_with fail
    rw [← hW]
    clear hW a0 a1
    refine HF.out.mono ?_
    rintro e w2 ⟨rfl, hb2⟩
    have HB2 := hide (below_on HBW.out hb2)
    have hz2 := (hb2.block _ (lt_of_heap HZ.out)).trans HZ.out
    have HZ2 := hide hz2
    have a0 := cell_of hz2 (i := 0) rfl; have a1 := cell_of hz2 (i := 1) rfl
    clear hb2 hz2 HF HZ HBW

    go_upto_region 3 with fail
    refine wp_region_noPanic ?_
    go_region_held3 (fun x => x.cell? ⟨w.heap.size, 0, none⟩ = some (.int .i64 b) ∧ x.cell? ⟨w.heap.size, 1, none⟩ = some (.int .i64 C)) (first | exact ⟨a0, a1⟩ | exact ⟨b0, b1⟩ | go_keep)
      (first
        | (go_at_call 11; refine (HHN.out _).mono ?_; rintro e w3 ⟨rfl, rfl⟩)
        | (go_at_call 10; refine (HLY.out _ (below_on HB2.out (below_drew (Below.refl _ _)))).mono ?_; rintro e w4 ⟨X, ab, gc, rb, rc, Y, Y2, Z, vP, vH, vG, qs, ps, rs, rfl, hll⟩; obtain ⟨gP, cP, rfl⟩ := own_spot hll.rp (by omega); obtain ⟨gH, cH, rfl⟩ := own_spot hll.rh (by omega); obtain ⟨gG, cG, rfl⟩ := own_spot hll.rg (by omega); have HP4 := hide (hll.pq ⟨hk.1, by omega⟩ HTK.out HCL.out.1 HCL.out.2.1 HCL.out.2.2 (below_on HB2.out (below_drew (Below.refl _ _)))); have hz4 := (hll.bel.block _ (lt_of_heap HZ2.out)).trans HZ2.out; have b0 := cell_of hz4 (i := 0) rfl; have b1 := cell_of hz4 (i := 1) rfl; clear hll hz4)
        | fail)
    all_goals
      refine NoPanic.normal ?_
      generalize htb : tb0 b C ab rb (.slice (some ⟨gP, 0, none⟩) k cP) (.slice (some ⟨gH, 0, none⟩) k cH) (.slice (some ⟨gG, 0, none⟩) k cG) = tb at HP4
      have hpn : ∀ w, (binOp .eql 28 (.pointer (some ⟨X, 0, none⟩)) (.pointer none)).run Tryz.prog w = .ok (.bool false) w := fun w => rfl
      clear htb a0 a1 b0 b1 HZ2 HB2 HLY HHN HTV HTK
      go_wp2_with fail
      clear hpn
      go_loopw [10] (fun tt wq => ∃ j : Nat, j ≤ k ∧ tt = .int .i64 (j : Int) ∧ PQ w wq X ab gc Y Z k tb gP cP gH cH qs ps b C Y2 rb rc gG cG rs 0) (fun tt _ => k - (RowKit.intOf tt).toNat)
      case atStart => exact ⟨0, Nat.zero_le _, rfl, HP4.out⟩
      case round =>
        obtain ⟨j, hjk, rfl, hpq⟩ := hrel
        have HPQ := hide hpq
        clear HP4 hpq
        obtain ⟨x2, x4, x5⟩ := HPQ.out.gat
        by_cases hlt : j < k
        · have hjj : (j : Int) < (k : Int) := by omega
          have HAL := hide (HPQ.out.alike hlt)
          go_wp2_with fail
          refine HAL.out.mono ?_
          rintro e wa ⟨rfl, hqa⟩
          have HQA := hide hqa
          clear hqa HAL x2 x4 x5
          go_wp2_with fail
          exact ⟨⟨j + 1, hlt, by simp, HQA.out⟩, mdecR hlt⟩
        · obtain rfl : j = k := by omega
          go_wp2_with fail
          clear x2 x4 x5
          go_loopw [11] (fun tt wq => ∃ q : Nat, q ≤ L ∧ tt = .int .i64 (q : Int) ∧ PQ w wq X ab gc Y Z j tb gP cP gH cH qs ps b C Y2 rb rc gG cG rs q) (fun tt _ => L - (RowKit.intOf tt).toNat)
          case atStart => exact ⟨0, Nat.zero_le _, rfl, HPQ.out⟩
          case round =>
            obtain ⟨q, hqL, rfl, hpq⟩ := hrel
            have HQQ := hide hpq
            have hW := hpq.bel
            clear HPQ hpq
            by_cases hlt : q < L
            · have hjl : q < ops.length := by rw [← HLn.out]; exact hlt
              have hjj : (q : Int) < (L : Int) := by omega
              have ho : ops[q]? = some ops[q] := List.getElem?_eq_getElem hjl
              have HOO := hide (HOK.out ops[q] (List.getElem_mem hjl))
              obtain ⟨og, oq, ho0, _, hcl⟩ := (HOP.out wr hW).at q hjl
              subst ho0
              have hoc : ∀ m u, (opA ops[q])[m]? = some u → wr.cell? ⟨og, oq + q * 4 + m, none⟩ = some u := hcl
              generalize hop : ops[q] = op at HOO hoc
              obtain ⟨kd, who, t1, t2⟩ := op
              have q0 : wr.cell? ⟨og, oq + q * 4, none⟩ = some (.int .i64 kd) := hoc 0 _ rfl
              have q1 : wr.cell? ⟨og, oq + q * 4 + 1, none⟩ = some (.int .i64 who) := hoc 1 _ rfl
              have q2 : wr.cell? ⟨og, oq + q * 4 + 2, none⟩ = some (.int .u64 t1) := hoc 2 _ rfl
              have q3 : wr.cell? ⟨og, oq + q * 4 + 3, none⟩ = some (.int .u64 t2) := hoc 3 _ rfl
              simp only at HOO
              clear hop ho hcl hoc hW
              have HDO := hide (do_any HQQ.out (by have := HLL.out; omega) kd who t1 t2 HOO.out.1 HOO.out.2)
              go_wp2_with fail
              refine HDO.out.mono ?_
              rintro e wa ⟨rfl, hqa⟩
              have HQA := hide hqa
              clear hqa HDO q0 q1 q2 q3
              go_wp2_with fail
              exact ⟨⟨q + 1, hlt, by simp, HQA.out⟩, mdecR hlt⟩
            · obtain rfl : q = L := by omega
              obtain ⟨lv, s, vs, gs, ds, lu, t, us, es, hB, he, hc, hl, hst⟩ := HQQ.out
              have HB := hide hB; have HE := hide he; have HC := hide hc; have HLg := hide hl
              have HLG := hide (rmx_log hB.rm (by have := HLL.out; omega))
              have HLV : Hid (gc < wr.heap.size ∧ ∀ g, lv.ownBlock = some g → g < wr.heap.size) := hide ⟨lt_of_heap hB.rm.ar.hc, fun g hg => by obtain ⟨_, cs, h3⟩ := hB.rm.lvt hg; exact lt_of_heap h3⟩
              obtain ⟨x0, x1, x2, x3, x4, x5, x6⟩ := hB.cells
              clear HQQ hB he hc hl hst hW
              go_wp2_with fail
              refine HLG.out.mono ?_
              rintro e w1 ⟨vl, rfl, hown, hrm, c⟩
              have HB1 := hide (HB.out.pr hrm c (.inl rfl))
              have HOL := hide hown
              have HSZ := hide c.size
              clear hown hrm c HLG HB x0 x1 x2 x3 x4 x5 x6
              have HIM := hide (rmx_image HB1.out.rm)
              obtain ⟨x0, x1, x2, x3, x4, x5, x6⟩ := HB1.out.cells
              go_wp2_with fail
              refine HIM.out.mono ?_
              rintro e w2 ⟨vi, rfl, hown, hrm, c⟩
              have HB2 := hide (HB1.out.pr hrm c (.inl rfl))
              have HOI := hide hown
              have HOL2 := hide (HB1.out.keep HOL.out (.inl rfl) HLV.out c)
              have HLW := hide (⟨Nat.lt_of_lt_of_le HLV.out.1 HSZ.out, fun g hg => Nat.lt_of_lt_of_le (HLV.out.2 g hg) HSZ.out⟩ : gc < w1.heap.size ∧ ∀ g, lv.ownBlock = some g → g < w1.heap.size)
              clear hown hrm c HIM HB1 HOL x0 x1 x2 x3 x4 x5 x6
              obtain ⟨M, hM⟩ : ∃ M, M = s.log.length := ⟨_, rfl⟩
              obtain ⟨D, hD⟩ : ∃ D, D = s.cells.length := ⟨_, rfl⟩
              obtain ⟨ao, al, hlu⟩ := owns_shape HB2.out.rr.ar.hl
              rw [HLg.out, ← hM] at hlu
              subst hlu
              obtain ⟨a1, c1, h1⟩ := owns_shape HOL2.out
              rw [← hM] at h1
              subst h1
              obtain ⟨a2, c2, h2⟩ := owns_shape HOI.out
              rw [← hD] at h2
              subst h2
              have HM := hide hM; have HD := hide hD
              have HMb : Hid (M ≤ 1048576) := hide (by rw [hM, ← HLg.out]; have := HB2.out.rr.lk; have := HLL.out; omega)
              have HDb : Hid (D ≤ 16777216) := hide (by rw [hD]; exact HB2.out.rm.ar.len)
              have RC := hide (fun V (hV : PB w V X ab gc Y Z j tb gP cP gH cH qs ps b C Y2 rb rc gG cG rs lv s vs gs ds q (.slice ao M al) t us es q) => (⟨hV.cells.2.2.2.2.2.1, cell_of hV.rr.ar.hb rfl, by have z := hV.rcell; rw [HC.out, ← HD.out] at z; exact z⟩ : V.cell? ⟨X, 5, none⟩ = some (.pointer (some ⟨rb, 0, none⟩)) ∧ V.cell? ⟨rb, 1, none⟩ = some (.slice ao M al) ∧ V.cell? ⟨rb, 0, none⟩ = some (.slice (some ⟨rc, 0, none⟩) D D)))
              have HHE := hide (fun V (kb : Below w2.heap.size w2 V) => lheld_chg (HB2.out.below kb) HE.out HC.out)
              obtain ⟨x5, r1, r0⟩ := RC.out _ HB2.out
              have hLL : ((M : Int) != (M : Int)) = false := by simp
              have hDD : ((D : Int) != (D : Int)) = false := by simp
              clear hM hD
              go_wp2_with (go_at_call 16; refine (HHE.out _ (Below.refl _ _)).mono ?_; rintro e w3 ⟨rfl, hb3, c3⟩; have HB3 := hide hb3; have HOL3 := hide (HB2.out.keep HOL2.out (.inl rfl) HLV.out c3); have HOI3 := hide (HB2.out.keep HOI.out (.inr rfl) HLW.out c3); clear hb3 c3)
              clear HHE HB2 HOL2 HOI HLV HLW HSZ x5 r1 r0 hLL hDD
              have HA2 := AccsAt.of_owns HB3.out.rr.ar.hl
              rw [HLg.out] at HA2
              obtain ⟨a1', c1', e1, k1⟩ := (AccsAt.of_owns HOL3.out).cell
              obtain ⟨ao', al', e2, k2⟩ := HA2.cell
              rw [← HM.out] at e1 e2
              simp only [Value.slice.injEq, true_and] at e1 e2
              obtain ⟨rfl, rfl⟩ := e1
              obtain ⟨rfl, rfl⟩ := e2
              rw [← HM.out] at k1 k2
              have K1 := hide k1; have K2 := hide k2
              have K3 := hide (fun V (kb : Below w3.heap.size w3 V) => (RowAt.of_owns HOI3.out).below kb)
              have K4 := hide (fun V (kb : Below w3.heap.size w3 V) => (by
                have z := (HB3.out.below kb).rr.ar.hc
                rw [HC.out] at z
                exact words_row z (by rw [← HD.out]; exact HDb.out) : RowAt .u64 V (.slice (some ⟨rc, 0, none⟩) s.cells.length s.cells.length) s.cells))
              rw [← HD.out] at K4
              have hneq := neq_acc
              clear HA2 k1 k2 HOL3 HOI3
              go_wp2_with fail
              go_loopw [14] (fun tt wq => ∃ q : Nat, q ≤ M ∧ tt = .int .i64 (q : Int) ∧ Hid (Below w3.heap.size w3 wq)) (fun tt _ => M - (RowKit.intOf tt).toNat)
              case atStart => exact ⟨0, Nat.zero_le _, rfl, hide (Below.refl _ _)⟩
              case round =>
                obtain ⟨p, hpM, rfl, HBQ⟩ := hrel
                have HB4 := hide (HB3.out.below HBQ.out)
                obtain ⟨x5, r1, r0⟩ := RC.out _ HB4.out
                by_cases hlt3 : p < M
                · obtain ⟨g1, o1, a, rfl, hg1, ha1, hl1, hm1, e1⟩ := K1.out p hlt3
                  obtain ⟨g2, o2, a', rfl, hg2, ha2, hl2, _, e2⟩ := K2.out p hlt3
                  rw [ha1] at ha2
                  obtain rfl := Option.some.inj ha2
                  have E1 : ∀ (j : Nat) (x : Value), a.arr[j]? = some x → wr.cell? ⟨g1, o1 + p * 8 + j, none⟩ = some x := fun j x hx => (HBQ.out.cell (p := ⟨g1, o1 + p * 8 + j, none⟩) hg1).trans (e1 j x hx)
                  have E2 : ∀ (j : Nat) (x : Value), a.arr[j]? = some x → wr.cell? ⟨g2, o2 + p * 8 + j, none⟩ = some x := fun j x hx => (HBQ.out.cell (p := ⟨g2, o2 + p * 8 + j, none⟩) hg2).trans (e2 j x hx)
                  have hkm : (p : Int) + 1 ≤ 9223372036854775807 := by have := HMb.out; omega
                  have p0 : wr.cell? ⟨g1, o1 + p * 8, none⟩ = some (.int .i64 a.who) := E1 0 _ rfl
                  have p1 : wr.cell? ⟨g1, o1 + p * 8 + 1, none⟩ = some (.int .i64 a.kind) := E1 1 _ rfl
                  have p2 : wr.cell? ⟨g1, o1 + p * 8 + 2, none⟩ = some (.int .i64 a.cell) := E1 2 _ rfl
                  have p3 : wr.cell? ⟨g1, o1 + p * 8 + 3, none⟩ = some (.int .u64 a.want) := E1 3 _ rfl
                  have p4 : wr.cell? ⟨g1, o1 + p * 8 + 4, none⟩ = some (.int .u64 a.put) := E1 4 _ rfl
                  have p5 : wr.cell? ⟨g1, o1 + p * 8 + 5, none⟩ = some (.int .u64 a.seen) := E1 5 _ rfl
                  have p6 : wr.cell? ⟨g1, o1 + p * 8 + 6, none⟩ = some (.int .u64 a.left) := E1 6 _ rfl
                  have p7 : wr.cell? ⟨g1, o1 + p * 8 + 7, none⟩ = some (.bool a.ok) := E1 7 _ rfl
                  have q0 : wr.cell? ⟨g2, o2 + p * 8, none⟩ = some (.int .i64 a.who) := E2 0 _ rfl
                  have q1 : wr.cell? ⟨g2, o2 + p * 8 + 1, none⟩ = some (.int .i64 a.kind) := E2 1 _ rfl
                  have q2 : wr.cell? ⟨g2, o2 + p * 8 + 2, none⟩ = some (.int .i64 a.cell) := E2 2 _ rfl
                  have q3 : wr.cell? ⟨g2, o2 + p * 8 + 3, none⟩ = some (.int .u64 a.want) := E2 3 _ rfl
                  have q4 : wr.cell? ⟨g2, o2 + p * 8 + 4, none⟩ = some (.int .u64 a.put) := E2 4 _ rfl
                  have q5 : wr.cell? ⟨g2, o2 + p * 8 + 5, none⟩ = some (.int .u64 a.seen) := E2 5 _ rfl
                  have q6 : wr.cell? ⟨g2, o2 + p * 8 + 6, none⟩ = some (.int .u64 a.left) := E2 6 _ rfl
                  have q7 : wr.cell? ⟨g2, o2 + p * 8 + 7, none⟩ = some (.bool a.ok) := E2 7 _ rfl
                  have hself : accEq ⟨a.who, a.kind, a.cell, a.want, a.put, a.seen, a.left, a.ok⟩ ⟨a.who, a.kind, a.cell, a.want, a.put, a.seen, a.left, a.ok⟩ = true := (accEq_iff _ _).2 rfl
                  have hl1i : (p : Int) < (M : Int) := by omega
                  clear e1 e2 E1 E2 ha1 hm1 hl1 hl2 r0 hg1 hg2
                  go_wp2_with fail
                  go_quiet (fail)
                  go_wp2_with fail
                  exact ⟨⟨p + 1, hlt3, by simp, hide (below_on HBQ.out (below_drN _ _))⟩, mdecR hlt3⟩
                · obtain rfl : p = M := by omega
                  clear x5 r1 r0 hneq K1 K2 HB4
                  go_wp2_with fail
                  go_loopw [15] (fun tt wq => ∃ m : Nat, m ≤ D ∧ tt = .int .i64 (m : Int) ∧ Hid (Below w3.heap.size w3 wq)) (fun tt _ => D - (RowKit.intOf tt).toNat)
                  case atStart => exact ⟨0, Nat.zero_le _, rfl, HBQ⟩
                  case round =>
                    clear HBQ
                    obtain ⟨m, hmD, rfl, HBQ⟩ := hrel
                    have HB4 := hide (HB3.out.below HBQ.out)
                    obtain ⟨x5, r1, r0⟩ := RC.out _ HB4.out
                    by_cases hlt4 : m < D
                    · obtain ⟨g1, o1, e1, y1⟩ := rowat_get (K3.out _ HBQ.out) (i := m) (by rw [← HD.out]; exact hlt4)
                      obtain ⟨g2, o2, e2, y2⟩ := rowat_get (K4.out _ HBQ.out) (i := m) (by rw [← HD.out]; exact hlt4)
                      subst e1
                      simp only [Option.some.injEq, Addr.mk.injEq, and_true] at e2
                      obtain ⟨rfl, rfl⟩ := e2
                      have hkm : (m : Int) + 1 ≤ 9223372036854775807 := by have := HDb.out; omega
                      have hmi : (m : Int) < (D : Int) := by omega
                      obtain ⟨y, hy⟩ : ∃ y, y = nth s.cells m := ⟨_, rfl⟩
                      rw [← hy] at y1 y2
                      rw [Nat.zero_add] at y2
                      have hyy : (y != y) = false := by simp
                      clear hy r1
                      go_wp2_with fail
                      go_quiet (fail)
                      go_wp2_with fail
                      exact ⟨⟨m + 1, hlt4, by simp, hide (below_on HBQ.out (below_drN _ _))⟩, mdecR hlt4⟩
                    · obtain rfl : m = D := by omega
                      go_wp2_with fail
                      go_ret
                      exact ⟨rfl, HB4.out.rm.bel⟩
  · rw [show decide (errR b C l = 0) = false by simpa using he] at HF
    have HRL := hide (fun V (kb : Below w.heap.size w V) => ring_law b C n _ l V (HTV.out V kb) htk (by omega))
    unfold qAgg at HRL
    rw [hW] at a0 a1
    clear hops htv hbW he htk hok
    go_enter Tryz.func3, Tryz.ntmps3
    go_wp2_with fail
    rw [← hW]
    clear hW a0 a1
    refine HF.out.mono ?_
    rintro e w2 ⟨rfl, hb2⟩
    have HB2 := hide (below_on HBW.out hb2)
    have hz2 := (hb2.block _ (lt_of_heap HZ.out)).trans HZ.out
    have a0 := cell_of hz2 (i := 0) rfl; have a1 := cell_of hz2 (i := 1) rfl
    clear hb2 hz2 HF HZ HBW
    go_wp2_with fail
    refine (HRL.out _ HB2.out).mono ?_
    rintro e w3 ⟨rfl, hb3⟩
    have HB3 := hide (below_on HB2.out hb3)
    clear hb3
    go_wp2_with fail
    go_ret
    exact ⟨rfl, HB3.out⟩
end Go.Proofs.YtgjdjdgondpjeaaGreat

