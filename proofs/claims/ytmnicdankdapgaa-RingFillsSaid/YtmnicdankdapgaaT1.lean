/- Tasks in memory; whether one is Never; lists held against one another. -/
import Derived.Test.YtmnicdankdapgaaS2
import Derived.Laws.StructEq
import Derived.ChangeKeysEq
import Derived.Laws.EntriesVeiled
namespace Go.Proofs.Ytmnicdankdapgaa
open Go.RowKit Go.Lib
set_option linter.unusedVariables false
abbrev Tk := Int × Int
def tAt (l : List Tk) (i : Nat) : Tk := l[i]?.getD (0, 0)
/-- Tasks that lie anywhere. -/
def TAt (w : World) (v : Value) (l : List Tk) : Prop :=
  ∃ ao c, v = .slice ao l.length c ∧ l.length ≤ c ∧ c ≤ 9223372036854775807 ∧
    ∀ i, i < l.length → ∃ g o, ao = some ⟨g, o, none⟩ ∧ w.cell? ⟨g, o + i * 2, none⟩ = some (.int .u64 (tAt l i).1) ∧ w.cell? ⟨g, o + i * 2 + 1, none⟩ = some (.int .u64 (tAt l i).2)
theorem TAt.below {w w' : World} {v : Value} {l : List Tk} (h : TAt w v l) (hb : Below w.heap.size w w') : TAt w' v l := by
  obtain ⟨ao, c, rfl, h1, h2, h3⟩ := h
  refine ⟨ao, c, rfl, h1, h2, fun i hi => ?_⟩
  obtain ⟨g, o, e, p, q⟩ := h3 i hi
  have hl : g < w.heap.size := block_of_cell p
  exact ⟨g, o, e, (below_cell hb hl).trans p, (below_cell hb hl).trans q⟩
theorem TAt.shape {w : World} {v : Value} {l : List Tk} (h : TAt w v l) : ∃ ao c, v = .slice ao l.length c ∧ l.length ≤ c ∧ c ≤ 9223372036854775807 := by
  obtain ⟨ao, c, rfl, h1, h2, _⟩ := h; exact ⟨ao, c, rfl, h1, h2⟩
theorem TAt.cellAt {w : World} {ao : Option Addr} {n c : Nat} {l : List Tk} (h : TAt w (.slice ao n c) l) (i : Nat) (hi : i < l.length) :
    ∃ g o, ao = some ⟨g, o, none⟩ ∧ w.cell? ⟨g, o + i * 2, none⟩ = some (.int .u64 (tAt l i).1) ∧ w.cell? ⟨g, o + i * 2 + 1, none⟩ = some (.int .u64 (tAt l i).2) := by
  obtain ⟨ao', c', he, h1, h2, h3⟩ := h
  simp only [Value.slice.injEq] at he
  obtain ⟨rfl, _, _⟩ := he
  exact h3 i hi
theorem TAt.nil (w : World) : TAt w (.slice none 0 0) [] := ⟨none, 0, rfl, Nat.le_refl _, by omega, fun i hi => absurd hi (Nat.not_lt_zero _)⟩
/-- The tasks' numbers are words. -/
def Tok (l : List Tk) : Prop := ∀ i, i < l.length → (0 ≤ (tAt l i).1 ∧ (tAt l i).1 < 18446744073709551616) ∧ 0 ≤ (tAt l i).2 ∧ (tAt l i).2 < 18446744073709551616
def Nev : Int := 18446744073709551615
def nevAt (l : List Tk) : Option Nat := first (fun i => decide ((tAt l i).1 = Nev)) l.length
def hasNev (l : List Tk) : Bool := (nevAt l).isSome
def nevIx (l : List Tk) : Int := match nevAt l with | some i => (i : Int) | none => -1
theorem nevIx_nonneg (l : List Tk) : decide (0 ≤ nevIx l) = hasNev l := by
  unfold nevIx hasNev
  cases nevAt l <;> simp
theorem nev_some {l : List Tk} {i : Nat} (hi : i < l.length) (h1 : ∀ j, j < i → (tAt l j).1 ≠ Nev) (h2 : (tAt l i).1 = Nev) : nevAt l = some i :=
  first_some (p := fun i => decide ((tAt l i).1 = Nev)) hi (by simp [h2]) (fun j hj => by simp [h1 j hj])
theorem nev_none {l : List Tk} (h : ∀ j, j < l.length → (tAt l j).1 ≠ Nev) : nevAt l = none :=
  first_none (p := fun i => decide ((tAt l i).1 = Nev)) fun j hj => by simp [h j hj]
theorem nev_no {l : List Tk} (h : hasNev l = false) : ∀ j, j < l.length → (tAt l j).1 ≠ Nev := by
  intro j hj
  have : nevAt l = none := by unfold hasNev at h; simpa using h
  have := first_none_of this j hj
  simpa using this
set_option maxRecDepth 100000 in
theorem nev1_any (x y : Int) (w : World) :
    Calls Try.prog 67 #[.agg #[.int .u64 x, .int .u64 y]] w fun e w' => e = .returned (.bool (decide (x = Nev))) ∧ Below w.heap.size w w' := by
  have hN : Nev = 18446744073709551615 := rfl
  go_enter Try.func67, Try.ntmps67
  go_wp2
  go_ret
  exact ⟨by rw [hN]; rfl, (Below.refl _ _).alloc (Nat.le_refl _) _⟩
set_option maxRecDepth 100000 in
set_option maxHeartbeats 4000000 in
theorem nevIx_any (v : Value) (l : List Tk) (w : World) (hl : TAt w v l) :
    Calls Try.prog 77 #[v, .func (.func 67) #[] #[]] w fun e w' => e = .returned (.int .i64 (nevIx l)) ∧ Below w.heap.size w w' := by
  obtain ⟨fo, fc, rfl, k1, k2⟩ := hl.shape
  have HF := hide hl
  obtain ⟨L, hL⟩ : ∃ L, L = l.length := ⟨_, rfl⟩
  have HS : Hid (∀ i, i < L → (∀ j, j < i → (tAt l j).1 ≠ Nev) → (tAt l i).1 = Nev → nevIx l = (i : Int)) := fun i hi h1 h2 => by
    unfold nevIx; rw [nev_some (by omega) h1 h2]
  have HN : Hid ((∀ j, j < L → (tAt l j).1 ≠ Nev) → nevIx l = -1) := fun h => by
    unfold nevIx; rw [nev_none fun j hj => h j (by omega)]
  have HL := hide hL
  rw [← hL] at k1 HF ⊢
  clear hl hL
  go_enter Try.func77, Try.ntmps77
  go_wp2
  go_loopw [8] (fun t wr => ∃ i : Nat, i ≤ L ∧ t = .int .i64 i ∧ (∀ j, j < i → (tAt l j).1 ≠ Nev) ∧ Below w.heap.size w wr) (fun t _ => L - (RowKit.intOf t).toNat)
  case atStart => exact ⟨0, by omega, rfl, fun j hj => by omega, Below.refl _ _⟩
  case round =>
    obtain ⟨i, hiL, rfl, hall, hbel⟩ := hrel
    have HALL := hide hall
    have HBEL := hide hbel
    by_cases hlt : i < L
    · obtain ⟨g, o, he, d0, d1⟩ := (HF.out.below hbel).cellAt i (by have := HL.out; omega)
      subst he
      obtain ⟨x, hx⟩ : ∃ x, x = (tAt l i).1 := ⟨_, rfl⟩
      obtain ⟨y, hy⟩ : ∃ y, y = (tAt l i).2 := ⟨_, rfl⟩
      have HX := hide hx
      rw [← hx] at d0
      rw [← hy] at d1
      clear hx hy hall hbel
      have HNW := hide (nev1_any x y wr)
      by_cases hv : x = Nev
      · rw [decide_eq_true hv] at HNW
        have HE := hide (HS.out i hlt HALL.out (by rw [← HX.out]; exact hv))
        clear hv
        go_wp2_with fail
        refine HNW.out.mono ?_
        rintro e w2 ⟨rfl, hb2⟩
        go_wp2
        go_ret
        exact ⟨by rw [HE.out]; rfl, below_on HBEL.out hb2⟩
      · rw [decide_eq_false hv] at HNW
        have HV := hide hv
        clear hv
        go_wp2_with fail
        refine HNW.out.mono ?_
        rintro e w2 ⟨rfl, hb2⟩
        go_wp2
        go_roundw
        case rel =>
          refine ⟨i + 1, by omega, by simp, fun j hj => ?_, below_on HBEL.out hb2⟩
          rcases Nat.lt_or_ge j i with h | h
          · exact HALL.out j h
          · obtain rfl : j = i := by omega
            rw [← HX.out]; exact HV.out
        case measure => simp [RowKit.intOf]; omega
    · obtain rfl : i = L := by omega
      have HE := hide (HN.out HALL.out)
      clear hall hbel
      go_wp2
      go_ret
      exact ⟨by rw [HE.out]; rfl, HBEL.out⟩
set_option maxRecDepth 100000 in
theorem contains_any (v : Value) (l : List Tk) (w : World) (hl : TAt w v l) :
    Calls Try.prog 66 #[v, .func (.func 67) #[] #[]] w fun e w' => e = .returned (.bool (hasNev l)) ∧ Below w.heap.size w w' := by
  obtain ⟨fo, fc, rfl, _, _⟩ := hl.shape
  have HI := hide (nevIx_any _ l w hl)
  have HD := hide (nevIx_nonneg l)
  clear hl
  go_enter Try.func66, Try.ntmps66
  go_wp2_with fail
  refine HI.out.mono ?_
  rintro e w2 ⟨rfl, hb⟩
  have HB := hide hb
  clear hb HI
  go_wp2
  go_ret
  exact ⟨by rw [← HD.out]; rfl, HB.out⟩
set_option maxRecDepth 100000 in
theorem anyNever_any (v : Value) (l : List Tk) (w : World) (hl : TAt w v l) :
    Calls Try.prog 44 #[v] w fun e w' => e = .returned (.bool (hasNev l)) ∧ Below w.heap.size w w' := by
  obtain ⟨fo, fc, rfl, _, _⟩ := hl.shape
  have HI := hide (contains_any _ l w hl)
  clear hl
  go_enter Try.func44, Try.ntmps44
  go_wp2_with fail
  refine HI.out.mono ?_
  rintro e w2 ⟨rfl, hb⟩
  have HB := hide hb
  clear hb HI
  go_wp2
  go_ret
  exact ⟨rfl, HB.out⟩
theorem field_int {d : Nat} {f : Field} {fs : List Field} {l m : Array Value} {k : IntKind} {x y : Int} {r : Bool} {w : World} (hn : f.name ≠ "_") (hu : Try.prog.underlying f.type = some (.int k))
    (hl : (part f.type l f.offset).run Try.prog w = .ok (.int k x) w) (hm : (part f.type m f.offset).run Try.prog w = .ok (.int k y) w)
    (h : (Op.eqFields (d + 1) l m fs).run Try.prog w = .ok r w) : (Op.eqFields (d + 1) l m (f :: fs)).run Try.prog w = .ok (x == y && r) w := by
  simp only [Op.eqFields, if_pos hn, Sem.run_bind]
  rw [hl, Result.andThen_ok, hm, Result.andThen_ok, run_equalIn_int w d f.type k k x y hu, Result.andThen_ok]
  cases hxy : (x == y)
  · simp
  · simpa using h
theorem part33 (l : Array Value) (i : Nat) (x : Value) (w : World) (h : l[i]? = some x) : (part 33 l i).run Try.prog w = .ok x w := by
  simp [part, Try.sizeOf33, Try.isAgg33, h]
theorem Try.fields35 : Try.prog.underlying 35 = some (.struct (Try.prog.fieldsOf 35)) := by kernel_rfl
theorem Try.held35 : Try.prog.stoodInHeld 35 = false := by kernel_rfl
theorem Try.list35 : (Try.prog.fieldsOf 35).toList = [{ name := "Key", type := 33, offset := 0, embedded := false, tag := "", pkgPath := "", byteOffset := 0 }, { name := "Load", type := 33, offset := 1, embedded := false, tag := "", pkgPath := "", byteOffset := 8 }] := by kernel_rfl
theorem neq_task (a0 a1 b0 b1 : Int) (w : World) :
    (binOp .neq 35 (.agg #[.int .u64 a0, .int .u64 a1]) (.agg #[.int .u64 b0, .int .u64 b1])).run Try.prog w = .ok (.bool (!(a0 == b0 && (a1 == b1 && true)))) w := by
  have h : (Op.equalIn 10000 35 (.agg #[.int .u64 a0, .int .u64 a1]) (.agg #[.int .u64 b0, .int .u64 b1])).run Try.prog w = .ok (a0 == b0 && (a1 == b1 && true)) w := by
    rw [show (10000 : Nat) = 9998 + 1 + 1 from rfl, run_equalIn_struct w (9998 + 1) 35 _ _ Try.fields35 Try.held35, Try.list35]
    refine field_int (by decide) Try.underlying33 (part33 _ _ _ _ rfl) (part33 _ _ _ _ rfl) ?_
    refine field_int (by decide) Try.underlying33 (part33 _ _ _ _ rfl) (part33 _ _ _ _ rfl) ?_
    simp [Op.eqFields]
  rw [run_neq_struct, h, Result.andThen_ok]
theorem neq_same (a0 a1 : Int) (w : World) :
    (binOp .neq 35 (.agg #[.int .u64 a0, .int .u64 a1]) (.agg #[.int .u64 a0, .int .u64 a1])).run Try.prog w = .ok (.bool false) w := by
  rw [neq_task]; simp
set_option maxRecDepth 100000 in
set_option maxHeartbeats 2000000 in
theorem sameTasks12_any (v1 v2 : Value) (l : List Tk) (w : World) (h1 : TAt w v1 l) (h2 : TAt w v2 l) :
    Calls Try.prog 12 #[v1, v2] w fun e w' => e = .returned (.bool true) ∧ Below w.heap.size w w' := by
  obtain ⟨a1, c1, rfl, hc1, hm1⟩ := h1.shape
  obtain ⟨a2, c2, rfl, hc2, hm2⟩ := h2.shape
  have H1 := hide (fun i hi => h1.cellAt i hi)
  have H2 := hide (fun i hi => h2.cellAt i hi)
  clear h1 h2
  obtain ⟨n, hn⟩ : ∃ n, n = l.length := ⟨_, rfl⟩
  rw [← hn] at H1 H2 hc1 hc2 ⊢
  clear hn
  have HE := hide (fun a b w => neq_same a b w)
  go_enter Try.func12, Try.ntmps12
  go_wp2
  go_loopw [5] (fun t wr => ∃ k : Nat, k ≤ n ∧ t = .int .i64 k ∧ ∃ m, wr = w.drewN m) (fun t _ => n - (RowKit.intOf t).toNat)
  case atStart => exact ⟨0, by omega, rfl, 0, rfl⟩
  case round =>
    obtain ⟨k, hk, rfl, m, rfl⟩ := hrel
    by_cases hlt : k < n
    · obtain ⟨g1, o1, e1, d1, d1'⟩ := H1.out k hlt
      obtain ⟨g2, o2, e2, d2, d2'⟩ := H2.out k hlt
      subst e1
      subst e2
      obtain ⟨x, hx⟩ : ∃ x, x = (tAt l k).1 := ⟨_, rfl⟩
      obtain ⟨y, hy⟩ : ∃ y, y = (tAt l k).2 := ⟨_, rfl⟩
      rw [← hx] at d1 d2
      rw [← hy] at d1' d2'
      clear hx hy
      have hne := fun w => HE.out x y w
      go_wp2
      go_region
      all_goals
        go_wp2
        go_roundw
        case rel => exact ⟨k + 1, by omega, by go_num, m + 1, rfl⟩
        case measure => simp [RowKit.intOf]; omega
    · obtain rfl : k = n := by omega
      go_wp2
      go_ret
      exact ⟨rfl, below_drewN (Below.refl _ _) _⟩
set_option maxRecDepth 100000 in
set_option maxHeartbeats 2000000 in
theorem sameTasks21_any (v1 v2 : Value) (l : List Tk) (w : World) (h1 : TAt w v1 l) (h2 : TAt w v2 l) :
    Calls Try.prog 21 #[v1, v2] w fun e w' => e = .returned (.bool true) ∧ Below w.heap.size w w' := by
  obtain ⟨a1, c1, rfl, hc1, hm1⟩ := h1.shape
  obtain ⟨a2, c2, rfl, hc2, hm2⟩ := h2.shape
  have H1 := hide (fun i hi => h1.cellAt i hi)
  have H2 := hide (fun i hi => h2.cellAt i hi)
  clear h1 h2
  obtain ⟨n, hn⟩ : ∃ n, n = l.length := ⟨_, rfl⟩
  rw [← hn] at H1 H2 hc1 hc2 ⊢
  clear hn
  have HE := hide (fun a b w => neq_same a b w)
  go_enter Try.func21, Try.ntmps21
  go_wp2
  go_loopw [5] (fun t wr => ∃ k : Nat, k ≤ n ∧ t = .int .i64 k ∧ ∃ m, wr = w.drewN m) (fun t _ => n - (RowKit.intOf t).toNat)
  case atStart => exact ⟨0, by omega, rfl, 0, rfl⟩
  case round =>
    obtain ⟨k, hk, rfl, m, rfl⟩ := hrel
    by_cases hlt : k < n
    · obtain ⟨g1, o1, e1, d1, d1'⟩ := H1.out k hlt
      obtain ⟨g2, o2, e2, d2, d2'⟩ := H2.out k hlt
      subst e1
      subst e2
      obtain ⟨x, hx⟩ : ∃ x, x = (tAt l k).1 := ⟨_, rfl⟩
      obtain ⟨y, hy⟩ : ∃ y, y = (tAt l k).2 := ⟨_, rfl⟩
      rw [← hx] at d1 d2
      rw [← hy] at d1' d2'
      clear hx hy
      have hne := fun w => HE.out x y w
      go_wp2
      go_region
      all_goals
        go_wp2
        go_roundw
        case rel => exact ⟨k + 1, by omega, by go_num, m + 1, rfl⟩
        case measure => simp [RowKit.intOf]; omega
    · obtain rfl : k = n := by omega
      go_wp2
      go_ret
      exact ⟨rfl, below_drewN (Below.refl _ _) _⟩
set_option maxRecDepth 100000 in
set_option maxHeartbeats 2000000 in
theorem sameTasks34_any (v1 v2 : Value) (l : List Tk) (w : World) (h1 : TAt w v1 l) (h2 : TAt w v2 l) :
    Calls Try.prog 34 #[v1, v2] w fun e w' => e = .returned (.bool true) ∧ Below w.heap.size w w' := by
  obtain ⟨a1, c1, rfl, hc1, hm1⟩ := h1.shape
  obtain ⟨a2, c2, rfl, hc2, hm2⟩ := h2.shape
  have H1 := hide (fun i hi => h1.cellAt i hi)
  have H2 := hide (fun i hi => h2.cellAt i hi)
  clear h1 h2
  obtain ⟨n, hn⟩ : ∃ n, n = l.length := ⟨_, rfl⟩
  rw [← hn] at H1 H2 hc1 hc2 ⊢
  clear hn
  have HE := hide (fun a b w => neq_same a b w)
  go_enter Try.func34, Try.ntmps34
  go_wp2
  go_loopw [5] (fun t wr => ∃ k : Nat, k ≤ n ∧ t = .int .i64 k ∧ ∃ m, wr = w.drewN m) (fun t _ => n - (RowKit.intOf t).toNat)
  case atStart => exact ⟨0, by omega, rfl, 0, rfl⟩
  case round =>
    obtain ⟨k, hk, rfl, m, rfl⟩ := hrel
    by_cases hlt : k < n
    · obtain ⟨g1, o1, e1, d1, d1'⟩ := H1.out k hlt
      obtain ⟨g2, o2, e2, d2, d2'⟩ := H2.out k hlt
      subst e1
      subst e2
      obtain ⟨x, hx⟩ : ∃ x, x = (tAt l k).1 := ⟨_, rfl⟩
      obtain ⟨y, hy⟩ : ∃ y, y = (tAt l k).2 := ⟨_, rfl⟩
      rw [← hx] at d1 d2
      rw [← hy] at d1' d2'
      clear hx hy
      have hne := fun w => HE.out x y w
      go_wp2
      go_region
      all_goals
        go_wp2
        go_roundw
        case rel => exact ⟨k + 1, by omega, by go_num, m + 1, rfl⟩
        case measure => simp [RowKit.intOf]; omega
    · obtain rfl : k = n := by omega
      go_wp2
      go_ret
      exact ⟨rfl, below_drewN (Below.refl _ _) _⟩
set_option maxRecDepth 100000 in
theorem sameWords10_empty (v1 v2 : Value) (w : World) (h1 : RowAt .u64 w v1 []) (h2 : RowAt .u64 w v2 []) :
    Calls Try.prog 10 #[v1, v2] w fun e w' => e = .returned (.bool true) ∧ Below w.heap.size w w' := by
  obtain ⟨a1, c1, rfl⟩ := h1.empty
  obtain ⟨a2, c2, rfl⟩ := h2.empty
  clear h1 h2
  go_enter Try.func10, Try.ntmps10
  go_wp2
  refine wp_loop_rounds 1 ?_
  rw [rounds_succ]
  go_wp2
  go_ret
  exact ⟨rfl, Below.refl _ _⟩
set_option maxRecDepth 100000 in
theorem sameWords10_any (v1 v2 : Value) (xs : List Int) (w : World) (h1 : RowAt .u64 w v1 xs) (h2 : RowAt .u64 w v2 xs) :
    Calls Try.prog 10 #[v1, v2] w fun e w' => e = .returned (.bool true) ∧ Below w.heap.size w w' := by
  by_cases hne : xs = []
  · subst hne; exact sameWords10_empty v1 v2 w h1 h2
  · obtain ⟨g1, o1, c1, rfl, hc1, hm1, hcell1⟩ := h1.spot hne
    obtain ⟨g2, o2, c2, rfl, hc2, hm2, hcell2⟩ := h2.spot hne
    clear h1 h2 hne
    obtain ⟨n, hn⟩ : ∃ n, n = xs.length := ⟨_, rfl⟩
    rw [← hn] at hcell1 hcell2 hc1 hc2 ⊢
    have H1 := hide hcell1; have H2 := hide hcell2
    clear hcell1 hcell2 hn
    go_enter Try.func10, Try.ntmps10
    go_wp2
    go_loopw [5] (fun t wr => ∃ k : Nat, k ≤ n ∧ t = .int .i64 k ∧ ∃ m, wr = w.drewN m) (fun t _ => n - (RowKit.intOf t).toNat)
    case atStart => exact ⟨0, by omega, rfl, 0, rfl⟩
    case round =>
      obtain ⟨k, hk, rfl, m, rfl⟩ := hrel
      by_cases hlt : k < n
      · have d1 := H1.out k hlt
        have d2 := H2.out k hlt
        go_wp2
        go_region
        all_goals
          go_wp2
          go_roundw
          case rel => exact ⟨k + 1, by omega, by go_num, m + 1, rfl⟩
          case measure => simp [RowKit.intOf]; omega
      · go_wp2
        go_ret
        exact ⟨rfl, below_drewN (Below.refl _ _) _⟩
set_option maxRecDepth 100000 in
theorem sameWords20_empty (v1 v2 : Value) (w : World) (h1 : RowAt .u64 w v1 []) (h2 : RowAt .u64 w v2 []) :
    Calls Try.prog 20 #[v1, v2] w fun e w' => e = .returned (.bool true) ∧ Below w.heap.size w w' := by
  obtain ⟨a1, c1, rfl⟩ := h1.empty
  obtain ⟨a2, c2, rfl⟩ := h2.empty
  clear h1 h2
  go_enter Try.func20, Try.ntmps20
  go_wp2
  refine wp_loop_rounds 1 ?_
  rw [rounds_succ]
  go_wp2
  go_ret
  exact ⟨rfl, Below.refl _ _⟩
set_option maxRecDepth 100000 in
theorem sameWords20_any (v1 v2 : Value) (xs : List Int) (w : World) (h1 : RowAt .u64 w v1 xs) (h2 : RowAt .u64 w v2 xs) :
    Calls Try.prog 20 #[v1, v2] w fun e w' => e = .returned (.bool true) ∧ Below w.heap.size w w' := by
  by_cases hne : xs = []
  · subst hne; exact sameWords20_empty v1 v2 w h1 h2
  · obtain ⟨g1, o1, c1, rfl, hc1, hm1, hcell1⟩ := h1.spot hne
    obtain ⟨g2, o2, c2, rfl, hc2, hm2, hcell2⟩ := h2.spot hne
    clear h1 h2 hne
    obtain ⟨n, hn⟩ : ∃ n, n = xs.length := ⟨_, rfl⟩
    rw [← hn] at hcell1 hcell2 hc1 hc2 ⊢
    have H1 := hide hcell1; have H2 := hide hcell2
    clear hcell1 hcell2 hn
    go_enter Try.func20, Try.ntmps20
    go_wp2
    go_loopw [5] (fun t wr => ∃ k : Nat, k ≤ n ∧ t = .int .i64 k ∧ ∃ m, wr = w.drewN m) (fun t _ => n - (RowKit.intOf t).toNat)
    case atStart => exact ⟨0, by omega, rfl, 0, rfl⟩
    case round =>
      obtain ⟨k, hk, rfl, m, rfl⟩ := hrel
      by_cases hlt : k < n
      · have d1 := H1.out k hlt
        have d2 := H2.out k hlt
        go_wp2
        go_region
        all_goals
          go_wp2
          go_roundw
          case rel => exact ⟨k + 1, by omega, by go_num, m + 1, rfl⟩
          case measure => simp [RowKit.intOf]; omega
      · go_wp2
        go_ret
        exact ⟨rfl, below_drewN (Below.refl _ _) _⟩
set_option maxRecDepth 100000 in
theorem sameWords33_empty (v1 v2 : Value) (w : World) (h1 : RowAt .u64 w v1 []) (h2 : RowAt .u64 w v2 []) :
    Calls Try.prog 33 #[v1, v2] w fun e w' => e = .returned (.bool true) ∧ Below w.heap.size w w' := by
  obtain ⟨a1, c1, rfl⟩ := h1.empty
  obtain ⟨a2, c2, rfl⟩ := h2.empty
  clear h1 h2
  go_enter Try.func33, Try.ntmps33
  go_wp2
  refine wp_loop_rounds 1 ?_
  rw [rounds_succ]
  go_wp2
  go_ret
  exact ⟨rfl, Below.refl _ _⟩
set_option maxRecDepth 100000 in
theorem sameWords33_any (v1 v2 : Value) (xs : List Int) (w : World) (h1 : RowAt .u64 w v1 xs) (h2 : RowAt .u64 w v2 xs) :
    Calls Try.prog 33 #[v1, v2] w fun e w' => e = .returned (.bool true) ∧ Below w.heap.size w w' := by
  by_cases hne : xs = []
  · subst hne; exact sameWords33_empty v1 v2 w h1 h2
  · obtain ⟨g1, o1, c1, rfl, hc1, hm1, hcell1⟩ := h1.spot hne
    obtain ⟨g2, o2, c2, rfl, hc2, hm2, hcell2⟩ := h2.spot hne
    clear h1 h2 hne
    obtain ⟨n, hn⟩ : ∃ n, n = xs.length := ⟨_, rfl⟩
    rw [← hn] at hcell1 hcell2 hc1 hc2 ⊢
    have H1 := hide hcell1; have H2 := hide hcell2
    clear hcell1 hcell2 hn
    go_enter Try.func33, Try.ntmps33
    go_wp2
    go_loopw [5] (fun t wr => ∃ k : Nat, k ≤ n ∧ t = .int .i64 k ∧ ∃ m, wr = w.drewN m) (fun t _ => n - (RowKit.intOf t).toNat)
    case atStart => exact ⟨0, by omega, rfl, 0, rfl⟩
    case round =>
      obtain ⟨k, hk, rfl, m, rfl⟩ := hrel
      by_cases hlt : k < n
      · have d1 := H1.out k hlt
        have d2 := H2.out k hlt
        go_wp2
        go_region
        all_goals
          go_wp2
          go_roundw
          case rel => exact ⟨k + 1, by omega, by go_num, m + 1, rfl⟩
          case measure => simp [RowKit.intOf]; omega
      · go_wp2
        go_ret
        exact ⟨rfl, below_drewN (Below.refl _ _) _⟩
theorem no17_any (x : Int) (w : World) : Calls Try.prog 17 #[.int .i64 x] w fun e w' => e = .returned (.int .i64 x) ∧ w' = w := by
  go_enter Try.func17, Try.ntmps17
  go_wp2
  go_ret
  exact ⟨rfl, rfl⟩
theorem no30_any (x : Int) (w : World) : Calls Try.prog 30 #[.int .i64 x] w fun e w' => e = .returned (.int .i64 x) ∧ w' = w := by
  go_enter Try.func30, Try.ntmps30
  go_wp2
  go_ret
  exact ⟨rfl, rfl⟩
end Go.Proofs.Ytmnicdankdapgaa
