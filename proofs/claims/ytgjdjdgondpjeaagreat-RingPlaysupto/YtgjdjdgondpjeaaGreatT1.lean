import Derived.Test.YtgjdjdgondpjeaaGreatHh
import Derived.Test.YtgjdjdgondpjeaaGreatRh
import Derived.Laws.StructEq
import Derived.ChangeKeysEq
import Derived.Laws.EntriesVeiled
namespace Go.Proofs.YtgjdjdgondpjeaaGreat
open Go.RowKit Go.Lib
set_option linter.unusedVariables false
theorem bcell {W w1 : World} (hb : Below W.heap.size W w1) : (∀ b o, b < W.heap.size → w1.cell? ⟨b, o, none⟩ = W.cell? ⟨b, o, none⟩) ∧ (∀ b o, b < W.heap.size → w1.frozen? ⟨b, o, none⟩ = W.frozen? ⟨b, o, none⟩) :=
  ⟨fun b o h => hb.cell (p := ⟨b, o, none⟩) h, fun b o h => hb.frozen (p := ⟨b, o, none⟩) h⟩
theorem who_le {W C v : Int} (h2 : W ≤ 64) (h3 : 1 ≤ C) (h4 : C ≤ 65536) (v1 : 0 ≤ v) (v2 : v < W) : 0 ≤ v * (2 + 2 * C) ∧ v * (2 + 2 * C) ≤ 8257662 := by
  constructor
  · exact Int.mul_nonneg v1 (by omega)
  · have := Int.mul_le_mul (show v ≤ 63 by omega) (show 2 + 2 * C ≤ 131074 by omega) (by omega) (by omega)
    omega
theorem rem_le {C x : Int} (h3 : 1 ≤ C) (h4 : C ≤ 65536) : 0 ≤ x % C ∧ x % C < 65536 := by
  have := Int.emod_nonneg x (show C ≠ 0 by omega)
  have := Int.emod_lt_of_pos x (show 0 < C by omega)
  omega
end Go.Proofs.YtgjdjdgondpjeaaGreat

/- Tasks in memory; whether one is Never; lists held against one another. -/
namespace Go.Proofs.YtgjdjdgondpjeaaGreat
open Go.RowKit Go.Lib
set_option linter.unusedVariables false
def Nev : Int := 18446744073709551615
def nevAt (l : List Tk) : Option Nat := first (fun i => decide ((tAt l i).1 = Nev)) l.length
def hasNev (l : List Tk) : Bool := (nevAt l).isSome
def nevIx (l : List Tk) : Int := match nevAt l with | some i => (i : Int) | none => -1
theorem nevIx_nonneg (l : List Tk) : decide (0 ≤ nevIx l) = hasNev l := by
  unfold nevIx hasNev
  cases nevAt l <;> simp
theorem nev_some {l : List Tk} {i : Nat} (hi : i < l.length) (h1 : ∀ j, j < i → (tAt l j).1 ≠ Nev) (h2 : (tAt l i).1 = Nev) : nevAt l = some i :=
  first_some (p := fun i => decide ((tAt l i).1 = Nev)) hi (by simp [h2]) (fun j hj => by simp [h1 j hj])
theorem nev_none {l : List Tk} (h : ∀ j, j < l.length → (tAt l j).1 ≠ Nev) : nevAt l = none :=
  first_none (p := fun i => decide ((tAt l i).1 = Nev)) fun j hj => by simp [h j hj]
theorem nev_no {l : List Tk} (h : hasNev l = false) : ∀ j, j < l.length → (tAt l j).1 ≠ Nev := by
  intro j hj
  have : nevAt l = none := by unfold hasNev at h; simpa using h
  have := first_none_of this j hj
  simpa using this
set_option maxRecDepth 100000 in
theorem nev1_any (x y : Int) (w : World) :
    Calls Tryz.prog 99 #[.agg #[.int .u64 x, .int .u64 y]] w fun e w' => e = .returned (.bool (decide (x = Nev))) ∧ Below w.heap.size w w' := by
  have hN : Nev = 18446744073709551615 := rfl
  go_enter Tryz.func99, Tryz.ntmps99
  go_wp2
  go_ret
  exact ⟨by rw [hN]; rfl, (Below.refl _ _).alloc (Nat.le_refl _) _⟩
set_option maxRecDepth 100000 in
set_option maxHeartbeats 4000000 in
theorem nevIx_any (v : Value) (l : List Tk) (w : World) (hl : TAt w v l) :
    Calls Tryz.prog 114 #[v, .func (.func 99) #[] #[]] w fun e w' => e = .returned (.int .i64 (nevIx l)) ∧ Below w.heap.size w w' := by
  obtain ⟨fo, fc, rfl, k1, k2⟩ := hl.shape
  have HF := hide hl
  obtain ⟨L, hL⟩ : ∃ L, L = l.length := ⟨_, rfl⟩
  have HS : Hid (∀ i, i < L → (∀ j, j < i → (tAt l j).1 ≠ Nev) → (tAt l i).1 = Nev → nevIx l = (i : Int)) := fun i hi h1 h2 => by
    unfold nevIx; rw [nev_some (by omega) h1 h2]
  have HN : Hid ((∀ j, j < L → (tAt l j).1 ≠ Nev) → nevIx l = -1) := fun h => by
    unfold nevIx; rw [nev_none fun j hj => h j (by omega)]
  have HL := hide hL
  rw [← hL] at k1 HF ⊢
  clear hl hL
  go_enter Tryz.func114, Tryz.ntmps114
  go_wp2
  go_loopw [8] (fun t wr => ∃ i : Nat, i ≤ L ∧ t = .int .i64 i ∧ (∀ j, j < i → (tAt l j).1 ≠ Nev) ∧ Below w.heap.size w wr) (fun t _ => L - (RowKit.intOf t).toNat)
  case atStart => exact ⟨0, by omega, rfl, fun j hj => by omega, Below.refl _ _⟩
  case round =>
    obtain ⟨i, hiL, rfl, hall, hbel⟩ := hrel
    have HALL := hide hall
    have HBEL := hide hbel
    by_cases hlt : i < L
    · obtain ⟨g, o, he, d0, d1⟩ := (HF.out.below hbel).cellAt i (by have := HL.out; omega)
      subst he
      obtain ⟨x, hx⟩ : ∃ x, x = (tAt l i).1 := ⟨_, rfl⟩
      obtain ⟨y, hy⟩ : ∃ y, y = (tAt l i).2 := ⟨_, rfl⟩
      have HX := hide hx
      rw [← hx] at d0
      rw [← hy] at d1
      clear hx hy hall hbel
      have HNW := hide (nev1_any x y wr)
      by_cases hv : x = Nev
      · rw [decide_eq_true hv] at HNW
        have HE := hide (HS.out i hlt HALL.out (by rw [← HX.out]; exact hv))
        clear hv
        go_wp2_with fail
        refine HNW.out.mono ?_
        rintro e w2 ⟨rfl, hb2⟩
        go_wp2
        go_ret
        exact ⟨by rw [HE.out]; rfl, below_on HBEL.out hb2⟩
      · rw [decide_eq_false hv] at HNW
        have HV := hide hv
        clear hv
        go_wp2_with fail
        refine HNW.out.mono ?_
        rintro e w2 ⟨rfl, hb2⟩
        go_wp2
        go_roundw
        case rel =>
          refine ⟨i + 1, by omega, by simp, fun j hj => ?_, below_on HBEL.out hb2⟩
          rcases Nat.lt_or_ge j i with h | h
          · exact HALL.out j h
          · obtain rfl : j = i := by omega
            rw [← HX.out]; exact HV.out
        case measure => simp [RowKit.intOf]; omega
    · obtain rfl : i = L := by omega
      have HE := hide (HN.out HALL.out)
      clear hall hbel
      go_wp2
      go_ret
      exact ⟨by rw [HE.out]; rfl, HBEL.out⟩
set_option maxRecDepth 100000 in
theorem containsT_any (v : Value) (l : List Tk) (w : World) (hl : TAt w v l) :
    Calls Tryz.prog 98 #[v, .func (.func 99) #[] #[]] w fun e w' => e = .returned (.bool (hasNev l)) ∧ Below w.heap.size w w' := by
  obtain ⟨fo, fc, rfl, _, _⟩ := hl.shape
  have HI := hide (nevIx_any _ l w hl)
  have HD := hide (nevIx_nonneg l)
  clear hl
  go_enter Tryz.func98, Tryz.ntmps98
  go_wp2_with fail
  refine HI.out.mono ?_
  rintro e w2 ⟨rfl, hb⟩
  have HB := hide hb
  clear hb HI
  go_wp2
  go_ret
  exact ⟨by rw [← HD.out]; rfl, HB.out⟩
set_option maxRecDepth 100000 in
theorem anyNever_any (v : Value) (l : List Tk) (w : World) (hl : TAt w v l) :
    Calls Tryz.prog 66 #[v] w fun e w' => e = .returned (.bool (hasNev l)) ∧ Below w.heap.size w w' := by
  obtain ⟨fo, fc, rfl, _, _⟩ := hl.shape
  have HI := hide (containsT_any _ l w hl)
  clear hl
  go_enter Tryz.func66, Tryz.ntmps66
  go_wp2_with fail
  refine HI.out.mono ?_
  rintro e w2 ⟨rfl, hb⟩
  have HB := hide hb
  clear hb HI
  go_wp2
  go_ret
  exact ⟨rfl, HB.out⟩
theorem part33 (l : Array Value) (i : Nat) (x : Value) (w : World) (h : l[i]? = some x) : (part 40 l i).run Tryz.prog w = .ok x w := by
  simp [part, Tryz.sizeOf40, Tryz.isAgg40, h]
set_option maxRecDepth 100000 in
set_option maxHeartbeats 2000000 in
theorem sameTasks12_any (v1 v2 : Value) (l : List Tk) (w : World) (h1 : TAt w v1 l) (h2 : TAt w v2 l) :
    Calls Tryz.prog 21 #[v1, v2] w fun e w' => e = .returned (.bool true) ∧ Below w.heap.size w w' := by
  obtain ⟨a1, c1, rfl, hc1, hm1⟩ := h1.shape
  obtain ⟨a2, c2, rfl, hc2, hm2⟩ := h2.shape
  have H1 := hide (fun i hi => h1.cellAt i hi)
  have H2 := hide (fun i hi => h2.cellAt i hi)
  clear h1 h2
  obtain ⟨n, hn⟩ : ∃ n, n = l.length := ⟨_, rfl⟩
  rw [← hn] at H1 H2 hc1 hc2 ⊢
  clear hn
  have HE := hide (fun a b w => neq_same a b w)
  go_enter Tryz.func21, Tryz.ntmps21
  go_wp2
  go_loopw [5] (fun t wr => ∃ k : Nat, k ≤ n ∧ t = .int .i64 k ∧ ∃ m, wr = w.drewN m) (fun t _ => n - (RowKit.intOf t).toNat)
  case atStart => exact ⟨0, by omega, rfl, 0, rfl⟩
  case round =>
    obtain ⟨k, hk, rfl, m, rfl⟩ := hrel
    by_cases hlt : k < n
    · obtain ⟨g1, o1, e1, d1, d1'⟩ := H1.out k hlt
      obtain ⟨g2, o2, e2, d2, d2'⟩ := H2.out k hlt
      subst e1
      subst e2
      obtain ⟨x, hx⟩ : ∃ x, x = (tAt l k).1 := ⟨_, rfl⟩
      obtain ⟨y, hy⟩ : ∃ y, y = (tAt l k).2 := ⟨_, rfl⟩
      rw [← hx] at d1 d2
      rw [← hy] at d1' d2'
      clear hx hy
      have hne := fun w => HE.out x y w
      go_wp2
      go_region
      all_goals
        go_wp2
        go_roundw
        case rel => exact ⟨k + 1, by omega, by go_num, m + 1, rfl⟩
        case measure => simp [RowKit.intOf]; omega
    · obtain rfl : k = n := by omega
      go_wp2
      go_ret
      exact ⟨rfl, below_drewN (Below.refl _ _) _⟩
set_option maxRecDepth 100000 in
theorem sameWords10_empty (v1 v2 : Value) (w : World) (h1 : RowAt .u64 w v1 []) (h2 : RowAt .u64 w v2 []) :
    Calls Tryz.prog 34 #[v1, v2] w fun e w' => e = .returned (.bool true) ∧ Below w.heap.size w w' := by
  obtain ⟨a1, c1, rfl⟩ := h1.empty
  obtain ⟨a2, c2, rfl⟩ := h2.empty
  clear h1 h2
  go_enter Tryz.func34, Tryz.ntmps34
  go_wp2
  refine wp_loop_rounds 1 ?_
  rw [rounds_succ]
  go_wp2
  go_ret
  exact ⟨rfl, Below.refl _ _⟩
set_option maxRecDepth 100000 in
theorem sameWords10_any (v1 v2 : Value) (xs : List Int) (w : World) (h1 : RowAt .u64 w v1 xs) (h2 : RowAt .u64 w v2 xs) :
    Calls Tryz.prog 34 #[v1, v2] w fun e w' => e = .returned (.bool true) ∧ Below w.heap.size w w' := by
  by_cases hne : xs = []
  · subst hne; exact sameWords10_empty v1 v2 w h1 h2
  · obtain ⟨g1, o1, c1, rfl, hc1, hm1, hcell1⟩ := h1.spot hne
    obtain ⟨g2, o2, c2, rfl, hc2, hm2, hcell2⟩ := h2.spot hne
    clear h1 h2 hne
    obtain ⟨n, hn⟩ : ∃ n, n = xs.length := ⟨_, rfl⟩
    rw [← hn] at hcell1 hcell2 hc1 hc2 ⊢
    have H1 := hide hcell1; have H2 := hide hcell2
    clear hcell1 hcell2 hn
    go_enter Tryz.func34, Tryz.ntmps34
    go_wp2
    go_loopw [5] (fun t wr => ∃ k : Nat, k ≤ n ∧ t = .int .i64 k ∧ ∃ m, wr = w.drewN m) (fun t _ => n - (RowKit.intOf t).toNat)
    case atStart => exact ⟨0, by omega, rfl, 0, rfl⟩
    case round =>
      obtain ⟨k, hk, rfl, m, rfl⟩ := hrel
      by_cases hlt : k < n
      · have d1 := H1.out k hlt
        have d2 := H2.out k hlt
        go_wp2
        go_region
        all_goals
          go_wp2
          go_roundw
          case rel => exact ⟨k + 1, by omega, by go_num, m + 1, rfl⟩
          case measure => simp [RowKit.intOf]; omega
      · go_wp2
        go_ret
        exact ⟨rfl, below_drewN (Below.refl _ _) _⟩
end Go.Proofs.YtgjdjdgondpjeaaGreat
