/- OctetJoins: the walk. -/
import Derived.Test.YtpfpelhhebafeaaDoorJoin
import Derived.Test.YtpfpelhhebafeaaDoorPut
namespace Go.Proofs.YtpfpelhhebafeaaDoor
open Go.RowKit Go.Lib
set_option linter.unusedVariables false

theorem run_app8 (w : World) (ty : TypeId) (B : Nat) (v : Value) (bs : List Int) (xv : Value) (xs : List Int) (hown : w.ownsRow B 5 1 v bs.length (bs.map (Value.int .u8))) (hB : B ≤ w.heap.size) (hx : RowAt .u8 w xv xs) (hlen : bs.length + xs.length ≤ 175921860444160) :
    ∃ ao c w', (Builtin.append_ #[22, 22] ty #[v, xv]).run Tryd.prog w = .ok (.slice ao (bs ++ xs).length c) w' ∧ w'.ownsRow B 5 1 (.slice ao (bs ++ xs).length c) (bs ++ xs).length ((bs ++ xs).map (Value.int .u8)) ∧ Below B w w' := by
  obtain ⟨i0, hi, hz0, hz1, hz2⟩ := info_parts Tryd.info5
  have hvo : ∀ k, v.ownBlock = some k → B ≤ k := by
    intro k hk
    obtain ⟨_, ⟨rfl, _⟩ | ⟨g', cap', cur', rfl, hg', hh', _⟩⟩ := hown
    · cases hk
    · cases hk; exact hg'
  obtain ⟨xo, xc, rfl, k1, k2, k3, k4⟩ := hx
  rcases Nat.eq_zero_or_pos xs.length with h0 | h0
  · obtain rfl : xs = [] := List.eq_nil_of_length_eq_zero h0
    obtain ⟨ao, c, rfl⟩ := own_shape hown
    have hsrc : Src Tryd.prog i0.size 22 (.slice xo 0 xc) 0 [] w := by
      cases xo with
      | none => exact Src.ofNil w Tryd.underlying22 xc
      | some a => exact Src.ofSlice w Tryd.underlying22 a 0 xc [] (by simp) (fun j u h => by simp at h) (by simp)
    have hcl : bs.length ≤ c := by
      obtain ⟨_, ⟨he, _⟩ | ⟨g', cap', cur', he, _, _, hn, _⟩⟩ := hown
      · simp only [Value.slice.injEq] at he; omega
      · simp only [Value.slice.injEq] at he; omega
    refine ⟨ao, c, w, ?_, by simpa using hown, Below.refl _ _⟩
    have := run_append_nothing w 22 22 ty 5 i0 Tryd.underlying22 hi ao bs.length c hcl _ hsrc
    simpa using this
  · cases xo with
    | none => have := k3 rfl; omega
    | some a =>
      obtain ⟨v', w', hrun, hown', hgrow, _⟩ := run_append_own_wide w B 22 ty 5 i0 (.int .u8 0) 1 1 Tryd.underlying22 hi hz0 hz1 hz2 rfl (by decide) v bs.length _ hown a xs.length xc (xs.map (Value.int .u8)) (by simp) (row_cells (k4 a rfl)) (ones xs) (by unfold maxLen; omega) (by omega) hB
      obtain ⟨ao, c, rfl⟩ := own_shape hown'
      rw [← List.length_append, ← List.map_append] at hown'
      rw [← List.length_append] at hrun
      exact ⟨ao, c, w', hrun, hown', (Below.refl _ _).grown hgrow hB hvo⟩

set_option maxRecDepth 100000 in
set_option maxHeartbeats 4000000 in
theorem joins_any (vx vy vz : Value) (xs ys zs : List Int) (W0 : World) (hx : RowAt .u8 W0 vx xs) (hy : RowAt .u8 W0 vy ys) (hz : RowAt .u8 W0 vz zs) (hs : SumsAt W0) (bx : ∀ b ∈ xs, 0 ≤ b ∧ b < 256) (by_ : ∀ b ∈ ys, 0 ≤ b ∧ b < 256) (bz : ∀ b ∈ zs, 0 ≤ b ∧ b < 256)
    (hbig : xs.length + ys.length + zs.length ≤ 2000000) :
    Calls Tryd.prog 10 #[vx, vy, vz] W0 fun e w' => e = .returned (.bool true) ∧ Below W0.heap.size W0 w' := by
  have HHD := hide (heads_any W0 hs)
  have HX := hide hx; have HY := hide hy; have HZ := hide hz; have HS := hide hs
  have HBX := hide bx; have HBY := hide by_; have HBZ := hide bz
  obtain ⟨ax, cx, rfl⟩ : ∃ ao c, vx = .slice ao xs.length c := by obtain ⟨ao, c, h, _⟩ := hx; exact ⟨ao, c, h⟩
  obtain ⟨ay, cy, rfl⟩ : ∃ ao c, vy = .slice ao ys.length c := by obtain ⟨ao, c, h, _⟩ := hy; exact ⟨ao, c, h⟩
  obtain ⟨az, cz, rfl⟩ : ∃ ao c, vz = .slice ao zs.length c := by obtain ⟨ao, c, h, _⟩ := hz; exact ⟨ao, c, h⟩
  clear hx hy hz hs bx by_ bz
  go_enter Tryd.func10, Tryd.ntmps10
  go_wp2_with fail
  refine HHD.out.mono ?_
  rintro e w1 ⟨rfl, hb1⟩
  have HB1 := hide hb1
  have hB1 := hb1.size
  clear hb1 HHD
  have HO1 : Hid ((w1.alloc (.cells #[] 5)).ownsRow w1.heap.size 5 1 (.slice (some ⟨w1.heap.size, 0, none⟩) 0 0) ([] : List Int).length (([] : List Int).map (Value.int .u8))) := World.ownsRow_made w1 #[] 0 (Nat.le_refl _) (Nat.zero_le _) rfl
  have hal : Below w1.heap.size w1 (w1.alloc (.cells #[] 5)) := (Below.refl _ _).alloc (Nat.le_refl _) _
  have HAL := hide hal
  have hals : w1.heap.size ≤ (w1.alloc (.cells #[] 5)).heap.size := hal.size
  have HB1A := hide (below_on HB1.out hal)
  clear hal
  have e3 : (xs ++ ys ++ zs).length ≤ 2000000 := by simp; omega
  have e2 : (xs ++ ys).length ≤ 2000000 := by simp; omega
  obtain ⟨a1, c1, w2, hr1, ho1, hb2⟩ := run_app8 (w1.alloc (.cells #[] 5)) 22 w1.heap.size _ [] _ xs HO1.out hals (HX.out.below HB1A.out) (by simp; omega)
  rw [List.nil_append] at hr1 ho1
  have HB2 := hide (HAL.out.trans hb2)
  have hs2 : w1.heap.size ≤ w2.heap.size := Nat.le_trans hals hb2.size
  obtain ⟨a2, c2, w3, hr2, ho2, hb3⟩ := run_app8 w2 22 w1.heap.size _ xs _ ys ho1 hs2 (HY.out.below (below_on HB1.out HB2.out)) (by omega)
  have HB3 := hide (HB2.out.trans hb3)
  have hs3 : w1.heap.size ≤ w3.heap.size := Nat.le_trans hs2 hb3.size
  obtain ⟨a3, c3, w4, hr3, ho3, hb4⟩ := run_app8 w3 22 w1.heap.size _ (xs ++ ys) _ zs ho2 hs3 (HZ.out.below (below_on HB1.out HB3.out)) (by omega)
  have HB4 := hide (HB3.out.trans hb4)
  have HO4 := hide ho3
  obtain ⟨n5, hn5⟩ : ∃ n, n = (xs ++ ys).length := ⟨_, rfl⟩
  obtain ⟨n4, hn4⟩ : ∃ n, n = (xs ++ ys ++ zs).length := ⟨_, rfl⟩
  rw [← hn5] at hr2 hr3
  rw [← hn4] at hr3 HO4 e3
  have HR1 := hide hr1; have HR2 := hide hr2; have HR3 := hide hr3
  have HN4 := hide hn4
  clear ho1 ho2 ho3 hb2 hb3 hb4 HO1 hr1 hr2 hr3 hn4 hn5
  go_wp2_with (first
    | (at_builtin; refine wpList_append_run_sl _ rfl _ _ 22 rfl _ _ rfl rfl HR1.out ?_; clear HR1)
    | (at_builtin; refine wpList_append_run_sl _ rfl _ _ 22 rfl _ _ rfl rfl HR2.out ?_; clear HR2)
    | (at_builtin; refine wpList_append_run_sl _ rfl _ _ 22 rfl _ _ rfl rfl HR3.out ?_; clear HR3)
    | fail)
  have HBW := hide (below_on HB1.out HB4.out)
  have HSW := hide (HS.out.below HBW.out)
  rw [HN4.out] at HO4
  have HR4 := hide (RowAt.of_owns HO4.out)
  rw [HN4.out] at e3
  have jxy := crc_join xs ys HBX.out HBY.out
  have jxyz := crc_join (xs ++ ys) zs (fun b hb => (List.mem_append.1 hb).elim (HBX.out b) (HBY.out b)) HBZ.out
  have jyz := crc_join ys zs HBY.out HBZ.out
  have jxyz2 := crc_join xs (ys ++ zs) HBX.out (fun b hb => (List.mem_append.1 hb).elim (HBY.out b) (HBZ.out b))
  rw [← List.append_assoc, List.length_append] at jxyz2
  have lx := crc_lt xs HBX.out
  have ly := crc_lt ys HBY.out
  have lz := crc_lt zs HBZ.out
  have lxy : crc (xs ++ ys) < 4294967296 := crc_lt _ (fun b hb => (List.mem_append.1 hb).elim (HBX.out b) (HBY.out b))
  have lyz : crc (ys ++ zs) < 4294967296 := crc_lt _ (fun b hb => (List.mem_append.1 hb).elim (HBY.out b) (HBZ.out b))
  have HCX := hide (crc_any _ xs w4 (HX.out.below HBW.out) HSW.out HBX.out (by omega))
  have HCY := hide (crc_any _ ys w4 (HY.out.below HBW.out) HSW.out HBY.out (by omega))
  have HCZ := hide (crc_any _ zs w4 (HZ.out.below HBW.out) HSW.out HBZ.out (by omega))
  have HCA := hide (crc_any _ (xs ++ ys ++ zs) w4 HR4.out HSW.out (fun b hb => (List.mem_append.1 hb).elim (fun h => (List.mem_append.1 h).elim (HBX.out b) (HBY.out b)) (HBZ.out b)) (by omega))
  have HJ1 := hide (crcJoin_any (crc xs) (crc ys) ys.length w4 lx ly (by omega))
  have HJ2 := hide (crcJoin_any (crc (xs ++ ys)) (crc zs) zs.length w4 lxy lz (by omega))
  have HJ3 := hide (crcJoin_any (crc ys) (crc zs) zs.length w4 ly lz (by omega))
  have HJ4 := hide (crcJoin_any (crc xs) (crc (ys ++ zs)) (ys.length + zs.length) w4 lx lyz (by omega))
  rw [← jxy] at HJ1
  rw [← jxyz] at HJ2
  rw [← jyz] at HJ3
  rw [← jxyz2] at HJ4
  obtain ⟨X, hX⟩ : ∃ X, X = crc xs := ⟨_, rfl⟩
  obtain ⟨Y, hY⟩ : ∃ X, X = crc ys := ⟨_, rfl⟩
  obtain ⟨Z, hZ⟩ : ∃ X, X = crc zs := ⟨_, rfl⟩
  obtain ⟨XY, hXY⟩ : ∃ X, X = crc (xs ++ ys) := ⟨_, rfl⟩
  obtain ⟨YZ, hYZ⟩ : ∃ X, X = crc (ys ++ zs) := ⟨_, rfl⟩
  obtain ⟨A, hA⟩ : ∃ X, X = crc (xs ++ ys ++ zs) := ⟨_, rfl⟩
  obtain ⟨n1, hn1⟩ : ∃ n, n = xs.length := ⟨_, rfl⟩
  obtain ⟨n2, hn2⟩ : ∃ n, n = ys.length := ⟨_, rfl⟩
  obtain ⟨n3, hn3⟩ : ∃ n, n = zs.length := ⟨_, rfl⟩
  rw [← hX, ← hY, ← hXY, ← hn2] at HJ1
  rw [← hXY, ← hZ, ← hA, ← hn3] at HJ2
  rw [← hY, ← hZ, ← hYZ, ← hn3] at HJ3
  rw [← hX, ← hYZ, ← hA, ← hn2, ← hn3] at HJ4
  rw [← hX, ← hn1] at HCX
  rw [← hY, ← hn2] at HCY
  rw [← hZ, ← hn3] at HCZ
  rw [← hA, ← HN4.out] at HCA
  rw [← hn1, ← hn2, ← hn3] at hbig
  rw [show ((n2 + n3 : Nat) : Int) = (n2 : Int) + (n3 : Int) by omega] at HJ4
  rw [← hn1, ← hn2, ← hn3]
  clear jxy jxyz jyz jxyz2 lx ly lz lxy lyz hX hY hZ hXY hYZ hA hn1 hn2 hn3 HR4 HSW HO4 HB3 HB2 HAL HB1A e2 e3 HX HY HZ HBX HBY HBZ
  refine HCX.out.mono ?_
  rintro e wq ⟨rfl, rfl⟩
  go_wp2_with fail
  refine HCY.out.mono ?_
  rintro e wq ⟨rfl, rfl⟩
  go_wp2_with fail
  refine HJ1.out.mono ?_
  rintro e wq ⟨rfl, rfl⟩
  go_wp2_with fail
  refine HCZ.out.mono ?_
  rintro e wq ⟨rfl, rfl⟩
  go_wp2_with fail
  refine HJ2.out.mono ?_
  rintro e wq ⟨rfl, rfl⟩
  go_wp2_with fail
  refine HCY.out.mono ?_
  rintro e wq ⟨rfl, rfl⟩
  go_wp2_with fail
  refine HCZ.out.mono ?_
  rintro e wq ⟨rfl, rfl⟩
  go_wp2_with fail
  refine HJ3.out.mono ?_
  rintro e wq ⟨rfl, rfl⟩
  go_wp2_with fail
  refine HCX.out.mono ?_
  rintro e wq ⟨rfl, rfl⟩
  go_wp2_with fail
  refine HJ4.out.mono ?_
  rintro e wq ⟨rfl, rfl⟩
  go_wp2_with (go_at_call 16; refine (no_any _ _).mono ?_; rintro e wq ⟨rfl, rfl⟩)
  refine HCA.out.mono ?_
  rintro e wq ⟨rfl, rfl⟩
  go_wp2
  go_ret
  exact ⟨rfl, HBW.out⟩
end Go.Proofs.YtpfpelhhebafeaaDoor
