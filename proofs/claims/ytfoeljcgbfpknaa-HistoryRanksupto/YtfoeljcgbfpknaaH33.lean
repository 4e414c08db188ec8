/- HistoryRanks. -/
import Derived.Test.YtfoeljcgbfpknaaH32
namespace Go.Proofs.Ytfoeljcgbfpknaa
open Go.RowKit Go.Lib
set_option linter.unusedVariables false
set_option linter.unusedSimpArgs false
theorem RaA.shape {l : List Sp} {o : List Int} {V : Array Value} {r : Int} (h : RaA l o V r) : ∃ a b c d e, V = #[.int .i64 a, .int .i64 b, .int .i64 c, .float .f64 d, .float .f64 e] ∧ NoN d ∧ NoN e := by
  rcases h with ⟨_, _, rfl⟩ | ⟨_, _, rfl, _⟩ | ⟨h1, h2, rfl, _⟩
  · exact ⟨0, 0, 0, 0, 0, rfl, ⟨_, zero_fin⟩, ⟨_, zero_fin⟩⟩
  · exact ⟨0, 0, 0, 0, 0, rfl, ⟨_, zero_fin⟩, ⟨_, zero_fin⟩⟩
  · exact rkV_shape (rks_ok (Nat.le_trans (lsd_few h2.1) (fi_few h1)))
theorem Try.fields36 : Try.prog.underlying 36 = some (.struct (Try.prog.fieldsOf 36)) := by kernel_rfl
theorem Try.held36 : Try.prog.stoodInHeld 36 = false := by kernel_rfl
theorem Try.list36 : (Try.prog.fieldsOf 36).toList = [{ name := "Takes", type := 3, offset := 0, embedded := false, tag := "", pkgPath := "", byteOffset := 0 }, { name := "Worst", type := 3, offset := 1, embedded := false, tag := "", pkgPath := "", byteOffset := 8 }, { name := "Total", type := 3, offset := 2, embedded := false, tag := "", pkgPath := "", byteOffset := 16 }, { name := "Mean", type := 34, offset := 3, embedded := false, tag := "", pkgPath := "", byteOffset := 24 }, { name := "Var", type := 34, offset := 4, embedded := false, tag := "", pkgPath := "", byteOffset := 32 }] := by kernel_rfl
theorem part_f (l : Array Value) (i : Nat) (x : Value) (w : World) (h : l[i]? = some x) : (part 34 l i).run Try.prog w = .ok x w := by
  simp [part, Try.sizeOf34, Try.isAgg34, h]
theorem equal_f (d : Nat) (x : Nat) (h : NoN x) (w : World) : (Op.equalIn (d + 1) 34 (.float .f64 x) (.float .f64 x)).run Try.prog w = .ok true w := by
  have ho : FloatKind.f64.format.order x x = some .eq := order_self h
  simp [Op.equalIn, run_underlying Try.underlying34, Op.floatEq, ho]
theorem eql_rank (a b c : Int) (d e : Nat) (hd : NoN d) (he : NoN e) (w : World) :
    (binOp .eql 36 (.agg #[.int .i64 a, .int .i64 b, .int .i64 c, .float .f64 d, .float .f64 e]) (.agg #[.int .i64 a, .int .i64 b, .int .i64 c, .float .f64 d, .float .f64 e])).run Try.prog w = .ok (.bool true) w := by
  have h : (Op.equalIn 10000 36 (.agg #[.int .i64 a, .int .i64 b, .int .i64 c, .float .f64 d, .float .f64 e]) (.agg #[.int .i64 a, .int .i64 b, .int .i64 c, .float .f64 d, .float .f64 e])).run Try.prog w
      = .ok (a == a && (b == b && (c == c && (true && (true && true))))) w := by
    rw [show (10000 : Nat) = 9998 + 1 + 1 from rfl, run_equalIn_struct w (9998 + 1) 36 _ _ Try.fields36 Try.held36, Try.list36]
    refine field_int (by decide) Try.underlying3 (part3 _ _ _ _ rfl) (part3 _ _ _ _ rfl) ?_
    refine field_int (by decide) Try.underlying3 (part3 _ _ _ _ rfl) (part3 _ _ _ _ rfl) ?_
    refine field_int (by decide) Try.underlying3 (part3 _ _ _ _ rfl) (part3 _ _ _ _ rfl) ?_
    refine field_any (by decide) (part_f _ _ _ _ rfl) (part_f _ _ _ _ rfl) (equal_f _ _ hd _) ?_
    refine field_any (by decide) (part_f _ _ _ _ rfl) (part_f _ _ _ _ rfl) (equal_f _ _ he _) ?_
    simp [Op.eqFields]
  rw [run_eql_struct, h, Result.andThen_ok]
  simp
set_option maxRecDepth 100000 in
set_option maxHeartbeats 4000000 in
theorem ranks_law (v vo : Value) (l : List Sp) (o : List Int) (w : World) (h : RAt Sp.arr 7 w v l) (ho : RowAt .i64 w vo o) (ht : Tok l) (hw : Wok l) (hl : l.length ≤ 1759218604440) (hol : o.length ≤ 17592186044400) : Calls Try.prog 4 #[v, vo] w fun x w' => x = .returned (.bool true) ∧ Below w.heap.size w w' := by
  have hsf := stf
  have HR := hide (refRanks_any v vo l o w h ho hl)
  have HS := hide (fun W (hb : Below w.heap.size w W) => spans_any v l W (h.below hb) (by omega))
  have HI := hide (fun W (hb : Below w.heap.size w W) => ints_any vo o W (ho.below hb).iat hol)
  have HSK := hide (fun W fr g c (hb : Below w.heap.size w W) hm => spansKept_any v l fr g c W (h.below hb) hm (by omega))
  have HIK := hide (fun W fr g c (hb : Below w.heap.size w W) hm => intsKept_any vo o fr g c W (ho.below hb).iat hm hol)
  have HF := hide (fun W v2 vo2 (h2 : RAt Sp.arr 7 W v2 l) (ho2 : RowAt .i64 W vo2 o) => ranks_any v2 vo2 l o W h2 ho2 ht hw hl)
  obtain ⟨ao, cap, rfl, _, _⟩ := h.shape
  obtain ⟨bo, bc, rfl⟩ := ho.shape
  clear h ho hl ht hw hol
  go_enter Try.func4, Try.ntmps4
  go_wp2_with fail
  refine HR.out.mono ?_
  rintro e w1 ⟨hb1, V, r, rfl, hfi⟩
  obtain ⟨c0, c1, c2, c3, c4, hV, hn3, hn4⟩ := hfi.shape
  subst hV
  have HEQ := hide (fun W => eql_rank c0 c1 c2 c3 c4 hn3 hn4 W)
  obtain ⟨X, hX⟩ : ∃ X, X = w1.alloc (.cells #[.int .i64 c0, .int .i64 c1, .int .i64 c2, .float .f64 c3, .float .f64 c4] 36) := ⟨_, rfl⟩
  have HBX : Hid (Below w1.heap.size w1 X) := by rw [hX]; exact below_alloc (Below.refl _ _) _
  have HQX : Hid (X.heap[w1.heap.size]? = some (.cells #[.int .i64 c0, .int .i64 c1, .int .i64 c2, .float .f64 c3, .float .f64 c4] 36 (0, 0))) := by rw [hX]; exact heap_new _ _
  have HB1 := hide (below_on hb1 HBX.out)
  have HFI := hide hfi
  have HS2 := hide (HS.out X HB1.out)
  clear hb1 hfi HR HS HBX hn3 hn4
  go_upto_region 2 with fail
  rw [← hX]
  clear hX
  generalize w1.heap.size = G at HQX ⊢
  go_wp2_with fail
  refine HS2.out.mono ?_
  rintro e w2 ⟨g2, k2, rfl, hm2, hb2⟩
  have HM2 := hide hm2
  have HB2 := hide (below_on HB1.out hb2)
  have HI2 := hide (HI.out w2 HB2.out)
  replace HQX := hide ((hb2.block _ (lt_of_heap HQX.out)).trans HQX.out)
  clear hm2 hb2 HS2 HI
  go_wp2_with fail
  refine HI2.out.mono ?_
  rintro e w3 ⟨g3, k3, rfl, hm3, hb3⟩
  have HM3 := hide hm3
  have HB3 := hide (below_on HB2.out hb3)
  replace HM2 := hide (HM2.out.below hb3)
  replace HQX := hide ((hb3.block _ (lt_of_heap HQX.out)).trans HQX.out)
  have HF2 := hide (HF.out w3 _ _ (HM2.out.rat Sp.size) (iat_row (HM3.out.rat iA_size) (fun e => by cases e)))
  clear hm3 hb3 HI2 HF
  go_wp2_with fail
  refine HF2.out.mono ?_
  rintro e w4 ⟨hb4, V', r', rfl, hfi'⟩
  obtain ⟨e1, rfl⟩ := HFI.out.one hfi'
  subst e1
  obtain ⟨Y, hY⟩ : ∃ Y, Y = w4.alloc (.cells #[.int .i64 c0, .int .i64 c1, .int .i64 c2, .float .f64 c3, .float .f64 c4] 36) := ⟨_, rfl⟩
  have HBY : Hid (Below w4.heap.size w4 Y) := by rw [hY]; exact below_alloc (Below.refl _ _) _
  have HQY : Hid (Y.heap[w4.heap.size]? = some (.cells #[.int .i64 c0, .int .i64 c1, .int .i64 c2, .float .f64 c3, .float .f64 c4] 36 (0, 0))) := by rw [hY]; exact heap_new _ _
  have HB4 := hide (below_on (below_on HB3.out hb4) HBY.out)
  replace HM2 := hide ((HM2.out.below hb4).below HBY.out)
  replace HM3 := hide ((HM3.out.below hb4).below HBY.out)
  replace HQX := hide ((HBY.out.block _ (lt_of_heap ((hb4.block _ (lt_of_heap HQX.out)).trans HQX.out))).trans ((hb4.block _ (lt_of_heap HQX.out)).trans HQX.out))
  have HSK2 := hide (HSK.out Y _ g2 k2 HB4.out HM2.out)
  clear hb4 hfi' HFI HF2 HSK HBY
  go_upto_region 5 with fail
  rw [← hY]
  clear hY
  generalize w4.heap.size = G2 at HQY ⊢
  have x0 := cell_of HQX.out (i := 0) rfl
  have x1 := cell_of HQX.out (i := 1) rfl
  have x2 := cell_of HQX.out (i := 2) rfl
  have x3 := cell_of HQX.out (i := 3) rfl
  have x4 := cell_of HQX.out (i := 4) rfl
  have y0 := cell_of HQY.out (i := 0) rfl
  have y1 := cell_of HQY.out (i := 1) rfl
  have y2 := cell_of HQY.out (i := 2) rfl
  have y3 := cell_of HQY.out (i := 3) rfl
  have y4 := cell_of HQY.out (i := 4) rfl
  have heq := HEQ.out
  go_wp2_with fail
  refine HSK2.out.mono ?_
  rintro e w5 ⟨rfl, hb5⟩
  have HB5 := hide (below_on HB4.out hb5)
  replace HM3 := hide (HM3.out.below hb5)
  have HIK2 := hide (HIK.out w5 _ g3 k3 HB5.out HM3.out)
  clear hb5 HSK2 HIK x0 x1 x2 x3 x4 y0 y1 y2 y3 y4 heq
  go_wp2_with fail
  refine HIK2.out.mono ?_
  rintro e w6 ⟨rfl, hb6⟩
  have HB6 := hide (below_on HB5.out hb6)
  clear hb6 HIK2
  go_wp2_with fail
  go_ret
  exact ⟨rfl, HB6.out⟩
end Go.Proofs.Ytfoeljcgbfpknaa
