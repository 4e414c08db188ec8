/- DiceLinear: the walks. -/
import Derived.Test.YtglgflibpgmilaaSkip
namespace Go.Proofs.Ytglgflibpgmilaa
open Go.RowKit Go.Lib

theorem isZero_iff (s : St) : s.isZero = true ↔ s = Leap.zs := by
  constructor
  · intro h
    simp only [St.isZero, Bool.and_eq_true, beq_iff_eq] at h
    exact Leap.St.ext' (by have := h.1; show s.a = 0; omega) (by have := h.2.1; show s.b = 0; omega) (by have := h.2.2.1; show s.c = 0; omega) (by have := h.2.2.2; show s.d = 0; omega)
  · rintro rfl; rfl

/-- Only nothing is turned into nothing. -/
theorem rot_zero (x : Nat) (hx : x < 18446744073709551616) (h : rot x 45 = 0) : x = 0 := by
  apply Nat.eq_of_testBit_eq
  intro i
  rw [Nat.zero_testBit]
  have hb : ∀ j, (rot x 45).testBit j = false := by intro j; rw [h]; exact Nat.zero_testBit j
  unfold rot at hb
  by_cases h19 : i < 19
  · have := hb (45 + i)
    rw [Nat.testBit_or, show (18446744073709551616 : Nat) = 2 ^ 64 from by decide, Nat.testBit_mod_two_pow, ← Nat.shiftLeft_eq, Nat.testBit_shiftLeft] at this
    simp only [Bool.or_eq_false_iff, Bool.and_eq_false_iff, decide_eq_false_iff_not] at this
    rcases this.1 with h1 | h1 | h1
    · omega
    · omega
    · rw [show 45 + i - 45 = i by omega] at h1; exact h1
  · by_cases h64 : i < 64
    · have := hb (i - 19)
      rw [Nat.testBit_or, ← Nat.shiftRight_eq_div_pow, Nat.testBit_shiftRight] at this
      simp only [Bool.or_eq_false_iff] at this
      have h2 := this.2
      rw [show 64 - 45 + (i - 19) = i by omega] at h2
      exact h2
    · exact Nat.testBit_lt_two_pow (Nat.lt_of_lt_of_le hx (by rw [show (18446744073709551616 : Nat) = 2 ^ 64 from by decide]; exact Nat.pow_le_pow_right (by omega) (by omega)))

theorem shl17_zero (b : Nat) (h : b ^^^ (b * 131072 % 18446744073709551616) = 0) (hb : b < 18446744073709551616) : b = 0 := by
  have e : b = b * 131072 % 18446744073709551616 := by
    have h2 : b ^^^ (b ^^^ (b * 131072 % 18446744073709551616)) = b ^^^ 0 := by rw [h]
    rw [← Nat.xor_assoc, Nat.xor_self, Nat.zero_xor, Nat.xor_zero] at h2
    exact h2.symm
  have hk : ∀ k i, i < 17 * k → b.testBit i = false := by
    intro k
    induction k with
    | zero => intro i hi; omega
    | succ k ih =>
      intro i hi
      rw [e, show (131072 : Nat) = 2 ^ 17 from by decide, show (18446744073709551616 : Nat) = 2 ^ 64 from by decide, Nat.testBit_mod_two_pow, ← Nat.shiftLeft_eq, Nat.testBit_shiftLeft]
      by_cases h17 : i < 17
      · simp; omega
      · rw [ih (i - 17) (by omega)]; simp
  apply Nat.eq_of_testBit_eq
  intro i
  rw [Nat.zero_testBit]
  by_cases h64 : i < 68
  · exact hk 4 i (by omega)
  · exact Nat.testBit_lt_two_pow (Nat.lt_of_lt_of_le hb (by rw [show (18446744073709551616 : Nat) = 2 ^ 64 from by decide]; exact Nat.pow_le_pow_right (by omega) (by omega)))

theorem xor_zero_eq {x y : Nat} (h : x ^^^ y = 0) : x = y := by
  have h2 : x ^^^ (x ^^^ y) = x ^^^ 0 := by rw [h]
  rw [← Nat.xor_assoc, Nat.xor_self, Nat.zero_xor, Nat.xor_zero] at h2
  exact h2.symm

theorem next_inj {s : St} (h : s.Ok) (hz : stNext s = Leap.zs) : s = Leap.zs := by
  have ha : s.a ^^^ (s.d ^^^ s.b) = 0 := congrArg St.a hz
  have hb : s.b ^^^ (s.c ^^^ s.a) = 0 := congrArg St.b hz
  have hc : (s.c ^^^ s.a) ^^^ (s.b * 131072 % 18446744073709551616) = 0 := congrArg St.c hz
  have hd : rot (s.d ^^^ s.b) 45 = 0 := congrArg St.d hz
  have h1 := rot_zero _ (xor_lt h.d h.b) hd
  rw [h1, Nat.xor_zero] at ha
  have h2 := xor_zero_eq hb
  rw [← h2] at hc
  have h3 := shl17_zero _ hc h.b
  have h4 := xor_zero_eq h1
  rw [h3] at h4 h2
  rw [ha, Nat.xor_zero] at h2
  exact Leap.St.ext' ha h3 h2.symm h4

theorem it_inj {s : St} (h : s.Ok) : ∀ n, Leap.it n s = Leap.zs → s = Leap.zs
  | 0, hz => hz
  | n + 1, hz => it_inj h n (next_inj (Leap.it_ok h n) hz)

theorem it_nonzero {s : St} (h : s.Ok) (hz : s.isZero = false) (n : Nat) : (Leap.it n s).isZero = false := by
  cases e : (Leap.it n s).isZero with
  | false => rfl
  | true =>
    have := it_inj h n ((isZero_iff _).1 e)
    rw [(isZero_iff s).2 this] at hz
    cases hz

/-- A world that has grown, with what it has grown of. -/
structure GW (w0 : World) where
  world : World
  bel : Below w0.heap.size w0 world

theorem lin_blocks (w w6 w7 : World) (a b X : St) (hT : Two w w6 a b) (hb : Below (w6.alloc (.cells (stCells X) 41)).heap.size (w6.alloc (.cells (stCells X) 41)) w7) :
    St4 w7 w.heap.size a ∧ St4 w7 (w.heap.size + 1) b ∧ St4 w7 w6.heap.size X ∧ w6.heap.size < w7.heap.size ∧ Below w.heap.size w w7 := by
  have hsz : (w6.alloc (.cells (stCells X) 41)).heap.size = w6.heap.size + 1 := by simp
  have hal : Below w6.heap.size w6 (w6.alloc (.cells (stCells X) 41)) := (Below.refl _ _).alloc (Nat.le_refl _) _
  have h6 := hT.below hal
  have h7 := h6.below hb
  refine ⟨h7.c, h7.o, ?_, by have := hb.size; omega, h7.l⟩
  exact St4.below (w := w6.alloc (.cells (stCells X) 41)) (heap_new w6 _) hb (by omega)

theorem wp_region_gw {P : Program} {id : Nat} {Q : Exit → Act → World → Prop} {a : Act} {w : World} {l : List Oper} (hm : P.follows .mixedOrders = true) (hB : Region.lexB .any l.toArray = true)
    (h : wpQuiet P l.toArray (fun w' => ∃ x : GW w, w' = x.world) (fun a' => ∀ w', (∃ x : GW w, w' = x.world) → Q .normal a' w') l a) : (Code.region id l.toArray true).wp P Q a w :=
  wp_region_quiet (C := fun w' => ∃ x : GW w, w' = x.world) hm hB ⟨⟨w.drew, (Below.refl _ _).drew⟩, rfl⟩ (by simpa using h)

theorem GW.cells {w : World} {B : Nat} {s : St} (h : St4 w B s) :
    (∀ x : GW w, x.world.cell? ⟨B, 0, none⟩ = some (.int .u64 s.a)) ∧ (∀ x : GW w, x.world.cell? ⟨B, 1, none⟩ = some (.int .u64 s.b)) ∧
    (∀ x : GW w, x.world.cell? ⟨B, 2, none⟩ = some (.int .u64 s.c)) ∧ (∀ x : GW w, x.world.cell? ⟨B, 3, none⟩ = some (.int .u64 s.d)) :=
  ⟨fun x => (h.below x.bel h.lt).cell 0 (by omega), fun x => (h.below x.bel h.lt).cell 1 (by omega), fun x => (h.below x.bel h.lt).cell 2 (by omega), fun x => (h.below x.bel h.lt).cell 3 (by omega)⟩

theorem lin_all (w : World) (C : Nat) (w7 : World) (a b X Y : St) (h : St4 w7 w.heap.size a ∧ St4 w7 (w.heap.size + 1) b ∧ St4 w7 C X ∧ C < w7.heap.size ∧ Below w.heap.size w w7) :
    ((∀ x : GW (w7.alloc (.cells #[.int .u64 Y.a, .int .u64 Y.b, .int .u64 Y.c, .int .u64 Y.d] 41)), x.world.cell? ⟨w.heap.size, 0, none⟩ = some (.int .u64 a.a)) ∧ (∀ x : GW (w7.alloc (.cells #[.int .u64 Y.a, .int .u64 Y.b, .int .u64 Y.c, .int .u64 Y.d] 41)), x.world.cell? ⟨w.heap.size, 1, none⟩ = some (.int .u64 a.b)) ∧
      (∀ x : GW (w7.alloc (.cells #[.int .u64 Y.a, .int .u64 Y.b, .int .u64 Y.c, .int .u64 Y.d] 41)), x.world.cell? ⟨w.heap.size, 2, none⟩ = some (.int .u64 a.c)) ∧ (∀ x : GW (w7.alloc (.cells #[.int .u64 Y.a, .int .u64 Y.b, .int .u64 Y.c, .int .u64 Y.d] 41)), x.world.cell? ⟨w.heap.size, 3, none⟩ = some (.int .u64 a.d))) ∧
    ((∀ x : GW (w7.alloc (.cells #[.int .u64 Y.a, .int .u64 Y.b, .int .u64 Y.c, .int .u64 Y.d] 41)), x.world.cell? ⟨w.heap.size + 1, 0, none⟩ = some (.int .u64 b.a)) ∧ (∀ x : GW (w7.alloc (.cells #[.int .u64 Y.a, .int .u64 Y.b, .int .u64 Y.c, .int .u64 Y.d] 41)), x.world.cell? ⟨w.heap.size + 1, 1, none⟩ = some (.int .u64 b.b)) ∧
      (∀ x : GW (w7.alloc (.cells #[.int .u64 Y.a, .int .u64 Y.b, .int .u64 Y.c, .int .u64 Y.d] 41)), x.world.cell? ⟨w.heap.size + 1, 2, none⟩ = some (.int .u64 b.c)) ∧ (∀ x : GW (w7.alloc (.cells #[.int .u64 Y.a, .int .u64 Y.b, .int .u64 Y.c, .int .u64 Y.d] 41)), x.world.cell? ⟨w.heap.size + 1, 3, none⟩ = some (.int .u64 b.d))) ∧
    ((∀ x : GW (w7.alloc (.cells #[.int .u64 Y.a, .int .u64 Y.b, .int .u64 Y.c, .int .u64 Y.d] 41)), x.world.cell? ⟨C, 0, none⟩ = some (.int .u64 X.a)) ∧ (∀ x : GW (w7.alloc (.cells #[.int .u64 Y.a, .int .u64 Y.b, .int .u64 Y.c, .int .u64 Y.d] 41)), x.world.cell? ⟨C, 1, none⟩ = some (.int .u64 X.b)) ∧
      (∀ x : GW (w7.alloc (.cells #[.int .u64 Y.a, .int .u64 Y.b, .int .u64 Y.c, .int .u64 Y.d] 41)), x.world.cell? ⟨C, 2, none⟩ = some (.int .u64 X.c)) ∧ (∀ x : GW (w7.alloc (.cells #[.int .u64 Y.a, .int .u64 Y.b, .int .u64 Y.c, .int .u64 Y.d] 41)), x.world.cell? ⟨C, 3, none⟩ = some (.int .u64 X.d))) ∧
    ((∀ x : GW (w7.alloc (.cells #[.int .u64 Y.a, .int .u64 Y.b, .int .u64 Y.c, .int .u64 Y.d] 41)), x.world.cell? ⟨w7.heap.size, 0, none⟩ = some (.int .u64 Y.a)) ∧ (∀ x : GW (w7.alloc (.cells #[.int .u64 Y.a, .int .u64 Y.b, .int .u64 Y.c, .int .u64 Y.d] 41)), x.world.cell? ⟨w7.heap.size, 1, none⟩ = some (.int .u64 Y.b)) ∧
      (∀ x : GW (w7.alloc (.cells #[.int .u64 Y.a, .int .u64 Y.b, .int .u64 Y.c, .int .u64 Y.d] 41)), x.world.cell? ⟨w7.heap.size, 2, none⟩ = some (.int .u64 Y.c)) ∧ (∀ x : GW (w7.alloc (.cells #[.int .u64 Y.a, .int .u64 Y.b, .int .u64 Y.c, .int .u64 Y.d] 41)), x.world.cell? ⟨w7.heap.size, 3, none⟩ = some (.int .u64 Y.d))) ∧
    Below w.heap.size w (w7.alloc (.cells #[.int .u64 Y.a, .int .u64 Y.b, .int .u64 Y.c, .int .u64 Y.d] 41)) := by
  have hal : Below w7.heap.size w7 (w7.alloc (.cells #[.int .u64 Y.a, .int .u64 Y.b, .int .u64 Y.c, .int .u64 Y.d] 41)) := (Below.refl _ _).alloc (Nat.le_refl _) _
  exact ⟨GW.cells (h.1.below hal h.1.lt), GW.cells (h.2.1.below hal h.2.1.lt), GW.cells (h.2.2.1.below hal h.2.2.1.lt), GW.cells (heap_new w7 _), h.2.2.2.2.trans (hal.mono h.2.2.2.2.size)⟩

theorem gw_of {w8 : World} {x : GW w8} {f : FuncId} {args : Array Value} {v : Value} (h : Calls Try.prog f args x.world fun e w' => e = .returned v ∧ Below x.world.heap.size x.world w') :
    Calls Try.prog f args x.world fun e w'' => e = .returned v ∧ ∃ y : GW w8, w'' = y.world :=
  h.mono fun _ w' ⟨he, hb⟩ => ⟨he, ⟨w', x.bel.trans (hb.mono x.bel.size)⟩, rfl⟩
theorem gw_zero {w8 : World} (s : St) (hz : s.isZero = false) (x : GW w8) : Calls Try.prog 33 #[stAgg s] x.world fun e w'' => e = .returned (.bool false) ∧ ∃ y : GW w8, w'' = y.world := by
  have h := zero_any s x.world
  rw [hz] at h
  exact gw_of h
set_option maxRecDepth 100000 in
set_option maxHeartbeats 2000000 in
theorem linear_yes (a b : St) (n : Nat) (w : World) (ha : a.Ok) (hb : b.Ok) (hn : n < 18446744073709551616) (za : a.isZero = false) (zb : b.isZero = false) (zx : (Leap.xs a b).isZero = false) :
    Calls Try.prog 7 #[stAgg a, stAgg b, .int .u64 n] w fun e w' => e = .returned (.bool true) ∧ Below w.heap.size w w' := by
  have zx1 := it_nonzero ha za n
  have zx2 := it_nonzero hb zb n
  have hlin := Leap.it_xor ha hb n
  have ox := Leap.it_ok ha n
  have oy := Leap.it_ok hb n
  obtain ⟨X, hX⟩ : ∃ X, Leap.it n a = X := ⟨_, rfl⟩
  obtain ⟨Y, hY⟩ : ∃ Y, Leap.it n b = Y := ⟨_, rfl⟩
  rw [hX] at zx1 hlin ox
  rw [hY] at zx2 hlin oy
  have HX := hide hX; have HY := hide hY; have HLIN := hide hlin
  have HZ := hide (And.intro za (And.intro zb (And.intro zx (And.intro zx1 zx2))))
  clear hX hY hlin za zb zx zx1 zx2
  have q := eql_arr
  unfold stAgg
  go_enter Try.func7, Try.ntmps7
  go_wp2_with fail
  refine (live_any _).mono ?_
  rintro e w1 ⟨rfl, hb1⟩
  have hT := (Two.new w a b).below hb1
  have HT := hide hT
  have a0 := hT.c.cell 0 (by omega); have a1 := hT.c.cell 1 (by omega); have a2 := hT.c.cell 2 (by omega); have a3 := hT.c.cell 3 (by omega)
  simp only [Leap.word] at a0 a1 a2 a3
  clear hT hb1
  go_wp2_with fail
  refine (zero_any a _).mono ?_
  rw [HZ.out.1]
  rintro e w2 ⟨rfl, hb2⟩
  have hT2 := HT.out.below hb2
  have HT2 := hide hT2
  have b0 := hT2.o.cell 0 (by omega); have b1 := hT2.o.cell 1 (by omega); have b2 := hT2.o.cell 2 (by omega); have b3 := hT2.o.cell 3 (by omega)
  simp only [Leap.word] at b0 b1 b2 b3
  clear hT2 hb2 HT a0 a1 a2 a3
  go_wp2_with fail
  refine (zero_any b _).mono ?_
  rw [HZ.out.2.1]
  rintro e w3 ⟨rfl, hb3⟩
  have hT3 := HT2.out.below hb3
  have HT3 := hide hT3
  have a0 := hT3.c.cell 0 (by omega); have a1 := hT3.c.cell 1 (by omega); have a2 := hT3.c.cell 2 (by omega); have a3 := hT3.c.cell 3 (by omega)
  have c0 := hT3.o.cell 0 (by omega); have c1 := hT3.o.cell 1 (by omega); have c2 := hT3.o.cell 2 (by omega); have c3 := hT3.o.cell 3 (by omega)
  simp only [Leap.word] at a0 a1 a2 a3 c0 c1 c2 c3
  clear hT3 hb3 HT2 b0 b1 b2 b3
  go_wp2_with fail
  refine (lawXor_any a b _ ha hb).mono ?_
  rintro e w4 ⟨rfl, hb4⟩
  have HT4 := hide (HT3.out.below hb4)
  clear hb4 HT3 a0 a1 a2 a3 c0 c1 c2 c3
  go_wp2_with fail
  refine (zero_any (Leap.xs a b) _).mono ?_
  rw [HZ.out.2.2.1]
  rintro e w5 ⟨rfl, hb5⟩
  have hT5 := HT4.out.below hb5
  have HT5 := hide hT5
  have a0 := hT5.c.cell 0 (by omega); have a1 := hT5.c.cell 1 (by omega); have a2 := hT5.c.cell 2 (by omega); have a3 := hT5.c.cell 3 (by omega)
  simp only [Leap.word] at a0 a1 a2 a3
  clear hT5 hb5 HT4
  go_wp2_with fail
  have hbe := lawBehind_any a n w5 ha HZ.out.1 hn
  rw [HX.out] at hbe
  refine hbe.mono ?_
  clear hbe
  rintro e w6 ⟨rfl, hb6⟩
  have hT6 := HT5.out.below hb6
  have b0 := hT6.o.cell 0 (by omega); have b1 := hT6.o.cell 1 (by omega); have b2 := hT6.o.cell 2 (by omega); have b3 := hT6.o.cell 3 (by omega)
  simp only [Leap.word] at b0 b1 b2 b3
  have HT6 := hide hT6
  have hs6 : w.heap.size + 1 < w6.heap.size := hT6.o.lt
  clear hT6 hb6 HT5 a0 a1 a2 a3
  unfold stAgg
  go_wp2_with fail
  have hbe := lawBehind_any b n (w6.alloc (.cells (stCells X) 41)) hb HZ.out.2.1 hn
  rw [HY.out] at hbe
  refine hbe.mono ?_
  clear hbe
  rintro e w7 ⟨rfl, hb7⟩
  have HF := hide (lin_blocks w w6 w7 a b X HT6.out hb7)
  clear hb7 b0 b1 b2 b3 HT6
  unfold stAgg
  go_wp2_with fail
  have hG := lin_all w w6.heap.size w7 a b X Y HF.out
  have HG := hide hG.2.2.2.2
  obtain ⟨⟨a0, a1, a2, a3⟩, ⟨b0, b1, b2, b3⟩, ⟨x0, x1, x2, x3⟩, ⟨y0, y1, y2, y3⟩, _⟩ := hG
  clear HF
  generalize w7.alloc (.cells #[.int .u64 Y.a, .int .u64 Y.b, .int .u64 Y.c, .int .u64 Y.d] 41) = w8 at a0 a1 a2 a3 b0 b1 b2 b3 x0 x1 x2 x3 y0 y1 y2 y3 HG ⊢
  have z1 := HZ.out.2.2.2.1
  have z2 := HZ.out.2.2.2.2
  have hbe : ∀ W, Calls Try.prog 35 #[stAgg (Leap.xs a b), .int .u64 n] W fun e w' => e = .returned (stAgg (Leap.xs X Y)) ∧ Below W.heap.size W w' := by
    intro W
    have h := lawBehind_any (Leap.xs a b) n W (Leap.xs_ok ha hb) HZ.out.2.2.1 hn
    rw [HLIN.out] at h
    exact h
  have HBE := hide hbe
  clear hbe
  refine wp_region_gw (by kernel_rfl) (by kernel_rfl) ?_
  repeat (go_big_quiet_step (first
    | (go_at_call_of 33 (Value.int .u64 (X.a : Int)); exact gw_zero X z1 _)
    | (go_at_call_of 33 (Value.int .u64 (Y.a : Int)); exact gw_zero Y z2 _)
    | (go_at_call_of 34 (Value.int .u64 (a.a : Int)); exact gw_of (lawXor_any a b _ ha hb))
    | (go_at_call 35; exact gw_of (HBE.out _))
    | (go_at_call_of 34 (Value.int .u64 (X.a : Int)); exact gw_of (lawXor_any X Y _ ox oy))
    | rfl))
  unfold stAgg
  repeat (go_big_quiet_step (rfl))
  refine wpQuiet_nil ?_
  intro _ hw'
  obtain ⟨x, hw''⟩ := hw'
  subst hw''
  go_wp2_with fail
  go_ret
  exact ⟨rfl, HG.out.trans (x.bel.mono HG.out.size)⟩
set_option maxRecDepth 100000 in
set_option maxHeartbeats 2000000 in
theorem linear_a (a b : St) (n : Nat) (w : World) (za : a.isZero = true) :
    Calls Try.prog 7 #[stAgg a, stAgg b, .int .u64 n] w fun e w' => e = .returned (.bool true) ∧ Below w.heap.size w w' := by
  have HZ := hide za
  clear za
  unfold stAgg
  go_enter Try.func7, Try.ntmps7
  go_wp2_with fail
  refine (live_any _).mono ?_
  rintro e w1 ⟨rfl, hb1⟩
  have hT := (Two.new w a b).below hb1
  have HT := hide hT
  have a0 := hT.c.cell 0 (by omega); have a1 := hT.c.cell 1 (by omega); have a2 := hT.c.cell 2 (by omega); have a3 := hT.c.cell 3 (by omega)
  simp only [Leap.word] at a0 a1 a2 a3
  clear hT hb1
  go_wp2_with fail
  refine (zero_any a _).mono ?_
  rw [HZ.out]
  rintro e w2 ⟨rfl, hb2⟩
  have HT2 := hide (HT.out.below hb2)
  clear hb2 HT a0 a1 a2 a3
  go_wp2_with fail
  go_ret
  exact ⟨rfl, HT2.out.l⟩

set_option maxRecDepth 100000 in
set_option maxHeartbeats 2000000 in
theorem linear_b (a b : St) (n : Nat) (w : World) (za : a.isZero = false) (zb : b.isZero = true) :
    Calls Try.prog 7 #[stAgg a, stAgg b, .int .u64 n] w fun e w' => e = .returned (.bool true) ∧ Below w.heap.size w w' := by
  have HZ := hide (And.intro za zb)
  clear za zb
  unfold stAgg
  go_enter Try.func7, Try.ntmps7
  go_wp2_with fail
  refine (live_any _).mono ?_
  rintro e w1 ⟨rfl, hb1⟩
  have hT := (Two.new w a b).below hb1
  have HT := hide hT
  have a0 := hT.c.cell 0 (by omega); have a1 := hT.c.cell 1 (by omega); have a2 := hT.c.cell 2 (by omega); have a3 := hT.c.cell 3 (by omega)
  simp only [Leap.word] at a0 a1 a2 a3
  clear hT hb1
  go_wp2_with fail
  refine (zero_any a _).mono ?_
  rw [HZ.out.1]
  rintro e w2 ⟨rfl, hb2⟩
  have hT2 := HT.out.below hb2
  have HT2 := hide hT2
  have b0 := hT2.o.cell 0 (by omega); have b1 := hT2.o.cell 1 (by omega); have b2 := hT2.o.cell 2 (by omega); have b3 := hT2.o.cell 3 (by omega)
  simp only [Leap.word] at b0 b1 b2 b3
  clear hT2 hb2 HT a0 a1 a2 a3
  go_wp2_with fail
  refine (zero_any b _).mono ?_
  rw [HZ.out.2]
  rintro e w3 ⟨rfl, hb3⟩
  have HT3 := hide (HT2.out.below hb3)
  clear hb3 HT2 b0 b1 b2 b3
  go_wp2_with fail
  go_ret
  exact ⟨rfl, HT3.out.l⟩

set_option maxRecDepth 100000 in
set_option maxHeartbeats 2000000 in
theorem linear_x (a b : St) (n : Nat) (w : World) (ha : a.Ok) (hb : b.Ok) (za : a.isZero = false) (zb : b.isZero = false) (zx : (Leap.xs a b).isZero = true) :
    Calls Try.prog 7 #[stAgg a, stAgg b, .int .u64 n] w fun e w' => e = .returned (.bool true) ∧ Below w.heap.size w w' := by
  have HZ := hide (And.intro za (And.intro zb zx))
  clear za zb zx
  unfold stAgg
  go_enter Try.func7, Try.ntmps7
  go_wp2_with fail
  refine (live_any _).mono ?_
  rintro e w1 ⟨rfl, hb1⟩
  have hT := (Two.new w a b).below hb1
  have HT := hide hT
  have a0 := hT.c.cell 0 (by omega); have a1 := hT.c.cell 1 (by omega); have a2 := hT.c.cell 2 (by omega); have a3 := hT.c.cell 3 (by omega)
  simp only [Leap.word] at a0 a1 a2 a3
  clear hT hb1
  go_wp2_with fail
  refine (zero_any a _).mono ?_
  rw [HZ.out.1]
  rintro e w2 ⟨rfl, hb2⟩
  have hT2 := HT.out.below hb2
  have HT2 := hide hT2
  have b0 := hT2.o.cell 0 (by omega); have b1 := hT2.o.cell 1 (by omega); have b2 := hT2.o.cell 2 (by omega); have b3 := hT2.o.cell 3 (by omega)
  simp only [Leap.word] at b0 b1 b2 b3
  clear hT2 hb2 HT a0 a1 a2 a3
  go_wp2_with fail
  refine (zero_any b _).mono ?_
  rw [HZ.out.2.1]
  rintro e w3 ⟨rfl, hb3⟩
  have hT3 := HT2.out.below hb3
  have HT3 := hide hT3
  have a0 := hT3.c.cell 0 (by omega); have a1 := hT3.c.cell 1 (by omega); have a2 := hT3.c.cell 2 (by omega); have a3 := hT3.c.cell 3 (by omega)
  have c0 := hT3.o.cell 0 (by omega); have c1 := hT3.o.cell 1 (by omega); have c2 := hT3.o.cell 2 (by omega); have c3 := hT3.o.cell 3 (by omega)
  simp only [Leap.word] at a0 a1 a2 a3 c0 c1 c2 c3
  clear hT3 hb3 HT2 b0 b1 b2 b3
  go_wp2_with fail
  refine (lawXor_any a b _ ha hb).mono ?_
  rintro e w4 ⟨rfl, hb4⟩
  have HT4 := hide (HT3.out.below hb4)
  clear hb4 HT3 a0 a1 a2 a3 c0 c1 c2 c3
  go_wp2_with fail
  refine (zero_any (Leap.xs a b) _).mono ?_
  rw [HZ.out.2.2]
  rintro e w5 ⟨rfl, hb5⟩
  have HT5 := hide (HT4.out.below hb5)
  clear hb5 HT4
  go_wp2_with fail
  go_ret
  exact ⟨rfl, HT5.out.l⟩

theorem linear_all (a b : St) (n : Nat) (w : World) (ha : a.Ok) (hb : b.Ok) (hn : n < 18446744073709551616) :
    Calls Try.prog 7 #[stAgg a, stAgg b, .int .u64 n] w fun e w' => e = .returned (.bool true) ∧ Below w.heap.size w w' := by
  cases za : a.isZero
  · cases zb : b.isZero
    · cases zx : (Leap.xs a b).isZero
      · exact linear_yes a b n w ha hb hn za zb zx
      · exact linear_x a b n w ha hb za zb zx
    · exact linear_b a b n w za zb
  · exact linear_a a b n w za
end Go.Proofs.Ytglgflibpgmilaa
