/- Show, plainly; the line of an event. -/
import Derived.Test.YtedebahkcgdekaaDoorBd
import Derived.Laws.Concat
namespace Go.Proofs.YtedebahkcgdekaaDoor
open Go.Shelf Go.RowKit Go.Sort Go.Lib
set_option linter.unusedVariables false
set_option linter.unusedSimpArgs false
def bs (l : List UInt8) : ByteArray := ⟨l.toArray⟩
theorem bs_app (a b : List UInt8) : bs a ++ bs b = bs (a ++ b) := by
  unfold bs
  rw [ByteArray.mk_append_mk]
theorem bs_size (a : List UInt8) : (bs a).size = a.length := by simp [bs, ByteArray.size]
theorem add_bs (a b : List UInt8) (h : a.length + b.length ≤ 9223372036854775807) (W : World) : (Op.stringOp .add (bs a) (bs b)).run Tryd.prog W = .ok (.string (bs (a ++ b))) W := by
  rw [run_string_add_if, if_neg (by rw [bs_size, bs_size]; omega), bs_app]
theorem add_let (a b : List UInt8) {A B : ByteArray} (hA : A = bs a) (hB : B = bs b) (h : a.length + b.length ≤ 9223372036854775807) : ∃ C, (∀ W, (Op.stringOp .add A B).run Tryd.prog W = .ok (.string C) W) ∧ C = bs (a ++ b) := by
  subst hA hB
  exact ⟨_, add_bs a b h, rfl⟩
def wordL (k : Nat) : List UInt8 := match k with
  | 1 => [105, 110, 115, 101, 114, 116]
  | 2 => [105, 110, 115, 101, 114, 116, 101, 100]
  | 3 => [116, 97, 107, 101]
  | 4 => [116, 97, 115, 107]
  | 5 => [101, 109, 112, 116, 121]
  | 6 => [102, 117, 108, 108]
  | _ => []
def headL (t p k : Nat) : List UInt8 := Lib.decDigits t ++ [32] ++ Lib.decDigits p ++ [32] ++ wordL k
def restL (x y : Nat) : List UInt8 := [32] ++ Lib.decDigits x ++ [32] ++ Lib.decDigits y
def lineN (t p k x y : Nat) : List UInt8 := (if k = 1 ∨ k = 4 then headL t p k ++ restL x y else headL t p k) ++ [10]
def WordsAt (w : World) : Prop := 0 < w.heap.size ∧ ∀ k, 1 ≤ k → k ≤ 6 → w.cell? ⟨0, k, none⟩ = some (.string (bs (wordL k)))
theorem WordsAt.below {w w' : World} (h : WordsAt w) (hb : Below w.heap.size w w') : WordsAt w' := ⟨Nat.lt_of_lt_of_le h.1 hb.size, fun k h1 h2 => (below_cell hb h.1).trans (h.2 k h1 h2)⟩
theorem dec_len {u : Nat} (h : u < 18446744073709551616) : (Lib.decDigits u).length ≤ 20 := by
  rw [Lib.decDigits_length]
  by_cases h1 : 1 ≤ u
  · have := Lib.numDigits_eq u h1 h; split at this <;> omega
  · have h2 : Lib.nDigits u = 1 := by rw [← Lib.decDigits_length, show u = 0 by omega, Lib.decDigits, dif_pos (by decide)]; rfl
    omega
theorem word_len (k : Nat) : (wordL k).length ≤ 8 := by unfold wordL; split <;> simp
theorem head_len {t p k : Nat} (h1 : t < 18446744073709551616) (h2 : p < 18446744073709551616) : (headL t p k).length ≤ 50 := by
  have := dec_len h1; have := dec_len h2; have := word_len k
  simp [headL]; omega
theorem rest_len {x y : Nat} (h1 : x < 18446744073709551616) (h2 : y < 18446744073709551616) : (restL x y).length ≤ 42 := by
  have := dec_len h1; have := dec_len h2
  simp [restL]; omega
theorem line_len {t p k x y : Nat} (h1 : t < 18446744073709551616) (h2 : p < 18446744073709551616) (h3 : x < 18446744073709551616) (h4 : y < 18446744073709551616) : (lineN t p k x y).length ≤ 93 := by
  have := head_len (k := k) h1 h2; have := rest_len h3 h4
  unfold lineN
  split <;> simp <;> omega
theorem gw_cell {w : World} {b i : Nat} {v : Value} (h : w.cell? ⟨b, i, none⟩ = some v) (x : GW w) : x.world.cell? ⟨b, i, none⟩ = some v := (below_cell x.bel (block_of_cell h)).trans h
set_option maxRecDepth 100000 in
set_option maxHeartbeats 4000000 in
theorem line_any (t p k x y : Nat) (ht : t ≤ 1000000000) (hp : p ≤ 1000000000) (hk1 : 1 ≤ k) (hk6 : k ≤ 6) (hx : x < 18446744073709551616) (hy : y < 18446744073709551616) (w : World) (hW : WordsAt w) (htab : Lib.TabIs Tryd.prog w "internal/strconv.uint64pow10" .u64 Lib.pow10Tab) :
    Calls Tryd.prog 14 #[.agg #[.int .i64 t, .int .i64 p, .int .i64 k, .int .u64 x, .int .u64 y]] w fun e w' => e = .returned (.string (bs (lineN t p k x y))) ∧ Below w.heap.size w w' := by
  have HD : ∀ (u : Nat), u < 18446744073709551616 → ∃ D, D = bs (Lib.decDigits u) ∧ Hid (∀ W : World, Below w.heap.size w W → Calls Tryd.prog 21 #[.int .u64 u] W fun e w' => e = .returned (.string D) ∧ Below W.heap.size W w') := fun u hu => ⟨_, rfl, fun W hb => decimal_any u hu W (Lib.tabBelow_of_tabIs htab W hb)⟩
  have HH := hide (fun k w => has_any k w)
  have l1 := dec_len (u := t) (by omega)
  have l2 := dec_len (u := p) (by omega)
  have l3 := dec_len hx
  have l4 := dec_len hy
  have l5 := word_len k
  have n1 := head_len (t := t) (p := p) (k := k) (by omega) (by omega)
  have n2 := rest_len hx hy
  obtain ⟨D1, h1, HD1⟩ := HD t (by omega)
  obtain ⟨D2, h2, HD2⟩ := HD p (by omega)
  obtain ⟨D3, h3, HD3⟩ := HD x hx
  obtain ⟨D4, h4, HD4⟩ := HD y hy
  obtain ⟨WK, hWK⟩ : ∃ WK, WK = bs (wordL k) := ⟨_, rfl⟩
  obtain ⟨S1, a1, s1⟩ := add_let _ [32] h1 (show (⟨#[32]⟩ : ByteArray) = bs [32] from rfl) (by simp; omega)
  obtain ⟨S2, a2, s2⟩ := add_let _ _ s1 h2 (by simp; omega)
  obtain ⟨S3, a3, s3⟩ := add_let _ [32] s2 (show (⟨#[32]⟩ : ByteArray) = bs [32] from rfl) (by simp; omega)
  obtain ⟨S4, a4, s4⟩ := add_let _ _ s3 hWK (by simp; omega)
  obtain ⟨U1, b1, u1⟩ := add_let [32] _ (show (⟨#[32]⟩ : ByteArray) = bs [32] from rfl) h3 (by simp; omega)
  obtain ⟨U2, b2, u2⟩ := add_let _ [32] u1 (show (⟨#[32]⟩ : ByteArray) = bs [32] from rfl) (by simp; omega)
  obtain ⟨U3, b3, u3⟩ := add_let _ _ u2 h4 (by simp; omega)
  obtain ⟨S5, b4, s5⟩ := add_let (headL t p k) (restL x y) s4 u3 (by omega)
  obtain ⟨R1, d1, r1⟩ := add_let (headL t p k) [10] s4 (show (⟨#[10]⟩ : ByteArray) = bs [10] from rfl) (by simp; omega)
  obtain ⟨R2, d2, r2⟩ := add_let (headL t p k ++ restL x y) [10] s5 (show (⟨#[10]⟩ : ByteArray) = bs [10] from rfl) (by simp; omega)
  have HF1 : Hid ((k = 1 ∨ k = 4) → bs (lineN t p k x y) = R2) := fun h => by rw [r2]; unfold lineN; rw [if_pos h]
  have HF2 : Hid (¬ (k = 1 ∨ k = 4) → bs (lineN t p k x y) = R1) := fun h => by rw [r1]; unfold lineN; rw [if_neg h]
  have hnew := heap_new w (.cells #[.int .i64 t, .int .i64 p, .int .i64 k, .int .u64 x, .int .u64 y] 35)
  have c0 : (w.alloc (.cells #[.int .i64 t, .int .i64 p, .int .i64 k, .int .u64 x, .int .u64 y] 35)).cell? ⟨w.heap.size, 0, none⟩ = some (.int .i64 t) := cell_of hnew rfl
  have c1 : (w.alloc (.cells #[.int .i64 t, .int .i64 p, .int .i64 k, .int .u64 x, .int .u64 y] 35)).cell? ⟨w.heap.size, 1, none⟩ = some (.int .i64 p) := cell_of hnew rfl
  have c2 : (w.alloc (.cells #[.int .i64 t, .int .i64 p, .int .i64 k, .int .u64 x, .int .u64 y] 35)).cell? ⟨w.heap.size, 2, none⟩ = some (.int .i64 k) := cell_of hnew rfl
  have c3 : (w.alloc (.cells #[.int .i64 t, .int .i64 p, .int .i64 k, .int .u64 x, .int .u64 y] 35)).cell? ⟨w.heap.size, 3, none⟩ = some (.int .u64 x) := cell_of hnew rfl
  have c4 : (w.alloc (.cells #[.int .i64 t, .int .i64 p, .int .i64 k, .int .u64 x, .int .u64 y] 35)).cell? ⟨w.heap.size, 4, none⟩ = some (.int .u64 y) := cell_of hnew rfl
  have cw0 := (hW.below (below_alloc (Below.refl _ _) (.cells #[.int .i64 t, .int .i64 p, .int .i64 k, .int .u64 x, .int .u64 y] 35))).2 k hk1 hk6
  rw [← hWK] at cw0
  have HB := hide (below_alloc (Below.refl w.heap.size w) (.cells #[.int .i64 t, .int .i64 p, .int .i64 k, .int .u64 x, .int .u64 y] 35))
  have hk7 : (k : Int) < 7 := by omega
  clear hnew l1 l2 l3 l4 l5 n1 n2 hW htab HD h1 h2 h3 h4 hWK s1 s2 s3 s4 s5 u1 u2 u3 r1 r2
  by_cases hk : k = 1 ∨ k = 4
  · rw [HF1.out hk]
    have hkb : decide ((k : Int) = 1 ∨ (k : Int) = 4) = true := decide_eq_true (by omega)
    clear HF1 HF2
    go_enter Tryd.func14, Tryd.ntmps14
    go_wp2_with fail
    generalize (w.alloc (.cells #[.int .i64 t, .int .i64 p, .int .i64 k, .int .u64 x, .int .u64 y] 35)) = w1 at HB c0 c1 c2 c3 c4 cw0 ⊢
    have x0 := gw_cell c0
    have x1 := gw_cell c1
    have x2 := gw_cell c2
    have x3 := gw_cell cw0
    refine wp_region_gw (by kernel_rfl) (by kernel_rfl) ?_
    repeat (go_big_quiet_step (first
      | (go_at_call_of 21 (Value.int .u64 (t : Int)); exact gw_of (HD1.out _ (below_on HB.out (GW.bel _))))
      | (go_at_call_of 21 (Value.int .u64 (p : Int)); exact gw_of (HD2.out _ (below_on HB.out (GW.bel _))))
      | rfl))
    refine wpQuiet_nil ?_
    intro _ hw'
    obtain ⟨g, hw''⟩ := hw'
    subst hw''
    have HB2 := hide (below_on HB.out g.bel)
    have y2 := x2 g
    have y3 := gw_cell c3 g
    have y4 := gw_cell c4 g
    clear x0 x1 x2 x3 c0 c1 c2 c3 c4 cw0
    generalize g.world = w2 at HB2 y2 y3 y4 ⊢
    have H19 := hide (HH.out (k : Int) w2)
    rw [hkb] at H19
    go_wp2_with (first
      | (go_at_call 19; refine H19.out.mono ?_; rintro e w3 ⟨rfl, hb⟩; have HB3 := hide hb; have z3 := (below_cell hb (block_of_cell y3)).trans y3; have z4 := (below_cell hb (block_of_cell y4)).trans y4; clear hb)
      | fail)
    have HB4 := hide (below_on HB2.out HB3.out)
    have x3 := gw_cell z3
    have x4 := gw_cell z4
    clear y2 y3 y4 z3 z4 HB2 HB3
    refine wp_region_gw (by kernel_rfl) (by kernel_rfl) ?_
    repeat (go_big_quiet_step (first
      | (go_at_call_of 21 (Value.int .u64 (x : Int)); exact gw_of (HD3.out _ (below_on HB4.out (GW.bel _))))
      | (go_at_call_of 21 (Value.int .u64 (y : Int)); exact gw_of (HD4.out _ (below_on HB4.out (GW.bel _))))
      | rfl))
    refine wpQuiet_nil ?_
    intro _ hw'
    obtain ⟨g2, hw''⟩ := hw'
    subst hw''
    go_wp2
    go_ret
    exact ⟨rfl, below_on HB4.out g2.bel⟩
  · rw [HF2.out hk]
    have hkb : decide ((k : Int) = 1 ∨ (k : Int) = 4) = false := decide_eq_false (by omega)
    clear HF1 HF2
    go_enter Tryd.func14, Tryd.ntmps14
    go_wp2_with fail
    generalize (w.alloc (.cells #[.int .i64 t, .int .i64 p, .int .i64 k, .int .u64 x, .int .u64 y] 35)) = w1 at HB c0 c1 c2 c3 c4 cw0 ⊢
    have x0 := gw_cell c0
    have x1 := gw_cell c1
    have x2 := gw_cell c2
    have x3 := gw_cell cw0
    refine wp_region_gw (by kernel_rfl) (by kernel_rfl) ?_
    repeat (go_big_quiet_step (first
      | (go_at_call_of 21 (Value.int .u64 (t : Int)); exact gw_of (HD1.out _ (below_on HB.out (GW.bel _))))
      | (go_at_call_of 21 (Value.int .u64 (p : Int)); exact gw_of (HD2.out _ (below_on HB.out (GW.bel _))))
      | rfl))
    refine wpQuiet_nil ?_
    intro _ hw'
    obtain ⟨g, hw''⟩ := hw'
    subst hw''
    have HB2 := hide (below_on HB.out g.bel)
    have y2 := x2 g
    have y3 := gw_cell c3 g
    have y4 := gw_cell c4 g
    clear x0 x1 x2 x3 c0 c1 c2 c3 c4 cw0
    generalize g.world = w2 at HB2 y2 y3 y4 ⊢
    have H19 := hide (HH.out (k : Int) w2)
    rw [hkb] at H19
    go_wp2_with (first
      | (go_at_call 19; refine H19.out.mono ?_; rintro e w3 ⟨rfl, hb⟩; have HB3 := hide hb; have z3 := (below_cell hb (block_of_cell y3)).trans y3; have z4 := (below_cell hb (block_of_cell y4)).trans y4; clear hb)
      | fail)
    go_ret
    exact ⟨rfl, below_on HB2.out HB3.out⟩
end Go.Proofs.YtedebahkcgdekaaDoor
