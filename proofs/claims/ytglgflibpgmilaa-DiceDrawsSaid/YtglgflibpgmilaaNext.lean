/- The generator, Next whatever is left, State. -/
import Derived.Test.YtglgflibpgmilaaNew
import Derived.Laws.BitsAllLaws
import Derived.Laws.EntriesVeiled
namespace Go.Proofs.Ytglgflibpgmilaa
open Go.RowKit Go.Lib

structure St.Ok (s : St) : Prop where
  a : s.a < 18446744073709551616
  b : s.b < 18446744073709551616
  c : s.c < 18446744073709551616
  d : s.d < 18446744073709551616

def rot (x k : Nat) : Nat := (x * 2 ^ k % 18446744073709551616) ||| (x / 2 ^ (64 - k))
theorem rot_lt (x k : Nat) (hx : x < 18446744073709551616) : rot x k < 18446744073709551616 := by
  unfold rot
  have h1 : x * 2 ^ k % 18446744073709551616 < 2 ^ 64 := Nat.mod_lt _ (by decide)
  have h2 : x / 2 ^ (64 - k) < 2 ^ 64 := Nat.lt_of_le_of_lt (Nat.div_le_self _ _) hx
  exact Nat.or_lt_two_pow h1 h2
theorem xor_lt {x y : Nat} (hx : x < 18446744073709551616) (hy : y < 18446744073709551616) : x ^^^ y < 18446744073709551616 :=
  Nat.xor_lt_two_pow (n := 64) hx hy
def stWord (s : St) : Nat := rot (s.b * 5 % 18446744073709551616) 7 * 9 % 18446744073709551616
def stNext (s : St) : St :=
  ⟨s.a ^^^ (s.d ^^^ s.b), s.b ^^^ (s.c ^^^ s.a), (s.c ^^^ s.a) ^^^ (s.b * 131072 % 18446744073709551616), rot (s.d ^^^ s.b) 45⟩
theorem stNext_ok {s : St} (h : s.Ok) : (stNext s).Ok :=
  ⟨xor_lt h.a (xor_lt h.d h.b), xor_lt h.b (xor_lt h.c h.a), xor_lt (xor_lt h.c h.a) (Nat.mod_lt _ (by decide)), rot_lt _ _ (xor_lt h.d h.b)⟩
theorem stWord_lt (s : St) : stWord s < 18446744073709551616 := Nat.mod_lt _ (by decide)
def stAgg (s : St) : Value := .agg #[.int .u64 s.a, .int .u64 s.b, .int .u64 s.c, .int .u64 s.d]

theorem rot_int7 (x : Nat) (hx : x < 18446744073709551616) : bits .or .u64 (IntKind.u64.wrap ((x : Int) * 128)) ((x : Int) / 144115188075855872) = (rot x 7 : Nat) := by
  have e : IntKind.u64.wrap ((x : Int) * 128) = ((x * 2 ^ 7 % 18446744073709551616 : Nat) : Int) := by rw [IntKind.wrap_u64]; omega
  have e2 : (x : Int) / 144115188075855872 = ((x / 2 ^ (64 - 7) : Nat) : Int) := by omega
  rw [e, e2, u64_or_nat _ _ (Nat.mod_lt _ (by decide)) (by omega)]
  rfl
theorem rot_int45 (x : Nat) (hx : x < 18446744073709551616) : bits .or .u64 (IntKind.u64.wrap ((x : Int) * 35184372088832)) ((x : Int) / 524288) = (rot x 45 : Nat) := by
  have e : IntKind.u64.wrap ((x : Int) * 35184372088832) = ((x * 2 ^ 45 % 18446744073709551616 : Nat) : Int) := by rw [IntKind.wrap_u64]; omega
  have e2 : (x : Int) / 524288 = ((x / 2 ^ (64 - 45) : Nat) : Int) := by omega
  rw [e, e2, u64_or_nat _ _ (Nat.mod_lt _ (by decide)) (by omega)]
  rfl

theorem rot7 (x : Nat) (w : World) (hx : x < 18446744073709551616) :
    Calls Try.prog 61 #[.int .u64 x, .int .i64 7] w fun e w' => e = .returned (.int .u64 (rot x 7 : Nat)) ∧ w' = w := by
  have hb : bits .and .u64 7 63 = 7 := by decide +kernel
  go_enter Try.func61, Try.ntmps61
  go_wp2
  go_ret
  exact ⟨ret_int (rot_int7 x hx), rfl⟩
theorem rot45 (x : Nat) (w : World) (hx : x < 18446744073709551616) :
    Calls Try.prog 61 #[.int .u64 x, .int .i64 45] w fun e w' => e = .returned (.int .u64 (rot x 45 : Nat)) ∧ w' = w := by
  have hb : bits .and .u64 45 63 = 45 := by decide +kernel
  go_enter Try.func61, Try.ntmps61
  go_wp2
  go_ret
  exact ⟨ret_int (rot_int45 x hx), rfl⟩

set_option maxRecDepth 100000 in
theorem word_any (s : St) (w : World) :
    Calls Try.prog 57 #[stAgg s] w fun e w' => e = .returned (.int .u64 (stWord s : Nat)) ∧ Below w.heap.size w w' := by
  have h5 : IntKind.u64.wrap ((s.b : Int) * 5) = ((s.b * 5 % 18446744073709551616 : Nat) : Int) := by rw [IntKind.wrap_u64]; omega
  have H5 := hide h5
  clear h5
  unfold stAgg
  go_enter Try.func57, Try.ntmps57
  go_wp2_with fail
  rw [H5.out]
  refine (rot7 _ _ (Nat.mod_lt _ (by decide))).mono ?_
  rintro e w1 ⟨rfl, rfl⟩
  go_wp2_with fail
  go_ret
  refine ⟨ret_int ?_, (Below.refl _ _).alloc (Nat.le_refl _) _⟩
  rw [IntKind.wrap_u64]
  unfold stWord
  omega

set_option maxRecDepth 100000 in
theorem behind_any (s : St) (h : s.Ok) (w : World) :
    Calls Try.prog 54 #[stAgg s] w fun e w' => e = .returned (stAgg (stNext s)) ∧ Below w.heap.size w w' := by
  have e1 : bits .xor .u64 (s.c : Int) (s.a : Int) = ((s.c ^^^ s.a : Nat) : Int) := u64_xor_nat _ _ h.c h.a
  have e2 : bits .xor .u64 (s.d : Int) (s.b : Int) = ((s.d ^^^ s.b : Nat) : Int) := u64_xor_nat _ _ h.d h.b
  have e3 : bits .xor .u64 (s.b : Int) ((s.c ^^^ s.a : Nat) : Int) = ((s.b ^^^ (s.c ^^^ s.a) : Nat) : Int) := u64_xor_nat _ _ h.b (xor_lt h.c h.a)
  have e4 : bits .xor .u64 (s.a : Int) ((s.d ^^^ s.b : Nat) : Int) = ((s.a ^^^ (s.d ^^^ s.b) : Nat) : Int) := u64_xor_nat _ _ h.a (xor_lt h.d h.b)
  have e5 : IntKind.u64.wrap ((s.b : Int) * 131072) = ((s.b * 131072 % 18446744073709551616 : Nat) : Int) := by rw [IntKind.wrap_u64]; omega
  have e6 : bits .xor .u64 ((s.c ^^^ s.a : Nat) : Int) ((s.b * 131072 % 18446744073709551616 : Nat) : Int) = (((s.c ^^^ s.a) ^^^ (s.b * 131072 % 18446744073709551616) : Nat) : Int) := u64_xor_nat _ _ (xor_lt h.c h.a) (Nat.mod_lt _ (by decide))
  have E : Hid (_ ∧ _ ∧ _ ∧ _ ∧ _ ∧ _) := ⟨e1, e2, e3, e4, e5, e6⟩
  clear e1 e2 e3 e4 e5 e6
  have hdb := xor_lt h.d h.b
  unfold stAgg
  go_enter Try.func54, Try.ntmps54
  go_wp2_with fail
  obtain ⟨e1, e2, e3, e4, e5, e6⟩ := E.out
  rw [e2]
  refine (rot45 _ _ hdb).mono ?_
  clear e1 e2 e3 e4 e5 e6
  rintro e w1 ⟨rfl, rfl⟩
  go_wp2_with fail
  obtain ⟨e1, e2, e3, e4, e5, e6⟩ := E.out
  simp only [e1, e3, e4, e5, e6]
  exact bodyPost_ret (v := stAgg (stNext s)) (by simp [results, Try.results54, go_sem, stAgg, stNext]) rfl ⟨rfl, ((Below.refl _ _).alloc (Nat.le_refl _) _).alloc (by simp) _⟩

set_option maxRecDepth 100000 in
theorem generated_any (w : World) (b : Nat) (fn v : Value) (s : St) (u : Int) (hh : w.heap[b]? = some (DObj fn v s u)) (h : s.Ok) :
    Calls Try.prog 49 #[.pointer (some ⟨b, 0, none⟩)] w fun e w' => e = .returned (.int .u64 (stWord s : Nat)) ∧ w'.heap[b]? = some (DObj fn v (stNext s) u) ∧ But b w w' := by
  have hb : b < w.heap.size := lt_of_heap hh
  have c2 : w.cell? ⟨b, 2, none⟩ = some (.int .u64 s.a) := cell_of hh rfl
  have c3 : w.cell? ⟨b, 3, none⟩ = some (.int .u64 s.b) := cell_of hh rfl
  have c4 : w.cell? ⟨b, 4, none⟩ = some (.int .u64 s.c) := cell_of hh rfl
  have c5 : w.cell? ⟨b, 5, none⟩ = some (.int .u64 s.d) := cell_of hh rfl
  have HH := hide hh
  clear hh
  go_enter Try.func49, Try.ntmps49
  go_wp2_with fail
  refine (word_any s _).mono ?_
  rintro e w1 ⟨rfl, hbel⟩
  have hh1 : w1.heap[b]? = some (DObj fn v s u) := (hbel.block b hb).trans HH.out
  have d2 : w1.cell? ⟨b, 2, none⟩ = some (.int .u64 s.a) := cell_of hh1 rfl
  have d3 : w1.cell? ⟨b, 3, none⟩ = some (.int .u64 s.b) := cell_of hh1 rfl
  have d4 : w1.cell? ⟨b, 4, none⟩ = some (.int .u64 s.c) := cell_of hh1 rfl
  have d5 : w1.cell? ⟨b, 5, none⟩ = some (.int .u64 s.d) := cell_of hh1 rfl
  have HH1 := hide hh1; have HB1 := hide hbel
  clear hh1 hbel c2 c3 c4 c5
  go_wp2_with fail
  refine (behind_any s h _).mono ?_
  rintro e w2 ⟨rfl, hbel⟩
  have hb1 : b < w1.heap.size := lt_of_heap HH1.out
  have hh2 : w2.heap[b]? = some (DObj fn v s u) := (hbel.block b hb1).trans HH1.out
  have f2 : w2.frozen? ⟨b, 2, none⟩ = false := free_of hh2 2
  have f3 : w2.frozen? ⟨b, 3, none⟩ = false := free_of hh2 3
  have f4 : w2.frozen? ⟨b, 4, none⟩ = false := free_of hh2 4
  have f5 : w2.frozen? ⟨b, 5, none⟩ = false := free_of hh2 5
  have g2 : w2.cell? ⟨b, 2, none⟩ = some (.int .u64 s.a) := cell_of hh2 rfl
  have g3 : w2.cell? ⟨b, 3, none⟩ = some (.int .u64 s.b) := cell_of hh2 rfl
  have g4 : w2.cell? ⟨b, 4, none⟩ = some (.int .u64 s.c) := cell_of hh2 rfl
  have g5 : w2.cell? ⟨b, 5, none⟩ = some (.int .u64 s.d) := cell_of hh2 rfl
  have HH2 := hide hh2; have HB2 := hide ((But.of_below (b := b) HB1.out).trans (But.of_below hbel))
  clear hh2 hbel d2 d3 d4 d5
  unfold stAgg
  go_wp2_with fail
  go_ret
  exact ⟨rfl, heap_set (heap_set (heap_set (heap_set HH2.out _) _) _) _,
    (((HB2.out.trans (But.setCell _ ⟨b, 2, none⟩ _)).trans (But.setCell _ ⟨b, 3, none⟩ _)).trans (But.setCell _ ⟨b, 4, none⟩ _)).trans (But.setCell _ ⟨b, 5, none⟩ _)⟩

/-- The words that are left, and the source: given ones, or the generator's. -/
def DiceIs (w : World) (b : Nat) (ws : List Int) (s : St) (u : Int) : Prop :=
  ∃ fn v, w.heap[b]? = some (DObj fn v s u) ∧ WordsAt w b v ws ∧ (fn = fnv 41 ∨ (fn = fnv 49 ∧ ws = []))

theorem DiceIs.lt {w : World} {b : Nat} {ws : List Int} {s : St} {u : Int} (h : DiceIs w b ws s u) : b < w.heap.size := by
  obtain ⟨fn, v, hh, _⟩ := h; exact lt_of_heap hh

/-- What turns a block above the dice leaves them alone. -/
theorem DiceIs.beyond {w w' : World} {b c : Nat} {ws : List Int} {s : St} {u : Int} (h : DiceIs w b ws s u) (k : But c w w') (hc : b < c) : DiceIs w' b ws s u := by
  obtain ⟨fn, v, hh, hv, hf⟩ := h
  refine ⟨fn, v, k.heap hh (by omega), ?_, hf⟩
  rcases hv with hv | ⟨g, o, q, rfl, hg, hgs, h1, h2, h3⟩
  · exact .inl hv
  · refine .inr ⟨g, o, q, rfl, hg, hgs.but k (by omega), h1, h2, fun i hi => ?_⟩
    rw [World.cell?_of_block (w := w) (k.block g hgs.lt (by omega))]
    exact h3 i hi

/-- What turns a block that is no row of words leaves other dice alone. -/
theorem DiceIs.other {w w' : World} {b c : Nat} {ws : List Int} {s : St} {u : Int} (h : DiceIs w b ws s u) (k : But c w w') (hne : b ≠ c) (hc : ∃ cs t fr, w.heap[c]? = some (.cells cs t fr) ∧ t ≠ 22) : DiceIs w' b ws s u := by
  obtain ⟨fn, v, hh, hv, hf⟩ := h
  refine ⟨fn, v, k.heap hh hne, ?_, hf⟩
  rcases hv with hv | ⟨g, o, q, rfl, hg, hgs, h1, h2, h3⟩
  · exact .inl hv
  · have hgc : g ≠ c := by
      rintro rfl
      obtain ⟨cs, t, fr, e1, e2⟩ := hc
      obtain ⟨cs', fr', e3⟩ := hgs.row
      rw [e1] at e3
      simp at e3
      exact e2 e3.2.1
    refine .inr ⟨g, o, q, rfl, hg, hgs.but k hgc, h1, h2, fun i hi => ?_⟩
    rw [World.cell?_of_block (w := w) (k.block g hgs.lt hgc)]
    exact h3 i hi

theorem DiceIs.below {w w' : World} {b : Nat} {ws : List Int} {s : St} {u : Int} (h : DiceIs w b ws s u) (k : Below w.heap.size w w') : DiceIs w' b ws s u := by
  obtain ⟨fn, v, hh, hv, hf⟩ := h
  exact ⟨fn, v, (k.block b (lt_of_heap hh)).trans hh, by
    rcases hv with hv | ⟨g, o, q, rfl, hg, hgs, h1, h2, h3⟩
    · exact .inl hv
    · refine .inr ⟨g, o, q, rfl, hg, hgs.below k, h1, h2, fun i hi => ?_⟩
      rw [k.cell (p := ⟨g, o + i, none⟩) hgs.lt]
      exact h3 i hi, hf⟩

def drawn : List Int → St → Int
  | x :: _, _ => x
  | [], s => (stWord s : Nat)
def stLeft : List Int → St → St
  | _ :: _, s => s
  | [], s => stNext s
theorem stLeft_ok {ws : List Int} {s : St} (h : s.Ok) : (stLeft ws s).Ok := by
  cases ws with
  | nil => exact stNext_ok h
  | cons x r => exact h

set_option maxRecDepth 100000 in
theorem next_gen (w : World) (b : Nat) (v : Value) (s : St) (u : Int) (hh : w.heap[b]? = some (DObj (fnv 49) v s u)) (h : s.Ok) (hu0 : 0 ≤ u) (hu1 : u < 9223372036854775807) :
    Calls Try.prog 25 #[.pointer (some ⟨b, 0, none⟩)] w fun e w' => e = .returned (.int .u64 (stWord s : Nat)) ∧ w'.heap[b]? = some (DObj (fnv 49) v (stNext s) (u + 1)) ∧ But b w w' := by
  have HH := hide hh
  have c0 : w.cell? ⟨b, 0, none⟩ = some (.func (.func 49) #[] #[]) := cell_of hh rfl
  have c6 : w.cell? ⟨b, 6, none⟩ = some (.int .i64 u) := cell_of hh rfl
  have f6 : w.frozen? ⟨b, 6, none⟩ = false := free_of hh 6
  have q77 := eql_func_nil
  clear hh
  go_enter Try.func25, Try.ntmps25
  go_wp2_with fail
  have hg := generated_any (w.setCell ⟨b, 6, none⟩ (.int .i64 (u + 1))) b (fnv 49) v s (u + 1) (heap_set HH.out _) h
  refine hg.mono ?_
  clear hg
  rintro e w1 ⟨rfl, hh1, hbut⟩
  have P := hide (And.intro hh1 ((But.setCell w ⟨b, 6, none⟩ (.int .i64 (u + 1))).trans hbut))
  clear hh1 hbut
  go_wp2_with fail
  go_ret
  exact ⟨rfl, P.out⟩

set_option maxRecDepth 100000 in
theorem given_last (w : World) (b : Nat) (v : Value) (s : St) (u : Int) (hh : w.heap[b]? = some (DObj (fnv 41) v s u)) (hw : WordsAt w b v []) (h : s.Ok) :
    Calls Try.prog 41 #[.pointer (some ⟨b, 0, none⟩)] w fun e w' => e = .returned (.int .u64 (stWord s : Nat)) ∧ w'.heap[b]? = some (DObj (fnv 49) (.slice none 0 0) (stNext s) u) ∧ But b w w' := by
  obtain ⟨ao, c, rfl⟩ : ∃ ao c, v = .slice ao 0 c := by
    rcases hw with ⟨rfl, _⟩ | ⟨g, o, c, rfl, _⟩
    · exact ⟨_, _, rfl⟩
    · exact ⟨_, _, rfl⟩
  have HH := hide hh
  have c0 : w.cell? ⟨b, 0, none⟩ = some (.func (.func 41) #[] #[]) := cell_of hh rfl
  have c1 : w.cell? ⟨b, 1, none⟩ = some (.slice ao 0 c) := cell_of hh rfl
  have f0 : w.frozen? ⟨b, 0, none⟩ = false := free_of hh 0
  have f1 : w.frozen? ⟨b, 1, none⟩ = false := free_of hh 1
  clear hh hw
  go_enter Try.func41, Try.ntmps41
  go_wp2_with fail
  have hg := generated_any ((w.setCell ⟨b, 0, none⟩ (.func (.func 49) #[] #[])).setCell ⟨b, 1, none⟩ (.slice none 0 0)) b (fnv 49) (.slice none 0 0) s u (heap_set (heap_set HH.out _) _) h
  refine hg.mono ?_
  clear hg
  rintro e w1 ⟨rfl, hh1, hbut⟩
  have P := hide (And.intro hh1 (((But.setCell w ⟨b, 0, none⟩ (.func (.func 49) #[] #[])).trans (But.setCell _ ⟨b, 1, none⟩ (.slice none 0 0))).trans hbut))
  clear hh1 hbut
  go_wp2_with fail
  go_ret
  exact ⟨rfl, P.out⟩

set_option maxRecDepth 100000 in
theorem next_last (w : World) (b : Nat) (v : Value) (s : St) (u : Int) (hh : w.heap[b]? = some (DObj (fnv 41) v s u)) (hw : WordsAt w b v []) (h : s.Ok) (hu0 : 0 ≤ u) (hu1 : u < 9223372036854775807) :
    Calls Try.prog 25 #[.pointer (some ⟨b, 0, none⟩)] w fun e w' => e = .returned (.int .u64 (stWord s : Nat)) ∧ w'.heap[b]? = some (DObj (fnv 49) (.slice none 0 0) (stNext s) (u + 1)) ∧ But b w w' := by
  have HH := hide hh; have HW := hide hw
  have c0 : w.cell? ⟨b, 0, none⟩ = some (.func (.func 41) #[] #[]) := cell_of hh rfl
  have c6 : w.cell? ⟨b, 6, none⟩ = some (.int .i64 u) := cell_of hh rfl
  have f6 : w.frozen? ⟨b, 6, none⟩ = false := free_of hh 6
  have q77 := eql_func_nil
  clear hh hw
  go_enter Try.func25, Try.ntmps25
  go_wp2_with fail
  have hbu := But.setCell w ⟨b, 6, none⟩ (.int .i64 (u + 1))
  have hg := given_last (w.setCell ⟨b, 6, none⟩ (.int .i64 (u + 1))) b v s (u + 1) (heap_set HH.out _) (HW.out.but hbu) h
  refine hg.mono ?_
  clear hg
  rintro e w1 ⟨rfl, hh1, hbut⟩
  have P := hide (And.intro hh1 (hbu.trans hbut))
  clear hh1 hbut hbu
  go_wp2_with fail
  go_ret
  exact ⟨rfl, P.out⟩

/-- Next, whatever is left. -/
theorem next_any (w : World) (b : Nat) (ws : List Int) (s : St) (u : Int) (hd : DiceIs w b ws s u) (h : s.Ok) (hu0 : 0 ≤ u) (hu1 : u < 9223372036854775807) :
    Calls Try.prog 25 #[.pointer (some ⟨b, 0, none⟩)] w fun e w' => e = .returned (.int .u64 (drawn ws s)) ∧ DiceIs w' b ws.tail (stLeft ws s) (u + 1) ∧ But b w w' := by
  obtain ⟨fn, v, hh, hw, hf⟩ := hd
  cases ws with
  | nil =>
    rcases hf with rfl | ⟨rfl, _⟩
    · refine (next_last w b v s u hh hw h hu0 hu1).mono ?_
      rintro e w' ⟨rfl, hh', hb⟩
      exact ⟨rfl, ⟨_, _, hh', .inl ⟨rfl, rfl⟩, .inr ⟨rfl, rfl⟩⟩, hb⟩
    · refine (next_gen w b v s u hh h hu0 hu1).mono ?_
      rintro e w' ⟨rfl, hh', hb⟩
      exact ⟨rfl, ⟨_, _, hh', hw.but hb, .inr ⟨rfl, rfl⟩⟩, hb⟩
  | cons x r =>
    rcases hf with rfl | ⟨_, h0⟩
    · refine (next_given w b v s u x r hh hw hu0 hu1).mono ?_
      rintro e w' ⟨rfl, v', hh', hw', hb⟩
      exact ⟨rfl, ⟨_, _, hh', hw', .inl rfl⟩, hb⟩
    · cases h0

set_option maxRecDepth 100000 in
theorem state_any (w : World) (b : Nat) (ws : List Int) (s : St) (u : Int) (hd : DiceIs w b ws s u) :
    Calls Try.prog 19 #[.pointer (some ⟨b, 0, none⟩)] w fun e w' => e = .returned (stAgg s) ∧ Below w.heap.size w w' := by
  obtain ⟨fn, v, hh, _, _⟩ := hd
  have c2 : w.cell? ⟨b, 2, none⟩ = some (.int .u64 s.a) := cell_of hh rfl
  have c3 : w.cell? ⟨b, 3, none⟩ = some (.int .u64 s.b) := cell_of hh rfl
  have c4 : w.cell? ⟨b, 4, none⟩ = some (.int .u64 s.c) := cell_of hh rfl
  have c5 : w.cell? ⟨b, 5, none⟩ = some (.int .u64 s.d) := cell_of hh rfl
  have hb : b < w.heap.size := lt_of_heap hh
  clear hh
  go_enter Try.func19, Try.ntmps19
  go_wp2
  exact bodyPost_ret (v := stAgg s) (by simp [results, Try.results19, go_sem, stAgg]) rfl ⟨rfl, (Below.refl _ _).alloc (Nat.le_refl _) _⟩
end Go.Proofs.Ytglgflibpgmilaa
