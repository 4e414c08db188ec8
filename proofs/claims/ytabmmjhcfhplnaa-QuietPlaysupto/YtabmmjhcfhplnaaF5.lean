/- made and known, of any base; Mod. -/
import Derived.Test.YtabmmjhcfhplnaaF4
import Derived.Test.YtabmmjhcfhplnaaQ4
namespace Go.Proofs.Ytabmmjhcfhplnaa
open Go.RowKit Go.Lib Go.MuLone
set_option linter.unusedVariables false
set_option linter.unusedSimpArgs false
/-- An operation made, or refused. -/
def MdP (w : World) (ob : Obj) (good : Bool) (e : Ending) (w' : World) : Prop :=
  (good = true ∧ ∃ q, e = .returned (.tuple #[.pointer (some ⟨q, 0, none⟩), .int .i64 0]) ∧ w'.heap[q]? = some ob ∧ w.heap.size ≤ q ∧ Below w.heap.size w w') ∨ (good = false ∧ e = .returned (.tuple #[.pointer none, .int .i64 60]) ∧ Below w.heap.size w w')
def okB (base : Int) : Bool := decide (0 ≤ base ∧ base ≤ 16777213)
def okC (base k c : Int) : Bool := okB base && !(mkPh k == 4 && c == 0)
theorem MdP.on {w w1 w' : World} {ob : Obj} {g : Bool} {e : Ending} (hb : Below w.heap.size w w1) (h : MdP w1 ob g e w') : MdP w ob g e w' := by
  rcases h with ⟨hg, q, h1, h2, h3, h4⟩ | ⟨hg, h1, h2⟩
  · exact .inl ⟨hg, q, h1, h2, Nat.le_trans hb.size h3, below_on hb h4⟩
  · exact .inr ⟨hg, h1, below_on hb h2⟩
/-- What came, and its error. -/
def mdV : Option Nat → Value | some q => .pointer (some ⟨q, 0, none⟩) | none => .pointer none
def mdE : Option Nat → Int | some _ => 0 | none => 60
theorem MdP.one {w w' : World} {ob : Obj} {g : Bool} {e : Ending} (h : MdP w ob g e w') : ∃ o : Option Nat, e = .returned (.tuple #[mdV o, .int .i64 (mdE o)]) ∧ MdP w ob g (.returned (.tuple #[mdV o, .int .i64 (mdE o)])) w' := by
  rcases id h with ⟨hg, q, rfl, h2, h3, h4⟩ | ⟨hg, rfl, h2⟩
  · exact ⟨some q, rfl, h⟩
  · exact ⟨none, rfl, h⟩
set_option maxRecDepth 100000 in
theorem raise_bad (w : World) (base : Int) (h : ¬ (0 ≤ base ∧ base ≤ 16777213)) : Calls Try.prog 26 #[.agg #[.int .i64 base]] w fun e w' => e = .returned (.tuple #[.pointer none, .int .i64 60]) ∧ Below w.heap.size w w' := by
  have hh := heap_new w (.cells #[.int .i64 base] 50)
  have c0 := cell_of hh (i := 0) rfl
  have HB := hide (below_alloc (Below.refl w.heap.size w) (.cells #[.int .i64 base] 50))
  have HC := hide (begin_bad (w.alloc (.cells #[.int .i64 base] 50)) base 0 0 h)
  clear hh h
  go_enter Try.func26, Try.ntmps26
  go_wp2_with (go_at_call 49; refine HC.out.mono ?_; rintro e w2 ⟨rfl, h3⟩; have HE := hide h3; clear h3)
  go_ret2
  exact ⟨rfl, below_on HB.out HE.out⟩
set_option maxRecDepth 100000 in
theorem lower_bad (w : World) (base : Int) (h : ¬ (0 ≤ base ∧ base ≤ 16777213)) : Calls Try.prog 27 #[.agg #[.int .i64 base]] w fun e w' => e = .returned (.tuple #[.pointer none, .int .i64 60]) ∧ Below w.heap.size w w' := by
  have hh := heap_new w (.cells #[.int .i64 base] 50)
  have c0 := cell_of hh (i := 0) rfl
  have HB := hide (below_alloc (Below.refl w.heap.size w) (.cells #[.int .i64 base] 50))
  have HC := hide (begin_bad (w.alloc (.cells #[.int .i64 base] 50)) base 1 0 h)
  clear hh h
  go_enter Try.func27, Try.ntmps27
  go_wp2_with (go_at_call 49; refine HC.out.mono ?_; rintro e w2 ⟨rfl, h3⟩; have HE := hide h3; clear h3)
  go_ret2
  exact ⟨rfl, below_on HB.out HE.out⟩
set_option maxRecDepth 100000 in
theorem ask_bad (w : World) (base : Int) (h : ¬ (0 ≤ base ∧ base ≤ 16777213)) : Calls Try.prog 37 #[.agg #[.int .i64 base]] w fun e w' => e = .returned (.tuple #[.pointer none, .int .i64 60]) ∧ Below w.heap.size w w' := by
  have hh := heap_new w (.cells #[.int .i64 base] 50)
  have c0 := cell_of hh (i := 0) rfl
  have HB := hide (below_alloc (Below.refl w.heap.size w) (.cells #[.int .i64 base] 50))
  have HC := hide (begin_bad (w.alloc (.cells #[.int .i64 base] 50)) base 2 0 h)
  clear hh h
  go_enter Try.func37, Try.ntmps37
  go_wp2_with (go_at_call 49; refine HC.out.mono ?_; rintro e w2 ⟨rfl, h3⟩; have HE := hide h3; clear h3)
  go_ret2
  exact ⟨rfl, below_on HB.out HE.out⟩
set_option maxRecDepth 100000 in
theorem fail_bad (w : World) (base code : Int) (h : ¬ (0 ≤ base ∧ base ≤ 16777213)) : Calls Try.prog 38 #[.agg #[.int .i64 base], .int .u64 code] w fun e w' => e = .returned (.tuple #[.pointer none, .int .i64 60]) ∧ Below w.heap.size w w' := by
  by_cases hc : code = 0
  · subst hc; exact fail_zero w base
  have hh := heap_new w (.cells #[.int .i64 base] 50)
  have c0 := cell_of hh (i := 0) rfl
  have HB := hide (below_alloc (Below.refl w.heap.size w) (.cells #[.int .i64 base] 50))
  have HC := hide (begin_bad (w.alloc (.cells #[.int .i64 base] 50)) base 3 code h)
  have hcb : (code == 0) = false := by simp [hc]
  clear hh h hc
  go_enter Try.func38, Try.ntmps38
  go_wp2_with (go_at_call 49; refine HC.out.mono ?_; rintro e w2 ⟨rfl, h3⟩; have HE := hide h3; clear h3)
  go_ret2
  exact ⟨rfl, below_on HB.out HE.out⟩
set_option maxRecDepth 100000 in
set_option maxHeartbeats 1000000 in
theorem made_bad (w : World) (base k c : Int) (h : ¬ (0 ≤ base ∧ base ≤ 16777213)) : Calls Try.prog 15 #[.agg #[.int .i64 base], .agg #[.int .i64 k, .int .u64 c]] w fun e w' => e = .returned (.tuple #[.pointer none, .int .i64 60]) ∧ Below w.heap.size w w' := by
  have hb : Below w.heap.size w ((w.alloc (.cells #[.int .i64 base] 50)).alloc (.cells #[.int .i64 k, .int .u64 c] 52)) := below_alloc (below_alloc (Below.refl _ _) _) _
  have h0 : ((w.alloc (.cells #[.int .i64 base] 50)).alloc (.cells #[.int .i64 k, .int .u64 c] 52)).heap[w.heap.size]? = some (.cells #[.int .i64 base] 50 (0, 0)) := heap_old (heap_new _ _) _
  have h1 : ((w.alloc (.cells #[.int .i64 base] 50)).alloc (.cells #[.int .i64 k, .int .u64 c] 52)).heap[w.heap.size + 1]? = some (.cells #[.int .i64 k, .int .u64 c] 52 (0, 0)) := by
    have := heap_new (w.alloc (.cells #[.int .i64 base] 50)) (.cells #[.int .i64 k, .int .u64 c] 52)
    rw [World.size_alloc] at this; exact this
  have c0 := cell_of h0 (i := 0) rfl
  have c1 := cell_of h1 (i := 0) rfl
  have c2 := cell_of h1 (i := 1) rfl
  have HB := hide hb
  have HR := hide (raise_bad ((w.alloc (.cells #[.int .i64 base] 50)).alloc (.cells #[.int .i64 k, .int .u64 c] 52)) base h)
  have HL := hide (lower_bad ((w.alloc (.cells #[.int .i64 base] 50)).alloc (.cells #[.int .i64 k, .int .u64 c] 52)) base h)
  have HA := hide (ask_bad ((w.alloc (.cells #[.int .i64 base] 50)).alloc (.cells #[.int .i64 k, .int .u64 c] 52)) base h)
  have HF := hide (fail_bad ((w.alloc (.cells #[.int .i64 base] 50)).alloc (.cells #[.int .i64 k, .int .u64 c] 52)) base c h)
  clear h hb h0 h1
  by_cases k1 : k = 1
  · subst k1
    go_enter Try.func15, Try.ntmps15
    go_wp2_with (first
      | (go_at_call 26; refine HR.out.mono ?_; rintro e w2 ⟨rfl, h1⟩; have HE := hide (below_on HB.out h1); clear h1)
      | (go_at_call 36; refine (no_any _ _).mono ?_; rintro e w3 ⟨rfl, rfl⟩)
      | fail)
    go_ret2
    exact ⟨rfl, HE.out⟩
  by_cases k2 : k = 2
  · subst k2
    go_enter Try.func15, Try.ntmps15
    go_wp2_with (first
      | (go_at_call 27; refine HL.out.mono ?_; rintro e w2 ⟨rfl, h1⟩; have HE := hide (below_on HB.out h1); clear h1)
      | (go_at_call 36; refine (no_any _ _).mono ?_; rintro e w3 ⟨rfl, rfl⟩)
      | fail)
    go_ret2
    exact ⟨rfl, HE.out⟩
  by_cases k3 : k = 3
  · subst k3
    go_enter Try.func15, Try.ntmps15
    go_wp2_with (first
      | (go_at_call 37; refine HA.out.mono ?_; rintro e w2 ⟨rfl, h1⟩; have HE := hide (below_on HB.out h1); clear h1)
      | (go_at_call 36; refine (no_any _ _).mono ?_; rintro e w3 ⟨rfl, rfl⟩)
      | fail)
    go_ret2
    exact ⟨rfl, HE.out⟩
  have e1 : (k == 1) = false := by simp [k1]
  have e2 : (k == 2) = false := by simp [k2]
  have e3 : (k == 3) = false := by simp [k3]
  clear k1 k2 k3
  go_enter Try.func15, Try.ntmps15
  go_wp2_with (first
    | (go_at_call 38; refine HF.out.mono ?_; rintro e w2 ⟨rfl, h1⟩; have HE := hide (below_on HB.out h1); clear h1)
    | (go_at_call 36; refine (no_any _ _).mono ?_; rintro e w3 ⟨rfl, rfl⟩)
    | fail)
  go_ret2
  exact ⟨rfl, HE.out⟩
theorem made_P (w : World) (base k c : Int) : Calls Try.prog 15 #[.agg #[.int .i64 base], .agg #[.int .i64 k, .int .u64 c]] w (MdP w (QObjV base (mkCode k c) (nx (mkPh k)) 0) (okC base k c)) := by
  by_cases h : 0 ≤ base ∧ base ≤ 16777213
  · refine (made_any w base k c h).mono ?_
    rintro e w' (⟨h1, h2, h3, h4⟩ | ⟨h1, q, h2, h3, h4, h5⟩)
    · exact .inr ⟨by simp [okC, h1, h2], h3, h4⟩
    · refine .inl ⟨?_, q, h2, h3, h4, h5⟩
      unfold okC okB
      rw [decide_eq_true h]
      by_cases h6 : mkPh k = 4
      · have : ¬ c = 0 := fun e => h1 ⟨h6, e⟩
        simp [h6, this]
      · simp [h6]
  · refine (made_bad w base k c h).mono ?_
    rintro e w' ⟨h1, h2⟩
    refine .inr ⟨?_, h1, h2⟩
    unfold okC okB
    rw [decide_eq_false h]
    rfl
set_option maxRecDepth 100000 in
set_option maxHeartbeats 1000000 in
theorem rbegin_P (w : World) (kd base code : Int) : Calls Try.prog 53 #[.int .i64 kd, .agg #[.int .i64 base], .int .u64 code] w (MdP w (RfObj kd base code 0 0) (okB base && !(kd == 4 && code == 0))) := by
  have hh := heap_new w (.cells #[.int .i64 base] 50)
  have c0 := cell_of hh (i := 0) rfl
  have HB := hide (below_alloc (Below.refl w.heap.size w) (.cells #[.int .i64 base] 50))
  have HN := hide (heap_new (w.alloc (.cells #[.int .i64 base] 50)) (RfObj kd base code 0 0))
  clear hh
  by_cases h0 : base < 0
  · have HG : Hid ((okB base && !(kd == 4 && code == 0)) = false) := by
      have : ¬ (0 ≤ base ∧ base ≤ 16777213) := by omega
      have e : (okB base && !(kd == 4 && code == 0)) = false := by unfold okB; rw [decide_eq_false this]; rfl
      exact e
    go_enter Try.func53, Try.ntmps53
    go_wp2_with fail
    go_ret2
    exact .inr ⟨(by first | exact HG.out | rfl | simpa using HG.out), rfl, HB.out⟩
  by_cases h1 : 16777213 < base
  · have HG : Hid ((okB base && !(kd == 4 && code == 0)) = false) := by
      have : ¬ (0 ≤ base ∧ base ≤ 16777213) := by omega
      have e : (okB base && !(kd == 4 && code == 0)) = false := by unfold okB; rw [decide_eq_false this]; rfl
      exact e
    go_enter Try.func53, Try.ntmps53
    go_wp2_with fail
    go_ret2
    exact .inr ⟨(by first | exact HG.out | rfl | simpa using HG.out), rfl, HB.out⟩
  have hgood : okB base = true := by unfold okB; exact decide_eq_true ⟨by omega, by omega⟩
  rw [hgood, Bool.true_and]
  clear hgood
  by_cases h4 : kd = 4
  · subst h4
    by_cases hc : code = 0
    · subst hc
      go_enter Try.func53, Try.ntmps53
      go_wp2_with fail
      go_ret2
      exact .inr ⟨rfl, rfl, HB.out⟩
    · have hcb : (code == 0) = false := by simp [hc]
      have HG : Hid ((!((4 : Int) == 4 && code == 0)) = true) := by
        have e : (!((4 : Int) == 4 && code == 0)) = true := by simp [hc]
        exact e
      clear hc
      go_enter Try.func53, Try.ntmps53
      go_wp2_with fail
      go_ret2
      exact .inl ⟨(by first | exact HG.out | rfl | simpa using HG.out), _, rfl, by have := HN.out; rw [World.size_alloc] at this; exact this, by omega, below_alloc HB.out _⟩
  · have hkb : (kd == 4) = false := by simp [h4]
    have HG : Hid ((!(kd == 4 && code == 0)) = true) := by
      have e : (!(kd == 4 && code == 0)) = true := by simp [h4]
      exact e
    clear h4
    go_enter Try.func53, Try.ntmps53
    go_wp2_with fail
    go_ret2
    exact .inl ⟨(by first | exact HG.out | rfl | simpa using HG.out), _, rfl, by have := HN.out; rw [World.size_alloc] at this; exact this, by omega, below_alloc HB.out _⟩
set_option maxRecDepth 100000 in
theorem rraise_P (w : World) (base : Int) : Calls Try.prog 40 #[.agg #[.int .i64 base]] w (MdP w (RfObj 1 base 0 0 0) (okB base)) := by
  have hh := heap_new w (.cells #[.int .i64 base] 50)
  have c0 := cell_of hh (i := 0) rfl
  have HB := hide (below_alloc (Below.refl w.heap.size w) (.cells #[.int .i64 base] 50))
  have HC := hide (rbegin_P (w.alloc (.cells #[.int .i64 base] 50)) 1 base 0)
  rw [show (okB base && !((1 : Int) == 4 && (0 : Int) == 0)) = okB base by simp] at HC
  clear hh
  go_enter Try.func40, Try.ntmps40
  go_wp2_with (go_at_call 53; refine HC.out.mono ?_; rintro e w2 hm; obtain ⟨o, rfl, hm⟩ := hm.one; have HE := hide (hm.on HB.out); clear hm)
  go_ret2
  exact HE.out
set_option maxRecDepth 100000 in
theorem rlower_P (w : World) (base : Int) : Calls Try.prog 41 #[.agg #[.int .i64 base]] w (MdP w (RfObj 2 base 0 0 0) (okB base)) := by
  have hh := heap_new w (.cells #[.int .i64 base] 50)
  have c0 := cell_of hh (i := 0) rfl
  have HB := hide (below_alloc (Below.refl w.heap.size w) (.cells #[.int .i64 base] 50))
  have HC := hide (rbegin_P (w.alloc (.cells #[.int .i64 base] 50)) 2 base 0)
  rw [show (okB base && !((2 : Int) == 4 && (0 : Int) == 0)) = okB base by simp] at HC
  clear hh
  go_enter Try.func41, Try.ntmps41
  go_wp2_with (go_at_call 53; refine HC.out.mono ?_; rintro e w2 hm; obtain ⟨o, rfl, hm⟩ := hm.one; have HE := hide (hm.on HB.out); clear hm)
  go_ret2
  exact HE.out
set_option maxRecDepth 100000 in
theorem rask_P (w : World) (base : Int) : Calls Try.prog 42 #[.agg #[.int .i64 base]] w (MdP w (RfObj 3 base 0 0 0) (okB base)) := by
  have hh := heap_new w (.cells #[.int .i64 base] 50)
  have c0 := cell_of hh (i := 0) rfl
  have HB := hide (below_alloc (Below.refl w.heap.size w) (.cells #[.int .i64 base] 50))
  have HC := hide (rbegin_P (w.alloc (.cells #[.int .i64 base] 50)) 3 base 0)
  rw [show (okB base && !((3 : Int) == 4 && (0 : Int) == 0)) = okB base by simp] at HC
  clear hh
  go_enter Try.func42, Try.ntmps42
  go_wp2_with (go_at_call 53; refine HC.out.mono ?_; rintro e w2 hm; obtain ⟨o, rfl, hm⟩ := hm.one; have HE := hide (hm.on HB.out); clear hm)
  go_ret2
  exact HE.out
set_option maxRecDepth 100000 in
theorem rfail_P (w : World) (base code : Int) : Calls Try.prog 43 #[.agg #[.int .i64 base], .int .u64 code] w (MdP w (RfObj 4 base code 0 0) (okB base && !(code == 0))) := by
  have hh := heap_new w (.cells #[.int .i64 base] 50)
  have c0 := cell_of hh (i := 0) rfl
  have HB := hide (below_alloc (Below.refl w.heap.size w) (.cells #[.int .i64 base] 50))
  have HC := hide (rbegin_P (w.alloc (.cells #[.int .i64 base] 50)) 4 base code)
  rw [show (okB base && !((4 : Int) == 4 && code == 0)) = (okB base && !(code == 0)) by simp] at HC
  clear hh
  go_enter Try.func43, Try.ntmps43
  go_wp2_with (go_at_call 53; refine HC.out.mono ?_; rintro e w2 hm; obtain ⟨o, rfl, hm⟩ := hm.one; have HE := hide (hm.on HB.out); clear hm)
  go_ret2
  exact HE.out
set_option maxRecDepth 100000 in
set_option maxHeartbeats 1000000 in
theorem known_P (w : World) (base k c : Int) : Calls Try.prog 18 #[.agg #[.int .i64 base], .agg #[.int .i64 k, .int .u64 c]] w (MdP w (RfObj (mkPh k) base (mkCode k c) 0 0) (okC base k c)) := by
  have hb : Below w.heap.size w ((w.alloc (.cells #[.int .i64 base] 50)).alloc (.cells #[.int .i64 k, .int .u64 c] 52)) := below_alloc (below_alloc (Below.refl _ _) _) _
  have h0 : ((w.alloc (.cells #[.int .i64 base] 50)).alloc (.cells #[.int .i64 k, .int .u64 c] 52)).heap[w.heap.size]? = some (.cells #[.int .i64 base] 50 (0, 0)) := heap_old (heap_new _ _) _
  have h1 : ((w.alloc (.cells #[.int .i64 base] 50)).alloc (.cells #[.int .i64 k, .int .u64 c] 52)).heap[w.heap.size + 1]? = some (.cells #[.int .i64 k, .int .u64 c] 52 (0, 0)) := by
    have := heap_new (w.alloc (.cells #[.int .i64 base] 50)) (.cells #[.int .i64 k, .int .u64 c] 52)
    rw [World.size_alloc] at this; exact this
  have c0 := cell_of h0 (i := 0) rfl
  have c1 := cell_of h1 (i := 0) rfl
  have c2 := cell_of h1 (i := 1) rfl
  have HB := hide hb
  have HR := hide (rraise_P ((w.alloc (.cells #[.int .i64 base] 50)).alloc (.cells #[.int .i64 k, .int .u64 c] 52)) base)
  have HL := hide (rlower_P ((w.alloc (.cells #[.int .i64 base] 50)).alloc (.cells #[.int .i64 k, .int .u64 c] 52)) base)
  have HA := hide (rask_P ((w.alloc (.cells #[.int .i64 base] 50)).alloc (.cells #[.int .i64 k, .int .u64 c] 52)) base)
  have HF := hide (rfail_P ((w.alloc (.cells #[.int .i64 base] 50)).alloc (.cells #[.int .i64 k, .int .u64 c] 52)) base c)
  clear hb h0 h1
  by_cases k1 : k = 1
  · subst k1
    rw [show okC base 1 c = okB base by simp [okC, mkPh], show mkCode 1 c = 0 by simp [mkCode], show ((mkPh 1 : Nat) : Int) = 1 by simp [mkPh]]
    go_enter Try.func18, Try.ntmps18
    go_wp2_with (first
      | (go_at_call 40; refine HR.out.mono ?_; rintro e w2 hm; obtain ⟨o, rfl, hm⟩ := hm.one; have HE := hide (hm.on HB.out); clear hm)
      | fail)
    go_ret2
    exact HE.out
  by_cases k2 : k = 2
  · subst k2
    rw [show okC base 2 c = okB base by simp [okC, mkPh], show mkCode 2 c = 0 by simp [mkCode], show ((mkPh 2 : Nat) : Int) = 2 by simp [mkPh]]
    go_enter Try.func18, Try.ntmps18
    go_wp2_with (first
      | (go_at_call 41; refine HL.out.mono ?_; rintro e w2 hm; obtain ⟨o, rfl, hm⟩ := hm.one; have HE := hide (hm.on HB.out); clear hm)
      | fail)
    go_ret2
    exact HE.out
  by_cases k3 : k = 3
  · subst k3
    rw [show okC base 3 c = okB base by simp [okC, mkPh], show mkCode 3 c = 0 by simp [mkCode], show ((mkPh 3 : Nat) : Int) = 3 by simp [mkPh]]
    go_enter Try.func18, Try.ntmps18
    go_wp2_with (first
      | (go_at_call 42; refine HA.out.mono ?_; rintro e w2 hm; obtain ⟨o, rfl, hm⟩ := hm.one; have HE := hide (hm.on HB.out); clear hm)
      | fail)
    go_ret2
    exact HE.out
  rw [show okC base k c = (okB base && !(c == 0)) by simp [okC, mkPh, k1, k2, k3], show mkCode k c = c by simp [mkCode, k1, k2, k3], show ((mkPh k : Nat) : Int) = 4 by simp [mkPh, k1, k2, k3]]
  have e1 : (k == 1) = false := by simp [k1]
  have e2 : (k == 2) = false := by simp [k2]
  have e3 : (k == 3) = false := by simp [k3]
  clear k1 k2 k3
  go_enter Try.func18, Try.ntmps18
  go_wp2_with (first
    | (go_at_call 43; refine HF.out.mono ?_; rintro e w2 hm; obtain ⟨o, rfl, hm⟩ := hm.one; have HE := hide (hm.on HB.out); clear hm)
    | fail)
  go_ret2
  exact HE.out
/-- The rest that is not below 0. -/
def mdN (x : Int) (n : Nat) : Int := if x.tmod n < 0 then x.tmod n + n else x.tmod n
theorem tmodF_in (x : Int) (n : Nat) (hn : 0 < n) : -(n : Int) < x.tmod n ∧ x.tmod n < n := by
  have hp : (0 : Int) < n := by omega
  have h2 := Int.tmod_lt_of_pos x hp
  refine ⟨?_, h2⟩
  rcases Int.le_total 0 x with h | h
  · have := Int.tmod_nonneg (n : Int) h; omega
  · have h3 := Int.tmod_lt_of_pos (-x) hp
    rw [Int.neg_tmod] at h3
    omega
theorem mdN_in (x : Int) (n : Nat) (hn : 0 < n) : 0 ≤ mdN x n ∧ mdN x n < n := by
  have := tmodF_in x n hn
  unfold mdN
  split <;> omega
set_option maxRecDepth 100000 in
theorem mod_any (x : Int) (n : Nat) (hn : 0 < n) (hm : n ≤ 4611686018427387904) (w : World) : Calls Try.prog 19 #[.int .i64 x, .int .i64 n] w fun e w' => e = .returned (.int .i64 (mdN x n)) ∧ w' = w := by
  have ht := tmodF_in x n hn
  have hn0 : ¬ n = 0 := by omega
  have hn0i : ¬ (n : Int) = 0 := by omega
  have hn0b : ((n : Int) == 0) = false := by simp [hn0]
  have hw1 : wrap64 (x.tmod n + n) = x.tmod n + n := IntWalk.wrap64_in _ (by omega)
  by_cases h : x.tmod n < 0
  · have HE : Hid (mdN x n = x.tmod n + n) := if_pos h
    clear ht hm
    go_enter Try.func19, Try.ntmps19
    go_wp2_with fail
    go_ret
    exact ⟨by rw [hw1, HE.out]; rfl, rfl⟩
  · have HE : Hid (mdN x n = x.tmod n) := if_neg h
    clear ht hm
    go_enter Try.func19, Try.ntmps19
    go_wp2_with fail
    go_ret
    exact ⟨by rw [HE.out]; rfl, rfl⟩
end Go.Proofs.Ytabmmjhcfhplnaa
