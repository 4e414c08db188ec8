/- The constructors; made, granted, laid of the law. -/
import Derived.Test.YtabmmjhcfhplnaaQ3
namespace Go.Proofs.Ytabmmjhcfhplnaa
open Go.RowKit Go.Lib Go.MuLone
set_option linter.unusedVariables false
set_option maxRecDepth 100000 in
theorem raise_any (w : World) (base : Int) (h : 0 ≤ base ∧ base ≤ 16777213) : Calls Try.prog 26 #[.agg #[.int .i64 base]] w (Made1 w base 0 1) := by
  have hh := heap_new w (.cells #[.int .i64 base] 50)
  have c0 := cell_of hh (i := 0) rfl
  have hb := below_alloc (Below.refl w.heap.size w) (.cells #[.int .i64 base] 50)
  have HC := hide (begin_0 (w.alloc (.cells #[.int .i64 base] 50)) base 0 h)
  have HB := hide hb
  clear hh hb h
  go_enter Try.func26, Try.ntmps26
  go_wp2_with (go_at_call 49; refine HC.out.mono ?_; rintro e w2 ⟨q, rfl, h1, h2, h3⟩; have HE := hide (And.intro h1 (And.intro h2 h3)); clear h1 h2 h3)
  go_ret2
  exact ⟨q, rfl, HE.out.1, by have := HE.out.2.1; have := HB.out.size; omega, below_on HB.out HE.out.2.2⟩
set_option maxRecDepth 100000 in
theorem lower_any (w : World) (base : Int) (h : 0 ≤ base ∧ base ≤ 16777213) : Calls Try.prog 27 #[.agg #[.int .i64 base]] w (Made1 w base 0 2) := by
  have hh := heap_new w (.cells #[.int .i64 base] 50)
  have c0 := cell_of hh (i := 0) rfl
  have hb := below_alloc (Below.refl w.heap.size w) (.cells #[.int .i64 base] 50)
  have HC := hide (begin_1 (w.alloc (.cells #[.int .i64 base] 50)) base 0 h)
  have HB := hide hb
  clear hh hb h
  go_enter Try.func27, Try.ntmps27
  go_wp2_with (go_at_call 49; refine HC.out.mono ?_; rintro e w2 ⟨q, rfl, h1, h2, h3⟩; have HE := hide (And.intro h1 (And.intro h2 h3)); clear h1 h2 h3)
  go_ret2
  exact ⟨q, rfl, HE.out.1, by have := HE.out.2.1; have := HB.out.size; omega, below_on HB.out HE.out.2.2⟩
set_option maxRecDepth 100000 in
theorem ask_any (w : World) (base : Int) (h : 0 ≤ base ∧ base ≤ 16777213) : Calls Try.prog 37 #[.agg #[.int .i64 base]] w (Made1 w base 0 3) := by
  have hh := heap_new w (.cells #[.int .i64 base] 50)
  have c0 := cell_of hh (i := 0) rfl
  have hb := below_alloc (Below.refl w.heap.size w) (.cells #[.int .i64 base] 50)
  have HC := hide (begin_2 (w.alloc (.cells #[.int .i64 base] 50)) base 0 h)
  have HB := hide hb
  clear hh hb h
  go_enter Try.func37, Try.ntmps37
  go_wp2_with (go_at_call 49; refine HC.out.mono ?_; rintro e w2 ⟨q, rfl, h1, h2, h3⟩; have HE := hide (And.intro h1 (And.intro h2 h3)); clear h1 h2 h3)
  go_ret2
  exact ⟨q, rfl, HE.out.1, by have := HE.out.2.1; have := HB.out.size; omega, below_on HB.out HE.out.2.2⟩
set_option maxRecDepth 100000 in
theorem fail_any (w : World) (base code : Int) (h : 0 ≤ base ∧ base ≤ 16777213) (hc : ¬ code = 0) : Calls Try.prog 38 #[.agg #[.int .i64 base], .int .u64 code] w (Made1 w base code 4) := by
  have hh := heap_new w (.cells #[.int .i64 base] 50)
  have c0 := cell_of hh (i := 0) rfl
  have hb := below_alloc (Below.refl w.heap.size w) (.cells #[.int .i64 base] 50)
  have HC := hide (begin_3 (w.alloc (.cells #[.int .i64 base] 50)) base code h)
  have HB := hide hb
  have hcb : (code == 0) = false := by simp [hc]
  clear hh hb h hc
  go_enter Try.func38, Try.ntmps38
  go_wp2_with (go_at_call 49; refine HC.out.mono ?_; rintro e w2 ⟨q, rfl, h1, h2, h3⟩; have HE := hide (And.intro h1 (And.intro h2 h3)); clear h1 h2 h3)
  go_ret2
  exact ⟨q, rfl, HE.out.1, by have := HE.out.2.1; have := HB.out.size; omega, below_on HB.out HE.out.2.2⟩
set_option maxRecDepth 100000 in
theorem fail_zero (w : World) (base : Int) : Calls Try.prog 38 #[.agg #[.int .i64 base], .int .u64 0] w fun e w' => e = .returned (.tuple #[.pointer none, .int .i64 60]) ∧ Below w.heap.size w w' := by
  have HB := hide (below_alloc (Below.refl w.heap.size w) (.cells #[.int .i64 base] 50))
  go_enter Try.func38, Try.ntmps38
  go_wp2_with fail
  go_ret2
  exact ⟨rfl, HB.out⟩
set_option maxRecDepth 100000 in
theorem no_any (e : Int) (w : World) : Calls Try.prog 36 #[.int .i64 e] w fun r w' => r = .returned (.int .i64 e) ∧ w' = w := by
  go_enter Try.func36, Try.ntmps36
  go_wp2
  go_ret
  exact ⟨rfl, rfl⟩
def mkPh (k : Int) : Nat := if k = 1 then 1 else if k = 2 then 2 else if k = 3 then 3 else 4
def mkCode (k c : Int) : Int := if k = 1 ∨ k = 2 ∨ k = 3 then 0 else c
/-- What made has made: an operation, or the refusal of a Fail that tells 0. -/
def MadeM (w : World) (base k c : Int) (e : Ending) (w' : World) : Prop :=
  (mkPh k = 4 ∧ c = 0 ∧ e = .returned (.tuple #[.pointer none, .int .i64 60]) ∧ Below w.heap.size w w') ∨ (¬ (mkPh k = 4 ∧ c = 0) ∧ Made1 w base (mkCode k c) (mkPh k) e w')
set_option maxRecDepth 100000 in
set_option maxHeartbeats 1000000 in
theorem made_any (w : World) (base k c : Int) (h : 0 ≤ base ∧ base ≤ 16777213) : Calls Try.prog 15 #[.agg #[.int .i64 base], .agg #[.int .i64 k, .int .u64 c]] w (MadeM w base k c) := by
  have hb : Below w.heap.size w ((w.alloc (.cells #[.int .i64 base] 50)).alloc (.cells #[.int .i64 k, .int .u64 c] 52)) := below_alloc (below_alloc (Below.refl _ _) _) _
  have h0 : ((w.alloc (.cells #[.int .i64 base] 50)).alloc (.cells #[.int .i64 k, .int .u64 c] 52)).heap[w.heap.size]? = some (.cells #[.int .i64 base] 50 (0, 0)) := heap_old (heap_new _ _) _
  have h1 : ((w.alloc (.cells #[.int .i64 base] 50)).alloc (.cells #[.int .i64 k, .int .u64 c] 52)).heap[w.heap.size + 1]? = some (.cells #[.int .i64 k, .int .u64 c] 52 (0, 0)) := by
    have := heap_new (w.alloc (.cells #[.int .i64 base] 50)) (.cells #[.int .i64 k, .int .u64 c] 52)
    rw [World.size_alloc] at this; exact this
  have c0 := cell_of h0 (i := 0) rfl
  have c1 := cell_of h1 (i := 0) rfl
  have c2 := cell_of h1 (i := 1) rfl
  have HB := hide hb
  have HR := hide (raise_any ((w.alloc (.cells #[.int .i64 base] 50)).alloc (.cells #[.int .i64 k, .int .u64 c] 52)) base h)
  have HL := hide (lower_any ((w.alloc (.cells #[.int .i64 base] 50)).alloc (.cells #[.int .i64 k, .int .u64 c] 52)) base h)
  have HA := hide (ask_any ((w.alloc (.cells #[.int .i64 base] 50)).alloc (.cells #[.int .i64 k, .int .u64 c] 52)) base h)
  have HF := hide (fun hc => fail_any ((w.alloc (.cells #[.int .i64 base] 50)).alloc (.cells #[.int .i64 k, .int .u64 c] 52)) base c h hc)
  have HZ := hide (fail_zero ((w.alloc (.cells #[.int .i64 base] 50)).alloc (.cells #[.int .i64 k, .int .u64 c] 52)) base)
  have fin : ∀ C K e w', Made1 ((w.alloc (.cells #[.int .i64 base] 50)).alloc (.cells #[.int .i64 k, .int .u64 c] 52)) base C K e w' → Made1 w base C K e w' := fun C K e w' ⟨q, a1, a2, a3, a4⟩ => ⟨q, a1, a2, by have := hb.size; omega, below_on hb a4⟩
  clear h hb h0 h1
  by_cases k1 : k = 1
  · subst k1
    have HFN := hide (fin 0 1)
    clear fin
    go_enter Try.func15, Try.ntmps15
    go_wp2_with (first
      | (go_at_call 26; refine HR.out.mono ?_; rintro e w2 ⟨q, rfl, h1, h2, h3⟩; have HE := hide (HFN.out (.returned (.tuple #[.pointer (some ⟨q, 0, none⟩), .int .i64 0])) w2 ⟨q, rfl, h1, h2, h3⟩); clear h1 h2 h3)
      | (go_at_call 36; refine (no_any _ _).mono ?_; rintro e w3 ⟨rfl, rfl⟩)
      | fail)
    go_ret2
    exact .inr ⟨by simp [mkPh], HE.out⟩
  by_cases k2 : k = 2
  · subst k2
    have HFN := hide (fin 0 2)
    clear fin
    go_enter Try.func15, Try.ntmps15
    go_wp2_with (first
      | (go_at_call 27; refine HL.out.mono ?_; rintro e w2 ⟨q, rfl, h1, h2, h3⟩; have HE := hide (HFN.out (.returned (.tuple #[.pointer (some ⟨q, 0, none⟩), .int .i64 0])) w2 ⟨q, rfl, h1, h2, h3⟩); clear h1 h2 h3)
      | (go_at_call 36; refine (no_any _ _).mono ?_; rintro e w3 ⟨rfl, rfl⟩)
      | fail)
    go_ret2
    exact .inr ⟨by simp [mkPh], HE.out⟩
  by_cases k3 : k = 3
  · subst k3
    have HFN := hide (fin 0 3)
    clear fin
    go_enter Try.func15, Try.ntmps15
    go_wp2_with (first
      | (go_at_call 37; refine HA.out.mono ?_; rintro e w2 ⟨q, rfl, h1, h2, h3⟩; have HE := hide (HFN.out (.returned (.tuple #[.pointer (some ⟨q, 0, none⟩), .int .i64 0])) w2 ⟨q, rfl, h1, h2, h3⟩); clear h1 h2 h3)
      | (go_at_call 36; refine (no_any _ _).mono ?_; rintro e w3 ⟨rfl, rfl⟩)
      | fail)
    go_ret2
    exact .inr ⟨by simp [mkPh], HE.out⟩
  have e1 : (k == 1) = false := by simp [k1]
  have e2 : (k == 2) = false := by simp [k2]
  have e3 : (k == 3) = false := by simp [k3]
  have hph : mkPh k = 4 := by simp [mkPh, k1, k2, k3]
  have hcd : mkCode k c = c := by simp [mkCode, k1, k2, k3]
  have HPH := hide (And.intro hph hcd)
  clear k1 k2 k3 hph hcd
  by_cases hc : c = 0
  · subst hc
    go_enter Try.func15, Try.ntmps15
    go_wp2_with (first
      | (go_at_call 38; refine HZ.out.mono ?_; rintro e w2 ⟨rfl, h1⟩; have HE := hide (below_on HB.out h1); clear h1)
      | (go_at_call 36; refine (no_any _ _).mono ?_; rintro e w3 ⟨rfl, rfl⟩)
      | fail)
    go_ret2
    exact .inl ⟨HPH.out.1, rfl, rfl, HE.out⟩
  · have HCC := hide hc
    have HFN := hide (fin c 4)
    clear fin hc
    go_enter Try.func15, Try.ntmps15
    go_wp2_with (first
      | (go_at_call 38; refine (HF.out HCC.out).mono ?_; rintro e w2 ⟨q, rfl, h1, h2, h3⟩; have HE := hide (HFN.out (.returned (.tuple #[.pointer (some ⟨q, 0, none⟩), .int .i64 0])) w2 ⟨q, rfl, h1, h2, h3⟩); clear h1 h2 h3)
      | (go_at_call 36; refine (no_any _ _).mono ?_; rintro e w3 ⟨rfl, rfl⟩)
      | fail)
    go_ret2
    exact .inr ⟨fun hh => HCC.out hh.2, by rw [HPH.out.1, HPH.out.2]; exact HE.out⟩
/-- A port with a grant. -/
def GrP (w w' : World) (Y b gc : Nat) (lv : Value) (s : Ast) (who : Int) (p : Nat) : Prop :=
  AIs w' Y b gc lv s ∧ w'.heap[p]? = some (PObj b who true) ∧ w.heap.size ≤ p ∧ lv.ownBlock ≠ some p ∧ Chg (fun k => k = b) w w'
set_option maxRecDepth 100000 in
theorem granted_any (w : World) (Y b gc : Nat) (lv : Value) (s : Ast) (who : Int) (h : AIs w Y b gc lv s) (hw : 0 ≤ who) : Calls Try.prog 10 #[.pointer (some ⟨b, 0, none⟩), .int .i64 who] w fun e w' => ∃ p, e = .returned (.pointer (some ⟨p, 0, none⟩)) ∧ GrP w w' Y b gc lv s who p := by
  have hb : Below w.heap.size w (w.alloc (PObj b who false)) := below_alloc (Below.refl _ _) _
  have hlt := lt_of_heap h.hb
  have hgt := lt_of_heap h.hc
  have hlv : lv.ownBlock ≠ some w.heap.size := fun e => by have := (owns_lt h.hl e).2; omega
  have HP := hide (port_any b who w hw)
  have HG := hide (grant_any w.heap.size Y b gc lv s who false (w.alloc (PObj b who false)) (h.below hb) (heap_new _ _) (by omega) (by omega) hlv)
  have HL := hide hlv
  clear h hb hw hlt hgt hlv
  go_enter Try.func10, Try.ntmps10
  go_wp2_with (first
    | (go_at_call 31; refine HP.out.mono ?_; rintro e w1 ⟨rfl, rfl⟩)
    | (go_at_call 32; refine HG.out.mono ?_; rintro e w2 ⟨rfl, h1, h2, h3, h4⟩; have H1 := hide h1; have H2 := hide h2; have H3 := hide h3; clear h1 h2 h3 h4)
    | fail)
  go_ret
  refine ⟨_, rfl, H1.out, H2.out, Nat.le_refl _, HL.out, ?_⟩
  have k := H3.out
  refine ⟨k.os, k.tape, k.output, by have := k.size; simp at this; omega, fun j hj hb => ?_⟩
  rw [k.block j (by simp; omega) (fun e => by rcases e with e | e; exact hb e; omega), Below.heap_alloc _ _ _ hj]
end Go.Proofs.Ytabmmjhcfhplnaa
