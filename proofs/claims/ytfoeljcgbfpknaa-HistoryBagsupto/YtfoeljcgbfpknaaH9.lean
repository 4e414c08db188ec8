/- The program's insertedTwice, with its map of tasks. -/
import Derived.Test.YtfoeljcgbfpknaaH8
import Derived.Test.YtfoeljcgbfpknaaOp
import Derived.DeepKeys5
import Derived.Maps.Own
import Derived.Maps.OwnOps
import Derived.Maps.OwnSet
import Derived.Maps.Views
import Derived.Deep.Cut
namespace Go.Proofs.Ytfoeljcgbfpknaa
open Go.RowKit Go.Lib Go.Maps
set_option linter.unusedVariables false
set_option linter.unusedSimpArgs false
theorem laidOutK : laidOutB Try.prog = true := by kernel_rfl
theorem law67 : Keyed Try.prog 67 := Keyed.of_law (deep_law_gate laidOutK (of_decide_eq_true (by kernel_rfl)) (of_decide_eq_true (by kernel_rfl)) (by kernel_rfl) (by kernel_rfl))
/-- A task as a key. -/
def tk (a b : Int) : Lit := .string (keyBytes [.int .u64 a, .int .u64 b])
theorem typesN : ∃ k, Try.prog.types.size = k + 1 := ⟨Try.prog.types.size - 1, by have : 0 < Try.prog.types.size := of_decide_eq_true (by kernel_rfl); omega⟩
theorem keyType67 : Try.prog.keyType 67 = true := by kernel_rfl
theorem cells67 : Try.prog.cellsOf 67 = 2 := by kernel_rfl
theorem cells65 : Try.prog.cellsOf 65 = 1 := by kernel_rfl
theorem key_task {a b : Int} (ha : (Lit.int .u64 a).wf = true) (hb : (Lit.int .u64 b).wf = true) : keyOf Try.prog 67 (.agg #[.int .u64 a, .int .u64 b]) = some (tk a b) := by
  obtain ⟨k, hk⟩ := typesN
  unfold keyOf
  simp only [Try.underlying67, hk]
  simp [keyType67, Value.formed, Try.underlying67, cells67, Program.keyLits, Value.cells, cells65, Try.underlying65, ha, hb, tk, List.range_succ]
theorem tk_inj {a b c d : Int} (ha : (Lit.int .u64 a).wf = true) (hb : (Lit.int .u64 b).wf = true) (hc : (Lit.int .u64 c).wf = true) (hd : (Lit.int .u64 d).wf = true) (h : tk a b = tk c d) : a = c ∧ b = d := by
  have h1 := key_task ha hb
  have h2 := key_task hc hd
  rw [h] at h1
  have := law67.inj h1 h2
  simpa using this
/-- Tasks that are tasks. -/
def Tok (l : List Sp) : Prop := ∀ i, i < l.length → (Lit.int .u64 (spAt l i).key).wf = true ∧ (Lit.int .u64 (spAt l i).load).wf = true
/-- A map of tasks in memory: which ones it has. -/
def MpT (W : World) (B n : Nat) (f : Int → Int → Prop) : Prop :=
  ∃ D : DataW Unit, W.ownsMap Try.prog 67 (plainElem Try.prog 3) B n D ∧ ∀ a b : Int, (Lit.int .u64 a).wf = true → (Lit.int .u64 b).wf = true → (has D (tk a b) = true ↔ f a b)
theorem mpT_start (w : World) : MpT (w.alloc (.map #[] 0)) w.heap.size 0 (fun _ _ => False) :=
  ⟨_, World.ownsMap_made _ _ _ _, fun a b _ _ => ⟨fun h => by simp [has] at h, fun h => h.elim⟩⟩
section
variable {W W' : World} {B n : Nat} {f g : Int → Int → Prop}
theorem MpT.lt (h : MpT W B n f) : B < W.heap.size := by obtain ⟨D, h1, _⟩ := h; exact h1.lt
theorem MpT.stay (h : MpT W B n f) (hb : W'.heap[B]? = W.heap[B]?) : MpT W' B n f := by
  obtain ⟨D, ⟨es, clock, h1, r⟩, h2⟩ := h
  exact ⟨D, ⟨es, clock, hb.trans h1, r⟩, h2⟩
theorem MpT.below (h : MpT W B n f) (hb : Below W.heap.size W W') : MpT W' B n f := h.stay (hb.block B h.lt)
theorem MpT.congr (h : MpT W B n f) (hn : ∀ a b, g a b ↔ f a b) {m : Nat} (hm : n ≤ m) : MpT W B m g := by
  obtain ⟨D, h1, h2⟩ := h
  exact ⟨D, h1.mono hm, fun a b ha hb => (h2 a b ha hb).trans (hn a b).symm⟩
set_option maxRecDepth 100000 in
/-- m[task] with ok. -/
theorem MpT.look (h : MpT W B n f) {a b : Int} (ha : (Lit.int .u64 a).wf = true) (hb : (Lit.int .u64 b).wf = true) : ∃ (x : Int) (q : Bool), (Instr.lookup 101 (.map (some B)) (.agg #[.int .u64 a, .int .u64 b]) true).run Try.prog W = .ok (.tuple #[.int .i64 x, .bool q]) W ∧ (q = true ↔ f a b) := by
  obtain ⟨D, h1, h2⟩ := h
  obtain ⟨v, ps, hr, hv⟩ := h1.look_ok law67 Try.underlying101 (zero3 W) (plainElem_int Try.underlying3 (by decide)) (key_task ha hb)
  obtain ⟨x, rfl, hx, _⟩ := plainElem_int_inv Try.underlying3 hv
  exact ⟨x, _, hr, h2 a b ha hb⟩
set_option maxRecDepth 100000 in
/-- m[task] = x. -/
theorem MpT.put (h : MpT W B n f) {a b : Int} (ha : (Lit.int .u64 a).wf = true) (hb : (Lit.int .u64 b).wf = true) (hn : n ≤ 140737488351232) {x : Int} (hx : (Lit.int .i64 x).wf = true) : ∃ W', (Instr.mapUpdate 101 (.map (some B)) (.agg #[.int .u64 a, .int .u64 b]) (.int .i64 x)).run Try.prog W = .ok () W' ∧ MpT W' B (n + 1) (fun c d => (c = a ∧ d = b) ∨ f c d) ∧ W.grownBy W' (some B) := by
  obtain ⟨D, h1, h2⟩ := h
  have hkey := key_task ha hb
  obtain ⟨W', hr, ho, hg⟩ := h1.update law67 Try.underlying101 (by unfold maxLen; omega) hkey (plainElem_int Try.underlying3 hx)
  have hi := h1.isMap
  have hk := law67.key hkey
  refine ⟨W', hr, ⟨_, ho, fun c d hc hd => ?_⟩, hg⟩
  by_cases e : c = a ∧ d = b
  · obtain ⟨rfl, rfl⟩ := e
    rw [has_put_same hi hk]
    simp
  · have hne : tk c d ≠ tk a b := fun he => e (tk_inj hc hd ha hb he)
    rw [has_put_other hne, h2 c d hc hd]
    simp [e]
end
/-- The tasks put so far. -/
def PutS (l : List Sp) (i : Nat) (a b : Int) : Prop := ∃ k, k < i ∧ putP (spAt l k) = true ∧ (spAt l k).key = a ∧ (spAt l k).load = b
theorem PutS.zero {l : List Sp} {a b : Int} : PutS l 0 a b ↔ False := ⟨fun ⟨k, h, _⟩ => by omega, fun h => h.elim⟩
theorem PutS.skip {l : List Sp} {i : Nat} (h : putP (spAt l i) = false) (a b : Int) : PutS l (i + 1) a b ↔ PutS l i a b := by
  constructor
  · rintro ⟨k, h1, h2, h3⟩
    by_cases e : k = i
    · subst e; rw [h] at h2; cases h2
    · exact ⟨k, by omega, h2, h3⟩
  · rintro ⟨k, h1, h2⟩; exact ⟨k, by omega, h2⟩
theorem PutS.step {l : List Sp} {i : Nat} (h : putP (spAt l i) = true) (a b : Int) : PutS l (i + 1) a b ↔ (a = (spAt l i).key ∧ b = (spAt l i).load) ∨ PutS l i a b := by
  constructor
  · rintro ⟨k, h1, h2, h3, h4⟩
    by_cases e : k = i
    · subst e; exact .inl ⟨h3.symm, h4.symm⟩
    · exact .inr ⟨k, by omega, h2, h3, h4⟩
  · rintro (⟨rfl, rfl⟩ | ⟨k, h1, h2⟩)
    · exact ⟨i, by omega, h, rfl, rfl⟩
    · exact ⟨k, by omega, h2⟩
/-- insertedTwice under way. -/
structure TwG (w wr : World) (l : List Sp) (i : Nat) : Prop where
  bel : Below w.heap.size w wr
  mp : MpT wr w.heap.size i (PutS l i)
  no : ∀ a k, a < i → k < a → ¬ (putP (spAt l a) = true ∧ putP (spAt l k) = true ∧ (spAt l a).key = (spAt l k).key ∧ (spAt l a).load = (spAt l k).load)
/-- Two insertions with one task, for the program. -/
def TwP (l : List Sp) (a k : Nat) : Prop := putP (spAt l a) = true ∧ putP (spAt l k) = true ∧ (spAt l a).key = (spAt l k).key ∧ (spAt l a).load = (spAt l k).load
def ItP (l : List Sp) (w : World) (x : Ending) (w' : World) : Prop := Below w.heap.size w w' ∧ ∃ b : Bool, x = .returned (.bool b) ∧ (b = true ↔ ∃ i k, i < l.length ∧ k < i ∧ TwP l i k)
theorem ItP.yes {l : List Sp} {w w' : World} {x : Ending} (h1 : Below w.heap.size w w') (h2 : x = .returned (.bool true)) (h3 : ∃ i k, i < l.length ∧ k < i ∧ TwP l i k) : ItP l w x w' := ⟨h1, true, h2, fun _ => h3, fun _ => rfl⟩
theorem ItP.not {l : List Sp} {w w' : World} {x : Ending} (h1 : Below w.heap.size w w') (h2 : x = .returned (.bool false)) (h3 : ∀ i k, i < l.length → k < i → ¬ TwP l i k) : ItP l w x w' := ⟨h1, false, h2, fun h => (by cases h), fun ⟨i, k, a, b, c⟩ => (h3 i k a b c).elim⟩
section
variable {w wr X : World} {l : List Sp} {i : Nat}
theorem TwG.on (h : TwG w wr l i) (hb : Below wr.heap.size wr X) : TwG w X l i := ⟨below_on h.bel hb, h.mp.below hb, h.no⟩
theorem TwG.skip (h : TwG w wr l i) (hp : putP (spAt l i) = false) : TwG w wr l (i + 1) :=
  ⟨h.bel, h.mp.congr (PutS.skip hp) (Nat.le_succ _), fun a k ha hk => by
    by_cases e : a = i
    · subst e; rintro ⟨q, _⟩; rw [hp] at q; cases q
    · exact h.no a k (by omega) hk⟩
theorem TwG.put (h : TwG w wr l i) (hp : putP (spAt l i) = true) (hn : ¬ PutS l i (spAt l i).key (spAt l i).load) (hg : wr.grownBy X (some w.heap.size)) (hm : MpT X w.heap.size (i + 1) (fun c d => (c = (spAt l i).key ∧ d = (spAt l i).load) ∨ PutS l i c d)) : TwG w X l (i + 1) :=
  ⟨h.bel.grown hg h.bel.size (fun j hj => by cases hj; exact Nat.le_refl _), hm.congr (PutS.step hp) (Nat.le_refl _), fun a k ha hk => by
    by_cases e : a = i
    · subst e; rintro ⟨_, q1, q2, q3⟩; exact hn ⟨k, hk, q1, q2.symm, q3.symm⟩
    · exact h.no a k (by omega) hk⟩
end
set_option maxRecDepth 100000 in
set_option maxHeartbeats 4000000 in
theorem insertedTwice_any (v : Value) (l : List Sp) (w : World) (h : RAt Sp.arr 7 w v l) (ht : Tok l) (hl : l.length ≤ 140737488351232) : Calls Try.prog 57 #[v] w (ItP l w) := by
  obtain ⟨ao, cap, rfl, hcap, h63⟩ := h.shape
  have H := hide h
  have HT := hide ht
  obtain ⟨n, hn⟩ : ∃ n, n = l.length := ⟨_, rfl⟩
  have HN := hide hn
  rw [← hn] at hcap H hl ⊢
  clear h hn ht
  have hmm := @run_makeMap Try.prog
  have HL0 : Hid (TwG w (w.alloc (.map #[] 0)) l 0) := ⟨below_alloc (Below.refl _ _) _, (mpT_start w).congr (fun a b => PutS.zero) (Nat.le_refl _), fun a k ha => by omega⟩
  go_enter Try.func57, Try.ntmps57
  go_wp2_with fail
  clear hmm
  go_loopw [2, 11] (fun va t wr => ∃ i : Nat, i ≤ n ∧ va = .bool false ∧ t = .int .i64 (i : Int) ∧ TwG w wr l i) (fun _ t _ => n - (RowKit.intOf t).toNat)
  case atStart => exact ⟨0, Nat.zero_le _, rfl, rfl, HL0.out⟩
  case round =>
    clear HL0
    obtain ⟨i, hin, rfl, rfl, hlg⟩ := hrel
    have HLG := hide hlg
    clear hlg
    by_cases hlt : i < n
    · have hli : (i : Int) < (n : Int) := by omega
      obtain ⟨gs, os, rfl, hgs, i0, i1, i2, i3, i4, i5, i6⟩ := sp_cells (H.out.below HLG.out.bel) i (by rw [← HN.out]; exact hlt)
      have HPI := hide (fun W => puts_any (spAt l i) W)
      obtain ⟨hk1, hk2⟩ := HT.out i (by rw [← HN.out]; exact hlt)
      have HPB : Hid (∀ X, TwG w X l i → putP (spAt l i) = false → TwG w X l (i + 1)) := fun X a b => a.skip b
      have HPG : Hid (∀ X Y, TwG w X l i → putP (spAt l i) = true → ¬ PutS l i (spAt l i).key (spAt l i).load → X.grownBy Y (some w.heap.size) → MpT Y w.heap.size (i + 1) (fun c d => (c = (spAt l i).key ∧ d = (spAt l i).load) ∨ PutS l i c d) → TwG w Y l (i + 1)) := fun X Y a b c d e => a.put b c d e
      have HPY : Hid (putP (spAt l i) = true → PutS l i (spAt l i).key (spAt l i).load → ∃ i k, i < l.length ∧ k < i ∧ TwP l i k) := fun a ⟨k, b, c, d, e⟩ => ⟨i, k, by rw [← HN.out]; exact hlt, b, a, c, d.symm, e.symm⟩
      generalize spAt l i = si at i0 i1 i2 i3 i4 i5 i6 HPI hk1 hk2 HPB HPG HPY
      obtain ⟨who, ins, key, load, beg, en, kind⟩ := si
      unfold Sp.arr at HPI
      simp only at i0 i1 i2 i3 i4 i5 i6 HPI hk1 hk2 HPB HPG HPY
      generalize putP ⟨who, ins, key, load, beg, en, kind⟩ = pi at HPI HPB HPG HPY
      have HK1 := hide hk1; have HK2 := hide hk2
      obtain ⟨X, hX⟩ : ∃ X, X = wr.alloc (.cells #[.int .i64 who, .bool ins, .int .u64 key, .int .u64 load, .int .i64 beg, .int .i64 en, .int .i64 kind] 69) := ⟨_, rfl⟩
      have HBX : Hid (Below wr.heap.size wr X) := by rw [hX]; exact below_alloc (Below.refl _ _) _
      have HQX : Hid (X.heap[wr.heap.size]? = some (.cells #[.int .i64 who, .bool ins, .int .u64 key, .int .u64 load, .int .i64 beg, .int .i64 en, .int .i64 kind] 69 (0, 0))) := by rw [hX]; exact heap_new _ _
      clear hk1 hk2
      cases pi with
      | false =>
        go_wp2_with (first
          | (go_at_call 68; refine (HPI.out _).mono ?_; rintro e w5 ⟨rfl, hb⟩; rw [← hX] at hb; have HLX := hide ((HLG.out.on HBX.out).on hb); clear hb i0 i1 i2 i3 i4 i5 i6)
          | fail)
        have HN2 := hide (HPB.out _ HLX.out (by simp))
        exact ⟨⟨i + 1, by omega, rfl, by simp, HN2.out⟩, by simp [RowKit.intOf]; omega⟩
      | true =>
        have HFR : Hid (w.heap.size < wr.heap.size) := HLG.out.mp.lt
        go_upto_region 6 with (first
          | (go_at_call 68; refine (HPI.out _).mono ?_; rintro e w5 ⟨rfl, hb⟩; rw [← hX] at hb; have HLX := hide ((HLG.out.on HBX.out).on hb); have HQ5 := hide ((hb.block _ (lt_of_heap HQX.out)).trans HQX.out); clear hb i0 i1 i2 i3 i4 i5 i6)
          | fail)
        obtain ⟨B, hBr⟩ : ∃ B, B = wr.heap.size := ⟨_, rfl⟩
        rw [← hBr] at HQ5 HFR ⊢
        clear hX HBX HQX HPI HLG hBr hgs
        have z2 := cell_of HQ5.out (i := 2) rfl
        have z3 := cell_of HQ5.out (i := 3) rfl
        obtain ⟨x, q, hlk, hq⟩ := HLX.out.mp.look HK1.out HK2.out
        cases q with
        | true =>
          have HY := hide (HPY.out (by simp) (hq.1 rfl))
          clear HPY HPB HPG hq
          go_wp2_with fail
          go_ret
          exact ItP.yes HLX.out.bel rfl HY.out
        | false =>
          have hnp : ¬ PutS l i key load := fun a => by have := hq.2 a; cases this
          obtain ⟨W9, hup, hmp9, hgr9⟩ := HLX.out.mp.put (x := (i : Int)) HK1.out HK2.out (by omega) (WalkArith.wf_i64 ⟨by omega, by omega⟩)
          have HN2 := hide (HPG.out _ _ HLX.out (by simp) hnp hgr9 hmp9)
          clear HPY HPB HPG hq hnp hmp9 hgr9
          go_wp2_with fail
          exact ⟨⟨i + 1, by omega, rfl, by simp, HN2.out⟩, by simp [RowKit.intOf]; omega⟩
    · obtain rfl : n = i := by omega
      have HR : Hid (∀ i k, i < l.length → k < i → ¬ TwP l i k) := fun a k ha hk => HLG.out.no a k (by rw [HN.out]; exact ha) hk
      go_wp2_with fail
      go_ret
      exact ItP.not HLG.out.bel rfl HR.out
end Go.Proofs.Ytfoeljcgbfpknaa
