import Derived.Test.YtiohimbifjlfdaaRB
import Derived.DeepKeys5
import Derived.Maps.Own
import Derived.Maps.OwnOps
import Derived.Maps.OwnSet
import Derived.Maps.Views
import Derived.Maps.RangeWalk
import Derived.Test.YtiohimbifjlfdaaPc
import Derived.Deep.Cut
/- Maps from pairs of parts to weights. -/
namespace Go.Proofs.Ytiohimbifjlfdaa
open Go.RowKit Go.Lib Go.Maps
set_option linter.unusedVariables false
set_option linter.unusedSimpArgs false
theorem laidOutK : laidOutB Try.prog = true := by kernel_rfl
theorem law107 : Keyed Try.prog 84 := Keyed.of_law (deep_law_gate laidOutK (of_decide_eq_true (by kernel_rfl)) (of_decide_eq_true (by kernel_rfl)) (by kernel_rfl) (by kernel_rfl))
theorem zero58 (w : World) : (zeroValue 46).run Try.prog w = .ok (.int .u64 0) w := by kernel_rfl
/-- A pair as a key. -/
def pk (a b : Int) : Lit := .string (keyBytes [.int .i64 a, .int .i64 b])
theorem typesN : ∃ k, Try.prog.types.size = k + 1 := ⟨Try.prog.types.size - 1, by have : 0 < Try.prog.types.size := of_decide_eq_true (by kernel_rfl); omega⟩
theorem keyType107 : Try.prog.keyType 84 = true := by kernel_rfl
theorem cells107 : Try.prog.cellsOf 84 = 2 := by kernel_rfl
theorem cells3 : Try.prog.cellsOf 3 = 1 := by kernel_rfl
theorem key_pair {a b : Int} (ha : (Lit.int .i64 a).wf = true) (hb : (Lit.int .i64 b).wf = true) : keyOf Try.prog 84 (.agg #[.int .i64 a, .int .i64 b]) = some (pk a b) := by
  obtain ⟨k, hk⟩ := typesN
  unfold keyOf
  simp only [Try.underlying84, hk]
  simp [keyType107, Value.formed, Try.underlying84, cells107, Program.keyLits, Value.cells, cells3, Try.underlying3, ha, hb, pk, List.range_succ]
theorem two_of {l : List Value} (h : l.length = 2) : ∃ x y, l = [x, y] := by
  match l, h with
  | [x, y], _ => exact ⟨x, y, rfl⟩
set_option maxRecDepth 100000 in
theorem key_pair_inv {v : Value} {kl : Lit} (h : keyOf Try.prog 84 v = some kl) : ∃ a b, v = .agg #[.int .i64 a, .int .i64 b] ∧ kl = pk a b ∧ (Lit.int .i64 a).wf = true ∧ (Lit.int .i64 b).wf = true := by
  obtain ⟨k, hk⟩ := typesN
  unfold keyOf at h
  simp only [Try.underlying84, hk] at h
  cases v with
  | agg cs =>
    simp only [keyType107, Value.formed, Try.underlying84, cells107, Bool.true_and] at h
    split at h
    · rename_i hc
      have hs : cs.size = 2 := by simpa using hc
      obtain ⟨l, rfl⟩ : ∃ l, cs = l.toArray := ⟨cs.toList, by simp⟩
      obtain ⟨x, y, rfl⟩ := two_of (by simpa using hs : l.length = 2)
      simp only [Program.keyLits, Try.underlying84, Value.cells, cells107, cells3, List.range_succ, List.range_zero, List.nil_append, List.cons_append, List.length_cons, List.length_nil, Nat.zero_add, Nat.reduceAdd, if_true, List.mapM_cons, List.mapM_nil, Nat.zero_mul, Nat.one_mul, List.drop_zero, List.drop_succ_cons, List.take_succ_cons, List.take_zero, Try.underlying3] at h
      by_cases hx : ∃ a, x = .int .i64 a ∧ (Lit.int .i64 a).wf = true
      · obtain ⟨a, rfl, h1⟩ := hx
        by_cases hy : ∃ b, y = .int .i64 b ∧ (Lit.int .i64 b).wf = true
        · obtain ⟨b, rfl, h2⟩ := hy
          simp [h1, h2] at h
          exact ⟨a, b, rfl, h.symm, h1, h2⟩
        · exfalso
          cases y with
          | int q b =>
            have : ¬ (q = .i64 ∧ (Lit.int .i64 b).wf = true) := fun hc => hy ⟨b, by rw [hc.1], hc.2⟩
            simp [h1, this] at h
          | _ => simp [h1] at h
      · exfalso
        cases x with
        | int q a =>
          have : ¬ (q = .i64 ∧ (Lit.int .i64 a).wf = true) := fun hc => hx ⟨a, by rw [hc.1], hc.2⟩
          simp [this] at h
        | _ => simp at h
    · cases h
  | _ => simp [keyType107, Value.formed, Try.underlying84] at h
/-- The lightest of the first edges from one part to another. -/
def lwt (F T : Nat → Nat) (Wt : Nat → Int) : Nat → Nat → Nat → Option Int
  | 0, _, _ => none
  | k + 1, p, q => if F k = p ∧ T k = q ∧ p ≠ q then (match lwt F T Wt k p q with | none => some (Wt k) | some x => if Wt k < x then some (Wt k) else some x) else lwt F T Wt k p q
section
variable {F T : Nat → Nat} {Wt : Nat → Int} {k p q : Nat}
theorem lwt_other (h : ¬ (F k = p ∧ T k = q ∧ p ≠ q)) : lwt F T Wt (k + 1) p q = lwt F T Wt k p q := by
  show (if _ then _ else _) = _
  rw [if_neg h]
theorem lwt_new (hne : F k ≠ T k) (h : lwt F T Wt k (F k) (T k) = none) : lwt F T Wt (k + 1) (F k) (T k) = some (Wt k) := by
  show (if _ then _ else _) = _
  rw [if_pos ⟨rfl, rfl, hne⟩, h]
theorem lwt_less {x : Int} (hne : F k ≠ T k) (h : lwt F T Wt k (F k) (T k) = some x) (hx : Wt k < x) : lwt F T Wt (k + 1) (F k) (T k) = some (Wt k) := by
  show (if _ then _ else _) = _
  rw [if_pos ⟨rfl, rfl, hne⟩, h]
  show (if Wt k < x then _ else _) = _
  rw [if_pos hx]
theorem lwt_more {x : Int} (hne : F k ≠ T k) (h : lwt F T Wt k (F k) (T k) = some x) (hx : ¬ Wt k < x) : lwt F T Wt (k + 1) (F k) (T k) = some x := by
  show (if _ then _ else _) = _
  rw [if_pos ⟨rfl, rfl, hne⟩, h]
  show (if Wt k < x then _ else _) = _
  rw [if_neg hx]
theorem lwt_step_eq (h : F k = T k) : lwt F T Wt (k + 1) = lwt F T Wt k := by
  funext a b
  exact lwt_other (fun hc => hc.2.2 (by rw [← hc.1, ← hc.2.1]; exact h))
theorem lwt_step_none {P Q : Nat} (hF : F k = P) (hT : T k = Q) (hne : P ≠ Q) (h : lwt F T Wt k P Q = none) : lwt F T Wt (k + 1) = fun a b => if a = P ∧ b = Q then some (Wt k) else lwt F T Wt k a b := by
  subst hF hT
  funext a b
  by_cases hab : a = F k ∧ b = T k
  · rw [if_pos hab, hab.1, hab.2]; exact lwt_new hne h
  · rw [if_neg hab]; exact lwt_other (fun hc => hab ⟨hc.1.symm, hc.2.1.symm⟩)
theorem lwt_step_less {P Q : Nat} {x : Int} (hF : F k = P) (hT : T k = Q) (hne : P ≠ Q) (h : lwt F T Wt k P Q = some x) (hx : Wt k < x) : lwt F T Wt (k + 1) = fun a b => if a = P ∧ b = Q then some (Wt k) else lwt F T Wt k a b := by
  subst hF hT
  funext a b
  by_cases hab : a = F k ∧ b = T k
  · rw [if_pos hab, hab.1, hab.2]; exact lwt_less hne h hx
  · rw [if_neg hab]; exact lwt_other (fun hc => hab ⟨hc.1.symm, hc.2.1.symm⟩)
theorem lwt_step_more {P Q : Nat} {x : Int} (hF : F k = P) (hT : T k = Q) (hne : P ≠ Q) (h : lwt F T Wt k P Q = some x) (hx : ¬ Wt k < x) : lwt F T Wt (k + 1) = lwt F T Wt k := by
  subst hF hT
  funext a b
  by_cases hab : a = F k ∧ b = T k
  · rw [hab.1, hab.2, h]; exact lwt_more hne h hx
  · exact lwt_other (fun hc => hab ⟨hc.1.symm, hc.2.1.symm⟩)
theorem lwt_val (h : lwt F T Wt k p q ≠ none) : p ≠ q ∧ ∃ i, i < k ∧ F i = p ∧ T i = q ∧ lwt F T Wt k p q = some (Wt i) := by
  induction k with
  | zero => exact absurd rfl h
  | succ k ih =>
    by_cases hc : F k = p ∧ T k = q ∧ p ≠ q
    · obtain ⟨rfl, rfl, hne⟩ := hc
      refine ⟨hne, ?_⟩
      cases hk : lwt F T Wt k (F k) (T k) with
      | none => exact ⟨k, by omega, rfl, rfl, lwt_new hne hk⟩
      | some x =>
        by_cases hx : Wt k < x
        · exact ⟨k, by omega, rfl, rfl, lwt_less hne hk hx⟩
        · obtain ⟨_, i, h1, h2, h3, h4⟩ := ih (by rw [hk]; simp)
          exact ⟨i, by omega, h2, h3, by rw [lwt_more hne hk hx, ← hk, h4]⟩
    · rw [lwt_other hc] at h ⊢
      obtain ⟨h0, i, h1, h2, h3, h4⟩ := ih h
      exact ⟨h0, i, by omega, h2, h3, h4⟩
end
theorem wf_small {a : Nat} (h : a ≤ 1048576) : (Lit.int .i64 (a : Int)).wf = true := WalkArith.wf_i64 ⟨by omega, by omega⟩
theorem pk_inj {a b c d : Nat} (ha : a ≤ 1048576) (hb : b ≤ 1048576) (hc : c ≤ 1048576) (hd : d ≤ 1048576) (h : pk a b = pk c d) : a = c ∧ b = d := by
  have h1 := key_pair (wf_small ha) (wf_small hb)
  have h2 := key_pair (wf_small hc) (wf_small hd)
  rw [h] at h1
  have := law107.inj h1 h2
  simp only [Value.agg.injEq, Array.mk.injEq, List.cons.injEq, Value.int.injEq, true_and, and_true] at this
  omega
/-- A map in memory, of c parts. -/
def MpP (W : World) (B n c : Nat) (f : Nat → Nat → Option Int) : Prop :=
  ∃ D : DataW Unit, W.ownsMap Try.prog 84 (plainElem Try.prog 46) B n D ∧ (∀ p q : Nat, p < c → q < c → has D (pk p q) = (f p q).isSome ∧ ∀ x, f p q = some x → ∀ zd, D.atKey (pk p q) zd = .lit (.int .u64 x)) ∧ ∀ kl, has D kl = true → ∃ p q : Nat, p < c ∧ q < c ∧ kl = pk p q
theorem mpP_start (w : World) (c : Nat) : MpP (w.alloc (.map #[] 0)) w.heap.size 0 c (fun _ _ => none) :=
  ⟨_, World.ownsMap_made _ _ _ _, fun p q _ _ => ⟨rfl, fun x h => by cases h⟩, fun kl h => by simp [has] at h⟩
section
variable {W W' : World} {B n c : Nat} {f g : Nat → Nat → Option Int}
theorem MpP.lt (h : MpP W B n c f) : B < W.heap.size := by obtain ⟨D, h1, _⟩ := h; exact h1.lt
theorem MpP.stay (h : MpP W B n c f) (hb : W'.heap[B]? = W.heap[B]?) : MpP W' B n c f := by
  obtain ⟨D, ⟨es, clock, h1, r⟩, h2⟩ := h
  exact ⟨D, ⟨es, clock, hb.trans h1, r⟩, h2⟩
theorem MpP.congr (h : MpP W B n c f) (hn : ∀ p q, p < c → q < c → g p q = f p q) {m : Nat} (hm : n ≤ m) : MpP W B m c g := by
  obtain ⟨D, h1, h2, h3⟩ := h
  exact ⟨D, h1.mono hm, fun p q hp hq => by rw [hn p q hp hq]; exact h2 p q hp hq, h3⟩
set_option maxRecDepth 100000 in
/-- m[p] with ok. -/
theorem MpP.look (h : MpP W B n c f) {p q : Nat} (hp : p < c) (hq : q < c) (hc : c ≤ 1048576) : ∃ x : Int, (Instr.lookup 58 (.map (some B)) (.agg #[.int .i64 (p : Int), .int .i64 (q : Int)]) true).run Try.prog W = .ok (.tuple #[.int .u64 x, .bool (f p q).isSome]) W ∧ ∀ y, f p q = some y → x = y := by
  obtain ⟨D, h1, h2, h3⟩ := h
  obtain ⟨v, ps, hr, hv⟩ := h1.look_ok law107 Try.underlying58 (zero58 W) (plainElem_int Try.underlying46 (by decide)) (key_pair (wf_small (by omega : p ≤ 1048576)) (wf_small (by omega : q ≤ 1048576)))
  obtain ⟨x, rfl, hx, _⟩ := plainElem_int_inv Try.underlying46 hv
  obtain ⟨h4, h5⟩ := h2 p q hp hq
  rw [h4] at hr
  refine ⟨x, hr, fun y hy => ?_⟩
  have h6 := h5 y hy (.lit (.int .u64 0))
  simp only [Prod.mk.injEq] at hx
  rw [h6] at hx
  have := hx.1
  injection this with this
  injection this with _ this
  exact this.symm
set_option maxRecDepth 100000 in
/-- m[p] = x. -/
theorem MpP.put (h : MpP W B n c f) {p q : Nat} (hp : p < c) (hq : q < c) (hc : c ≤ 1048576) (hn : n ≤ 4194304) {x : Int} (hx : (Lit.int .u64 x).wf = true) : ∃ W', (Instr.mapUpdate 58 (.map (some B)) (.agg #[.int .i64 (p : Int), .int .i64 (q : Int)]) (.int .u64 x)).run Try.prog W = .ok () W' ∧ MpP W' B (n + 1) c (fun a b => if a = p ∧ b = q then some x else f a b) ∧ W.grownBy W' (some B) := by
  obtain ⟨D, h1, h2, h3⟩ := h
  have hkey := key_pair (wf_small (by omega : p ≤ 1048576)) (wf_small (by omega : q ≤ 1048576))
  obtain ⟨W', hr, ho, hg⟩ := h1.update law107 Try.underlying58 (by unfold maxLen; omega) hkey (plainElem_int Try.underlying46 hx)
  have hi := h1.isMap
  have hk := law107.key hkey
  refine ⟨W', hr, ⟨_, ho, fun a b ha hb => ?_, fun kl hkl => ?_⟩, hg⟩
  · by_cases e : a = p ∧ b = q
    · obtain ⟨rfl, rfl⟩ := e
      rw [has_put_same hi hk]
      simp only [and_self, if_true, Option.isSome_some, true_and]
      intro y hy zd
      rw [atKey_put_same hi hk]
      injection hy with hy
      rw [hy]
    · have hne : pk a b ≠ pk p q := fun he => e (pk_inj (by omega) (by omega) (by omega) (by omega) he)
      rw [has_put_other hne]
      simp only [e, if_false]
      refine ⟨(h2 a b ha hb).1, fun y hy zd => ?_⟩
      rw [atKey_put_other hne]
      exact (h2 a b ha hb).2 y hy zd
  · by_cases e : kl = pk p q
    · exact ⟨p, q, hp, hq, e⟩
    · rw [has_put_other e] at hkl
      exact h3 kl hkl
end
end Go.Proofs.Ytiohimbifjlfdaa

/- lightest. -/
namespace Go.Proofs.Ytiohimbifjlfdaa
open Go.RowKit Go.Lib
set_option linter.unusedVariables false
set_option linter.unusedSimpArgs false
/-- lightest under way. -/
structure LG (w wr : World) (gb : Array Value) (e c : Nat) (f : Nat → Nat → Option Int) : Prop where
  bel : Below w.heap.size w wr
  box : wr.heap[w.heap.size]? = some (.cells gb 28 (0, 0))
  mp : MpP wr (w.heap.size + 1) e c f
section
variable {w wr X : World} {gb : Array Value} {e c : Nat} {f : Nat → Nat → Option Int}
theorem LG.on (h : LG w wr gb e c f) (hb : Below wr.heap.size wr X) : LG w X gb e c f :=
  ⟨below_on h.bel hb, (hb.block _ (lt_of_heap h.box)).trans h.box, h.mp.stay (hb.block _ h.mp.lt)⟩
theorem LG.put {g : Nat → Nat → Option Int} (h : LG w wr gb e c f) (hg : wr.grownBy X (some (w.heap.size + 1))) (hm : MpP X (w.heap.size + 1) (e + 1) c g) : LG w X gb (e + 1) c g :=
  ⟨h.bel.grown hg h.bel.size (fun j hj => by cases hj; omega), (hg.block _ (lt_of_heap h.box) (fun e => by simp only [Option.some.injEq] at e; omega)).trans h.box, hm⟩
theorem LG.skip {g : Nat → Nat → Option Int} (h : LG w wr gb e c f) (hn : ∀ p q, p < c → q < c → g p q = f p q) : LG w wr gb (e + 1) c g := ⟨h.bel, h.box, h.mp.congr hn (Nat.le_succ _)⟩
end
set_option maxRecDepth 100000 in
set_option maxHeartbeats 8000000 in
theorem lightest_any (n c : Nat) (va vb vc pv : Value) (st tl wt : List Int) (nb : Nat → Nat) (w : World) (hgi : GIs w n va vb vc st tl wt) (hg : Good n st tl wt) (hpv : RowAt .i64 w pv (tab n (fun v => (nb v : Int)))) (hnb : ∀ v, v < n → nb v < c) (hc : c ≤ 1048576) (hw : ∀ e, 0 ≤ at_ wt e) :
    Calls Try.prog 20 #[gAgg n va vb vc, pv] w fun e w' => ∃ Mb, e = .returned (.map (some Mb)) ∧ w.heap.size ≤ Mb ∧ MpP w' Mb tl.length c (lwt (fun e => nb (src st n e)) (fun e => nb (tN tl e)) (fun e => at_ wt e) tl.length) ∧ Below w.heap.size w w' := by
  have hmm := @run_makeMap Try.prog
  obtain ⟨F, hF⟩ : ∃ F : Nat → Nat, F = fun e => nb (src st n e) := ⟨_, rfl⟩
  obtain ⟨T, hT⟩ : ∃ T : Nat → Nat, T = fun e => nb (tN tl e) := ⟨_, rfl⟩
  obtain ⟨Wt, hWt⟩ : ∃ Wt : Nat → Int, Wt = fun e => at_ wt e := ⟨_, rfl⟩
  rw [← hF, ← hT, ← hWt]
  have HFe : Hid (∀ e, F e = nb (src st n e)) := fun e => by rw [hF]
  have HTe : Hid (∀ e, T e = nb (tN tl e)) := fun e => by rw [hT]
  have HWe : Hid (∀ e, at_ wt e = Wt e) := fun e => by rw [hWt]
  clear hF hT hWt
  have hnl := hg.n_le
  have hml := hg.m_le
  obtain ⟨ga, oa, ca, rfl, hca, _⟩ := hgi.s.cellAt 0 (by rw [hg.s_len]; omega)
  obtain ⟨bo, cb, rfl⟩ := hgi.t.shape
  obtain ⟨co, cc, rfl⟩ := hgi.u.shape
  obtain ⟨po, pc, rfl⟩ := hpv.shape
  rw [tab_length] at hpv ⊢
  have HG := hide hg; have HS := hide hgi.s; have HT := hide hgi.t; have HU := hide hgi.u; have HPV := hide hpv; have HNB := hide hnb; have HNL := hide hnl; have HML := hide hml; have HC := hide hc
  have HW : Hid (∀ e, e < tl.length → (Lit.int .u64 (at_ wt e)).wf = true) := fun e he => WalkArith.wf_u64 ⟨hw e, by have := (hg.vtx e he).2.2; omega⟩
  obtain ⟨m, hm⟩ : ∃ m, m = tl.length := ⟨_, rfl⟩
  have hsl := hg.s_len
  have hwl := hg.w_len
  rw [hwl, ← hm] at HU
  rw [hwl]
  rw [← hm] at HT HW HML ⊢
  rw [hsl] at HS hca ⊢
  have HM := hide hm
  clear hgi hg hpv hnb hw hm hsl hwl hml hnl hc
  obtain ⟨w2, hw2⟩ : ∃ w2, w2 = (w.alloc (.cells #[.int .i64 n, .slice (some ⟨ga, oa, none⟩) (n + 1) ca, .slice bo m cb, .slice co m cc] 28)).alloc (.map #[] 0) := ⟨_, rfl⟩
  have HL0 : Hid (LG w w2 #[.int .i64 n, .slice (some ⟨ga, oa, none⟩) (n + 1) ca, .slice bo m cb, .slice co m cc] 0 c (lwt F T Wt 0)) := by
    rw [hw2]
    refine ⟨below_alloc (below_alloc (Below.refl _ _) _) _, (Below.heap_alloc _ _ _ (by simp)).trans (heap_new _ _), ?_⟩
    have := mpP_start (w.alloc (.cells #[.int .i64 n, .slice (some ⟨ga, oa, none⟩) (n + 1) ca, .slice bo m cb, .slice co m cc] 28)) c
    rw [World.size_alloc] at this
    exact this
  unfold gAgg
  go_enter Try.func20, Try.ntmps20
  go_upto_region 2 with fail
  rw [← hw2]
  clear hw2 hmm
  have p0 := cell_of HL0.out.box (i := 0) rfl
  go_wp2_with fail
  clear p0
  have HZ : Hid (sN st 0 = 0) := by show _ = _; unfold sN; rw [HG.out.zero]; rfl
  go_loopw [14] (fun t wr => ∃ v : Nat, t = .int .i64 (v : Int) ∧ v ≤ n ∧ LG w wr #[.int .i64 n, .slice (some ⟨ga, oa, none⟩) (n + 1) ca, .slice bo m cb, .slice co m cc] (sN st v) c (lwt F T Wt (sN st v))) (fun t _ => n - (RowKit.intOf t).toNat)
  case atStart => exact ⟨0, rfl, Nat.zero_le _, by rw [HZ.out]; exact HL0.out⟩
  case round =>
    obtain ⟨v, rfl, hvn, hlg⟩ := hrel
    have HLG := hide hlg
    clear hlg HL0 HZ
    by_cases hlt : v < n
    · obtain ⟨a0, ha0⟩ : ∃ a0, a0 = sN st v := ⟨_, rfl⟩
      obtain ⟨a1, ha1⟩ : ∃ a1, a1 = sN st (v + 1) := ⟨_, rfl⟩
      have hv0 : at_ st v = (a0 : Int) := by rw [ha0]; unfold sN; have := HG.out.range v (by omega); omega
      have hv1 : at_ st (v + 1) = (a1 : Int) := by rw [ha1]; unfold sN; have := HG.out.range (v + 1) (by omega); omega
      have h01 : a0 ≤ a1 := by have := HG.out.step v hlt; omega
      have h1m : a1 ≤ m := by have := HG.out.range (v + 1) (by omega); have := HM.out; omega
      have H0 := hide hv0; have H1 := hide hv1; have HA1 := hide ha1
      have HSC : Hid (∀ W, Below w.heap.size w W → W.cell? ⟨ga, oa + v, none⟩ = some (.int .i64 (a0 : Int)) ∧ W.cell? ⟨ga, oa + (v + 1), none⟩ = some (.int .i64 (a1 : Int))) := fun W hW => by
        obtain ⟨g1, o1, c1, e1, _, x1⟩ := (HS.out.below hW).cellAt v (by rw [HG.out.s_len]; omega)
        obtain ⟨g2, o2, c2, e2, _, x2⟩ := (HS.out.below hW).cellAt (v + 1) (by rw [HG.out.s_len]; omega)
        simp only [Value.slice.injEq, Option.some.injEq, Addr.mk.injEq, and_true, true_and] at e1 e2
        obtain ⟨⟨rfl, rfl⟩, _⟩ := e1
        obtain ⟨⟨rfl, rfl⟩, _⟩ := e2
        rw [hv0] at x1; rw [hv1] at x2
        exact ⟨x1, x2⟩
      rw [← ha0] at HLG
      obtain ⟨x1, x2⟩ := HSC.out wr HLG.out.bel
      have c1 := cell_of HLG.out.box (i := 1) rfl
      have hvi : (v : Int) < (n : Int) := by omega
      have hvi1 : (v : Int) < (n : Int) + 1 := by omega
      have hvi2 : (v : Int) + 1 < (n : Int) + 1 := by omega
      have HVV := hide hlt
      clear hv0 hv1 ha0 ha1
      go_wp2_with fail
      clear x1 x2 c1
      go_loopw [7] (fun t wr => ∃ e : Nat, t = .int .i64 (e : Int) ∧ a0 ≤ e ∧ e ≤ a1 ∧ LG w wr #[.int .i64 n, .slice (some ⟨ga, oa, none⟩) (n + 1) ca, .slice bo m cb, .slice co m cc] e c (lwt F T Wt e)) (fun t _ => a1 - (RowKit.intOf t).toNat)
      case atStart => exact ⟨a0, rfl, Nat.le_refl _, h01, HLG.out⟩
      case round =>
        obtain ⟨e, rfl, he0, he1, hlg⟩ := hrel
        have HLR := hide hlg
        clear hlg HLG
        obtain ⟨x1, x2⟩ := HSC.out wr HLR.out.bel
        have c1 := cell_of HLR.out.box (i := 1) rfl
        have c2 := cell_of HLR.out.box (i := 2) rfl
        have c3 := cell_of HLR.out.box (i := 3) rfl
        by_cases hlt2 : e < a1
        · have hei : (e : Int) < (a1 : Int) := by omega
          have hem : e < m := by omega
          have hemi : (e : Int) < (m : Int) := by omega
          have hvb : v ≤ 1048576 := by have := HNL.out; omega
          obtain ⟨u, hu⟩ : ∃ u, u = tN tl e := ⟨_, rfl⟩
          have hetl : e < tl.length := by have := HM.out; omega
          have htv := HG.out.vtx e hetl
          have hun : u < n := by rw [hu]; unfold tN; omega
          have hui : (u : Int) < (n : Int) := by omega
          obtain ⟨gt, ot, ct, e3, _, y1⟩ := (HT.out.below HLR.out.bel).cellAt e hetl
          simp only [Value.slice.injEq, true_and] at e3
          obtain ⟨rfl, he37, rfl⟩ := e3
          clear he37
          rw [show at_ tl e = (u : Int) by rw [hu]; unfold tN; omega] at y1
          obtain ⟨gp, op, cp, e4, _, z1⟩ := (HPV.out.below HLR.out.bel).cellAt v (by rw [tab_length]; exact hlt)
          obtain ⟨gp2, op2, cp2, e5, _, z2⟩ := (HPV.out.below HLR.out.bel).cellAt u (by rw [tab_length]; exact hun)
          rw [tab_length] at e4 e5
          simp only [Value.slice.injEq, Option.some.injEq, Addr.mk.injEq, and_true, true_and] at e4 e5
          obtain ⟨rfl, rfl⟩ := e4
          simp only [Option.some.injEq, Addr.mk.injEq, and_true] at e5
          obtain ⟨⟨rfl, rfl⟩, rfl⟩ := e5
          rw [tab_at n _ v hlt] at z1
          rw [tab_at n _ u hun] at z2
          have hse : src st n e = v := src_eq HG.out hlt (by have := H0.out; omega) (by have := H1.out; omega)
          have HSE := hide hse; have HUU := hide hu; have HUN := hide hun; have HETL := hide hetl
          obtain ⟨P, hP⟩ : ∃ P, P = nb v := ⟨_, rfl⟩
          obtain ⟨Q, hQ⟩ : ∃ Q, Q = nb u := ⟨_, rfl⟩
          rw [← hP] at z1
          rw [← hQ] at z2
          have HPP := hide hP; have HQQ := hide hQ
          clear htv hse hu hP hQ hun hetl
          go_upto_region 8 with fail
          have hS0 := And.intro c2 (And.intro y1 (And.intro z1 z2))
          have hqa := heap_new wr (.cells #[.int .i64 (P : Int), .int .i64 (Q : Int)] 84)
          go_region_held3 (fun x => x.cell? ⟨w.heap.size, 2, none⟩ = some (.slice (some ⟨gt, ot, none⟩) m cb) ∧ x.cell? ⟨gt, ot + e, none⟩ = some (.int .i64 (u : Int)) ∧ x.cell? ⟨gp, op + v, none⟩ = some (.int .i64 (P : Int)) ∧ x.cell? ⟨gp, op + u, none⟩ = some (.int .i64 (Q : Int))) (first | exact hS0 | go_keep) (fail)
          obtain ⟨gw, ow, cw, e6, _, y3⟩ := (HU.out.below HLR.out.bel).cellAt e (by have := HG.out.w_len; have := HETL.out; omega)
          simp only [Value.slice.injEq, true_and] at e6
          obtain ⟨rfl, he67, rfl⟩ := e6
          obtain ⟨X, hX⟩ : ∃ X, X = (wr.alloc (.cells #[.int .i64 (P : Int), .int .i64 (Q : Int)] 84)).drew := ⟨_, rfl⟩
          have hbX : Below wr.heap.size wr X := by rw [hX]; exact (below_alloc (Below.refl _ _) _).drew
          have hLX : LG w X #[.int .i64 n, .slice (some ⟨ga, oa, none⟩) (n + 1) ca, .slice (some ⟨gt, ot, none⟩) m cb, .slice (some ⟨gw, ow, none⟩) m cc] e c (lwt F T Wt e) := HLR.out.on hbX
          have hqX : X.heap[wr.heap.size]? = some (.cells #[.int .i64 (P : Int), .int .i64 (Q : Int)] 84 (0, 0)) := by rw [hX]; exact hqa
          have y3X : X.cell? ⟨gw, ow + e, none⟩ = some (.int .u64 (at_ wt e)) := (below_cell hbX (block_of_cell y3)).trans y3
          rw [← hX]
          have hfree : wr.heap.size ≠ w.heap.size + 1 := by have := HLR.out.mp.lt; omega
          have HLX := hide hLX; have HBX := hide hbX; have HFR := hide hfree; have HQX := hide hqX
          have q0 := cell_of hqX (i := 0) rfl
          have q1 := cell_of hqX (i := 1) rfl
          have c3X := cell_of hLX.box (i := 3) rfl
          obtain ⟨B, hBr⟩ : ∃ B, B = wr.heap.size := ⟨_, rfl⟩
          rw [← hBr] at q0 q1 HQX HFR ⊢
          clear hX hbX hLX hqX hqa hS0 y1 y3 z1 z2 x1 x2 c1 c2 c3 hfree he67 hBr HBX
          have hPc : P < c := by rw [HPP.out]; exact HNB.out v hlt
          have hQc : Q < c := by rw [HQQ.out]; exact HNB.out u HUN.out
          have hFe : F e = P := by rw [HFe.out, HSE.out, HPP.out]
          have hTe : T e = Q := by rw [HTe.out, ← HUU.out, HQQ.out]
          rw [HWe.out e] at y3X
          have HFE := hide hFe; have HTE := hide hTe
          have hwf := HW.out e hem
          rw [HWe.out e] at hwf
          clear hFe hTe
          have heb : e ≤ 4194304 := by have := HML.out; omega
          by_cases hPQ : P = Q
          · subst hPQ
            have hpb : ((P : Int) == (P : Int)) = true := by simp
            have HN : Hid (LG w X #[.int .i64 n, .slice (some ⟨ga, oa, none⟩) (n + 1) ca, .slice (some ⟨gt, ot, none⟩) m cb, .slice (some ⟨gw, ow, none⟩) m cc] (e + 1) c (lwt F T Wt (e + 1))) := HLX.out.skip (fun p q _ _ => by rw [lwt_step_eq (HFE.out.trans HTE.out.symm)])
            go_wp2_with fail
            exact ⟨⟨e + 1, by simp, by omega, by omega, HN.out⟩, by simp [RowKit.intOf]; omega⟩
          · have hpb : ((P : Int) == (Q : Int)) = false := by simp; omega
            have hgw : gw < w.heap.size := by
              obtain ⟨g7, o7, c7, e7, _, y7⟩ := HU.out.cellAt e (by have := HG.out.w_len; have := HETL.out; omega)
              simp only [Value.slice.injEq, Option.some.injEq, Addr.mk.injEq, and_true, true_and] at e7
              obtain ⟨⟨rfl, rfl⟩, _⟩ := e7
              exact block_of_cell y7
            obtain ⟨x, hlk, hx⟩ := HLX.out.mp.look hPc hQc HC.out
            obtain ⟨W9, hup, hmp9, hgr9⟩ := MpP.put (W := X.drew) (x := Wt e) (HLX.out.mp.stay rfl) hPc hQc HC.out (by omega) hwf
            have HPU : Hid (LG w W9 #[.int .i64 n, .slice (some ⟨ga, oa, none⟩) (n + 1) ca, .slice (some ⟨gt, ot, none⟩) m cb, .slice (some ⟨gw, ow, none⟩) m cc] (e + 1) c (fun a b => if a = P ∧ b = Q then some (Wt e) else lwt F T Wt e a b)) := (HLX.out.on (X := X.drew) ((Below.refl _ _).drew)).put hgr9 hmp9
            have hcell : ∀ {g o : Nat} {v : Value}, X.cell? ⟨g, o, none⟩ = some v → g ≠ w.heap.size + 1 → W9.cell? ⟨g, o, none⟩ = some v := fun {g o v} h1 h2 => by
              have hb := hgr9.block g (show g < X.heap.size from block_of_cell h1) (fun e => by simp only [Option.some.injEq] at e; omega)
              simp only [World.cell?] at h1 ⊢
              rw [hb]; exact h1
            have hS9 := And.intro (hcell q0 HFR.out) (And.intro (hcell q1 HFR.out) (And.intro (hcell c3X (by omega)) (hcell y3X (by omega))))
            have hS0 := And.intro q0 (And.intro q1 (And.intro c3X y3X))
            obtain ⟨we, hwe⟩ : ∃ we, we = Wt e := ⟨_, rfl⟩
            rw [← hwe] at hS9 hS0 hup y3X HPU
            have HWE := hide hwe
            clear hmp9 hgr9 hcell hwf hwe
            cases hf : lwt F T Wt e P Q with
            | none =>
              rw [hf] at hlk
              simp only [Option.isSome_none] at hlk
              have HN : Hid (LG w W9 #[.int .i64 n, .slice (some ⟨ga, oa, none⟩) (n + 1) ca, .slice (some ⟨gt, ot, none⟩) m cb, .slice (some ⟨gw, ow, none⟩) m cc] (e + 1) c (lwt F T Wt (e + 1))) := by
                rw [lwt_step_none HFE.out HTE.out hPQ hf, ← HWE.out]; exact HPU.out
              clear hx hf hPQ HPU
              go_upto_region 12 with fail
              go_region_held3 (fun x => x.cell? ⟨B, 0, none⟩ = some (.int .i64 (P : Int)) ∧ x.cell? ⟨B, 1, none⟩ = some (.int .i64 (Q : Int)) ∧ x.cell? ⟨w.heap.size, 3, none⟩ = some (.slice (some ⟨gw, ow, none⟩) m cc) ∧ x.cell? ⟨gw, ow + e, none⟩ = some (.int .u64 we)) (first | exact hS0 | exact hS9 | go_keep) (fail)
              go_wp2_with fail
              exact ⟨⟨e + 1, by simp, by omega, by omega, HN.out⟩, by simp [RowKit.intOf]; omega⟩
            | some y =>
              rw [hf] at hlk
              simp only [Option.isSome_some] at hlk
              obtain rfl := hx y hf
              by_cases hlw : we < x
              · have HN : Hid (LG w W9 #[.int .i64 n, .slice (some ⟨ga, oa, none⟩) (n + 1) ca, .slice (some ⟨gt, ot, none⟩) m cb, .slice (some ⟨gw, ow, none⟩) m cc] (e + 1) c (lwt F T Wt (e + 1))) := by
                  rw [lwt_step_less HFE.out HTE.out hPQ hf (by rw [← HWE.out]; exact hlw), ← HWE.out]; exact HPU.out
                have hlb : decide (we < x) = true := by simpa using hlw
                clear hx hf hPQ HPU
                go_upto_region 12 with fail
                go_region_held3 (fun x => x.cell? ⟨B, 0, none⟩ = some (.int .i64 (P : Int)) ∧ x.cell? ⟨B, 1, none⟩ = some (.int .i64 (Q : Int)) ∧ x.cell? ⟨w.heap.size, 3, none⟩ = some (.slice (some ⟨gw, ow, none⟩) m cc) ∧ x.cell? ⟨gw, ow + e, none⟩ = some (.int .u64 we)) (first | exact hS0 | exact hS9 | go_keep) (fail)
                go_wp2_with fail
                exact ⟨⟨e + 1, by simp, by omega, by omega, HN.out⟩, by simp [RowKit.intOf]; omega⟩
              · have HN : Hid (LG w X #[.int .i64 n, .slice (some ⟨ga, oa, none⟩) (n + 1) ca, .slice (some ⟨gt, ot, none⟩) m cb, .slice (some ⟨gw, ow, none⟩) m cc] (e + 1) c (lwt F T Wt (e + 1))) := HLX.out.skip (fun p q _ _ => by rw [lwt_step_more HFE.out HTE.out hPQ hf (by rw [← HWE.out]; exact hlw)])
                have hlb : decide (we < x) = false := by simpa using hlw
                clear hx hf hPQ HPU hS9 hup hS0
                go_wp2_with fail
                exact ⟨⟨e + 1, by simp, by omega, by omega, HN.out⟩, by simp [RowKit.intOf]; omega⟩
        · obtain rfl : a1 = e := by omega
          have hvb : v ≤ 1048576 := by have := HNL.out; omega
          have HLE := hide (show LG w wr #[.int .i64 n, .slice (some ⟨ga, oa, none⟩) (n + 1) ca, .slice bo m cb, .slice co m cc] (sN st (v + 1)) c (lwt F T Wt (sN st (v + 1))) by rw [← HA1.out]; exact HLR.out)
          clear HLR
          go_wp2_with fail
          exact ⟨⟨v + 1, by simp, by omega, HLE.out⟩, by simp [RowKit.intOf]; omega⟩
    · obtain rfl : n = v := by omega
      have HLE := hide (show LG w wr #[.int .i64 n, .slice (some ⟨ga, oa, none⟩) (n + 1) ca, .slice bo m cb, .slice co m cc] m c (lwt F T Wt m) by
        have e1 : sN st n = m := by unfold sN; rw [HG.out.last, HM.out]; rfl
        have := HLG.out; rw [e1] at this; exact this)
      clear HLG
      go_wp2_with fail
      go_ret
      exact ⟨_, rfl, by omega, HLE.out.mp, HLE.out.bel⟩
end Go.Proofs.Ytiohimbifjlfdaa
