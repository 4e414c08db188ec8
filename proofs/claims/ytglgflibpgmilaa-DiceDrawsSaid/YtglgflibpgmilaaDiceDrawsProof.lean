/- DiceDraws: the frame after the kit's template, the walk by hand. -/
import Derived.Test.YtglgflibpgmilaaDrE
import Derived.Deep.Slices
import Derived.SizedLaws
import Derived.WalkKit
import Derived.ProofKit
import Derived.OpenShut
import Derived.ShutString
import Derived.ChangeOld
import Derived.Below
namespace Go.Proofs.Ytglgflibpgmilaa.diceDraws
open Go.ChangeShapes Go.WideShapes Go.ChangeAt Go.RowKit Go.Deep
set_option linter.unusedVariables false
theorem own : ownKnob Try.prog.godebug = none := by kernel_rfl
theorem laidOut : laidOutB Try.prog = true := by kernel_rfl
/-- A slice of integers that came in: nil, or a row of 'cap' cells, the numbers 'zs' (the first 'len' are its elements); it takes at most 2^47 - 4096 bytes. -/
def IsRow (k : IntKind) (w : World) (a : Option Addr) (len cap : Nat) (by_ : Nat) (zs : List Int) : Prop :=
  (a = none ∧ len = 0 ∧ cap = 0 ∧ zs = []) ∨
  ∃ x, a = some x ∧ len ≤ cap ∧ cap ≤ maxLen ∧ zs.length = cap ∧ (∀ i, i < zs.length → w.cell? (x.add i) = some (.int k (zs.getD i 0))) ∧ (∀ n ∈ zs, (Lit.int k n).wf = true) ∧ cap * by_ ≤ 140737488351232

theorem row_of {k : IntKind} {w : World} {a : Option Addr} {len cap b : Nat} {zs : List Int} (h : IsRow k w a len cap b zs) : RowAt k w (.slice a len cap) (zs.take len) ∧ (zs.take len).length = len ∧ len * b ≤ 140737488351232 ∧ ∀ n ∈ zs.take len, (Lit.int k n).wf = true := by
  rcases h with ⟨rfl, rfl, rfl, rfl⟩ | ⟨x, rfl, hl, hm, hz, hcell, hwz, hr⟩
  · exact ⟨⟨none, 0, rfl, by simp, by omega, (fun _ => rfl), (fun a ha => by cases ha)⟩, rfl, by omega, by simp⟩
  · have hlen : (zs.take len).length = len := by rw [List.length_take]; omega
    refine ⟨⟨some x, cap, by rw [hlen], by omega, hm, (fun e => by cases e), ?_⟩, hlen, Nat.le_trans (Nat.mul_le_mul_right b hl) hr, fun n hn => hwz n (List.mem_of_mem_take hn)⟩
    intro a ha i hi
    cases ha
    rw [hlen] at hi
    have := hcell i (by omega)
    rw [this]
    simp [List.getD, List.getElem?_take_of_lt hi]


def RAt {α : Type} (A : α → Array Value) (c : Nat) (w : World) (v : Value) (l : List α) : Prop :=
  ∃ ao cap, v = .slice ao l.length cap ∧ l.length ≤ cap ∧ cap ≤ 9223372036854775807 ∧
    ∀ i x, l[i]? = some x → ∃ g o, ao = some ⟨g, o, none⟩ ∧ g < w.heap.size ∧ ∀ j u, (A x)[j]? = some u → w.cell? ⟨g, o + i * c + j, none⟩ = some u
theorem RAt.nil {α : Type} {A : α → Array Value} {c : Nat} (w : World) : RAt A c w (.slice none 0 0) [] := ⟨none, 0, rfl, Nat.le_refl _, by omega, fun i x hi => by simp at hi⟩
section
variable {H : Type} {enc : TypeId × Value → H} {w : World} {base : Nat} {held : Bool} {fuel : Nat} {cs : List Value} {y : DataW H × List MemPlace}
theorem one_int {spare : Nat → Bool} {t : TypeId} {k : IntKind} {y : Option (DataW H × List MemPlace)} {o : Nat} (ht : Try.prog.underlying t = some (.int k)) (hc : Try.prog.cellsOf t = 1) (hy : y.isSome = true)
    (h : DataW.trod enc Try.prog w base spare held fuel t ((cs.drop o).take (Try.prog.cellsOf t)) = y) : ∃ n, cs[o]? = some (.int k n) ∧ (Lit.int k n).wf = true := by
  obtain ⟨z, rfl⟩ := Option.isSome_iff_exists.1 hy
  rw [hc] at h
  obtain ⟨n, e, _, hw⟩ := DataW.trod_int ht h
  refine ⟨n, ?_, hw⟩
  have e2 : ((cs.drop o).take 1)[0]? = some (.int k n) := by rw [e]; rfl
  rw [List.getElem?_take_of_lt (by omega), List.getElem?_drop] at e2
  simpa using e2
theorem one_bool {spare : Nat → Bool} {t : TypeId} {y : Option (DataW H × List MemPlace)} {o : Nat} (ht : Try.prog.underlying t = some .bool) (hc : Try.prog.cellsOf t = 1) (hy : y.isSome = true)
    (h : DataW.trod enc Try.prog w base spare held fuel t ((cs.drop o).take (Try.prog.cellsOf t)) = y) : ∃ b, cs[o]? = some (.bool b) := by
  obtain ⟨z, rfl⟩ := Option.isSome_iff_exists.1 hy
  rw [hc] at h
  obtain ⟨b, e, _⟩ := DataW.trod_bool ht h
  refine ⟨b, ?_⟩
  have e2 : ((cs.drop o).take 1)[0]? = some (.bool b) := by rw [e]; rfl
  rw [List.getElem?_take_of_lt (by omega), List.getElem?_drop] at e2
  simpa using e2
theorem Try.c3 : Try.prog.cellsOf 3 = 1 := by kernel_rfl
theorem Try.c4 : Try.prog.cellsOf 4 = 1 := by kernel_rfl
theorem Try.c22 : Try.prog.cellsOf 22 = 1 := by kernel_rfl
theorem Try.c39 : Try.prog.cellsOf 39 = 3 := by kernel_rfl
set_option maxRecDepth 100000 in
theorem open_opC (h : DataW.trod enc Try.prog w base (fun _ => true) held fuel 39 cs = some y) : ∃ o : Op3, o.n < 18446744073709551616 ∧ ∀ (j : Nat) (v : Value), o.arr[j]? = some v → cs[j]? = some v := by
  obtain ⟨xs, n, _, _, hlen, hxs, hel⟩ := DataW.trod_struct Try.underlying39 h
  have hx : ∀ i, i < 3 → (xs[i]?).isSome = true := fun i hi => by rw [List.getElem?_eq_getElem (show i < xs.length by rw [hxs]; exact hi)]; rfl
  obtain ⟨k0, h0, _⟩ := one_int Try.underlying3 Try.c3 (hx 0 (by omega)) (hel 0 _ rfl)
  obtain ⟨k1, h1⟩ := one_bool Try.underlying4 Try.c4 (hx 1 (by omega)) (hel 1 _ rfl)
  obtain ⟨k2, h2, w2⟩ := one_int Try.underlying22 Try.c22 (hx 2 (by omega)) (hel 2 _ rfl)
  obtain ⟨b0, b1⟩ := Go.bounds_u64 w2
  obtain ⟨m, rfl⟩ := Int.eq_ofNat_of_zero_le b0
  refine ⟨⟨k0, k1, m⟩, by show m < _; omega, ?_⟩
  intro j v hv
  match j, hv with
  | 0, hv => cases hv; exact h0
  | 1, hv => cases hv; exact h1
  | 2, hv => cases hv; exact h2
  | j + 3, hv => simp [Op3.arr] at hv
/-- A list of records that comes in. -/
theorem open_recs {α : Type} (x0 : α) {A : α → Array Value} {c : Nat} {t e : TypeId} {Ok : α → Prop} (hA : ∀ x, (A x).size = c) (hc : 0 < c) (ht : Try.prog.underlying t = some (.slice e)) (hce : Try.prog.cellsOf e = c)
    (hC : ∀ (n : Nat) (cs : List Value) (y : DataW H × List MemPlace) (w : World), DataW.trod enc Try.prog w 0 (fun _ => true) held n e cs = some y → ∃ o : α, Ok o ∧ ∀ (j : Nat) (v : Value), (A o)[j]? = some v → cs[j]? = some v)
    {W : World} {v : Value} {d : DataW H} {p : List MemPlace} (hv : Value.okWide Try.prog W .any base t v) (h : DataW.Trod enc Try.prog W 0 (fun _ => true) held t v d p) :
    ∃ (len cap : Nat) (l : List α), l.length = len ∧ RAt A c W v l ∧ (∀ (i : Nat) (x : α), l[i]? = some x → Ok x) ∧
      ((len = 0 ∧ cap = 0) ∨ ∃ D : Nat → DataW H, d = .slice ((List.range len).map D) ((List.range (cap - len)).map fun j => D (len + j))) := by
  obtain ⟨ao, len, cap, rfl⟩ := okWide_slice ht hv
  obtain ⟨fuel, hf⟩ := h
  rcases open_slice ht hf with ⟨hcs, _⟩ | ⟨a, len', cap', m, n, D, Pl, hcs, _, hl, hm, hmm, hx, hel⟩
  · simp [Value.cells] at hcs
    obtain ⟨rfl, rfl, rfl⟩ := hcs
    exact ⟨0, 0, [], rfl, RAt.nil W, fun i x hi => by simp at hi, .inl ⟨rfl, rfl⟩⟩
  · simp [Value.cells] at hcs
    obtain ⟨rfl, rfl, rfl⟩ := hcs
    simp only [if_true] at hmm
    subst hmm
    simp only [Prod.mk.injEq] at hx
    have hspot : 0 < len → a.spot = none := by
      intro h
      obtain ⟨cs', h1, h2⟩ := hel 0 (by omega)
      rw [hce] at h1
      obtain ⟨_, hlen, hcell⟩ := World.cells?_some h1
      obtain ⟨o, hok, ho⟩ := hC _ _ _ _ h2
      have h0 := (hcell 0 hc).trans (ho 0 _ (Array.getElem?_eq_getElem (by rw [hA]; exact hc)))
      have := World.cell?_spot h0
      simpa [Addr.add] using this
    have each : ∀ k, ∃ o : α, k < len → Ok o ∧ ∃ g q, a = ⟨g, q, none⟩ ∧ g < W.heap.size ∧ ∀ (j : Nat) (v : Value), (A o)[j]? = some v → W.cell? ⟨g, q + k * c + j, none⟩ = some v := by
      intro k
      by_cases hk : k < len
      · obtain ⟨cs', h1, h2⟩ := hel k (by omega)
        rw [hce] at h1
        obtain ⟨_, hlen, hcell⟩ := World.cells?_some h1
        obtain ⟨o, hok, ho⟩ := hC _ _ _ _ h2
        have hsz : ∀ j v, (A o)[j]? = some v → j < c := fun j v hj => by have := (Array.getElem?_eq_some_iff.1 hj).1; rwa [hA] at this
        have h0 : W.cell? ((a.add (k * c)).add 0) = some ((A o)[0]'(by rw [hA]; exact hc)) := (hcell 0 hc).trans (ho 0 _ (Array.getElem?_eq_getElem (by rw [hA]; exact hc)))
        have hsp := hspot (by omega)
        obtain ⟨ab, aq, sp⟩ := a
        simp only at hsp
        subst hsp
        have hlt := block_of_cell h0
        refine ⟨o, fun _ => ⟨hok, ab, aq, rfl, by simpa [Addr.add_lit] using hlt, fun j v hj => ?_⟩⟩
        have h3 := (hcell j (hsz j v hj)).trans (ho j v hj)
        rw [Addr.add_lit, Addr.add_lit] at h3
        exact h3
      · exact ⟨x0, fun h => absurd h hk⟩
    obtain ⟨f, hf⟩ := Classical.axiomOfChoice each
    have hL : ((List.range len).map f).length = len := by simp
    have hget : ∀ (i : Nat) (x : α), ((List.range len).map f)[i]? = some x → i < len ∧ x = f i := by
      intro i x hi
      have h1 := (List.getElem?_eq_some_iff.1 hi).1
      rw [hL] at h1
      simp [h1] at hi
      exact ⟨h1, hi.symm⟩
    refine ⟨len, m, (List.range len).map f, hL, ⟨some a, m, by rw [hL], by rw [hL]; exact hl, by simp only [maxLen] at hm; omega, fun i x hi => ?_⟩, fun i x hi => ?_, .inr ⟨D, hx.1⟩⟩
    · obtain ⟨h1, rfl⟩ := hget i x hi
      obtain ⟨_, g, q, rfl, hg, hj⟩ := hf i h1
      exact ⟨g, q, rfl, hg, hj⟩
    · obtain ⟨h1, rfl⟩ := hget i x hi
      exact (hf i h1).1
end
theorem words_of {zs : List Int} (h : ∀ n ∈ zs, (Lit.int .u64 n).wf = true) : Words zs := fun x hx => by
  have := Go.bounds_u64 (h x hx)
  omega
theorem walk (w : World) (sd kk : Int) (ws : (Lit.int .u64 sd).wf = true) (wk : (Lit.int .i64 kk).wf = true) (a1 : Option Addr) (len1 cap1 : Nat) (z1 : List Int) (w1 : IsRow .u64 w a1 len1 cap1 8 z1) (a2 : Option Addr) (len2 cap2 : Nat) (z2 : List Int) (w2 : IsRow .u64 w a2 len2 cap2 8 z2)
    (v : Value) (l : List Op3) (hv : RAt Op3.arr 3 w v l) (hok : ∀ (i : Nat) (x : Op3), l[i]? = some x → x.n < 18446744073709551616) (hl : l.length * 24 ≤ 140737488351232) :
    Calls Try.prog 3 #[.int .u64 sd, .int .i64 kk, .slice a1 len1 cap1, .slice a2 len2 cap2, v] w fun e w' => e = .returned (.bool true) ∧ Below w.heap.size w w' := by
  obtain ⟨s0, s1⟩ := Go.bounds_u64 ws
  obtain ⟨k0, k1⟩ := Go.bounds_i64 wk
  obtain ⟨sd, rfl⟩ := Int.eq_ofNat_of_zero_le s0
  obtain ⟨r1, e1, hl1, x1⟩ := row_of w1
  obtain ⟨r2, e2, hl2, x2⟩ := row_of w2
  by_cases hk : kk < 0
  · exact draws_neg sd (by omega) kk hk _ _ _ _ _ l w r1 r2 hv (words_of x1) (words_of x2) (by rw [e1]; exact hl1) (by rw [e2]; exact hl2) hl hok
  · obtain ⟨kn, rfl⟩ := Int.eq_ofNat_of_zero_le (show 0 ≤ kk by omega)
    exact draws_pos sd (by omega) kn (by omega) _ _ _ _ _ l w r1 r2 hv (words_of x1) (words_of x2) (by rw [e1]; exact hl1) (by rw [e2]; exact hl2) hl hok
set_option maxRecDepth 100000 in
theorem lifted (os : Os) (started : os.Started) (H : Type) (enc : TypeId × Value → H) :
    ReturnsInHanded {} Try.checked os 3 .any (Rows.diceDrawsSpec.pre6 enc Try.prog Try.f3 Rows.diceDrawsRow.domain false) (Rows.diceDrawsSpec.post enc Try.prog Try.f3 false true false false) := by
  refine returnsInHanded_of_change_sized (C := Try.checked) own started (by kernel_rfl) Try.func3
    (ChangeSpec.witness6 (enc := enc) (C := Try.checked) false ⟨#[], #[.int .u64 0, .int .i64 0, .slice none 0 0, .slice none 0 0, .slice none 0 0], []⟩ 8 (by kernel_rfl) (by kernel_rfl) (by kernel_rfl) (by kernel_rfl)) ?_
  intro W base args ds gs before hval0 hW hcnd hsz0 _
  have hval : ∀ (j : Nat) t v, Try.f3.params[j]? = some t → args[j]? = some v → Value.okWide Try.prog W .any base t v := hval0
  have hW' := hW
  obtain ⟨p, q, hA0, hV, rfl, hfz, hnd⟩ := hW
  have hA : DataW.TrodAll enc Try.prog W 0 (fun _ => true) true Try.f3.params.toList args.toList ds p := hA0
  have hsz : (DataW.weightsEach Try.prog (Try.f3.params.toList ++ Rows.diceDrawsSpec.plain.varTypes Try.prog) (ds ++ gs)).all (· ≤ reachBytes) = true := hsz0
  rw [Try.params3] at hA hval hsz
  obtain ⟨v0, vs0, d0, ds0, p0, q0, hargs, rfl, rfl, h0, r0⟩ := trodAll_cons hA
  obtain ⟨v1, vs1, d1, ds1, p1, q1, rfl, rfl, rfl, h1, r1⟩ := trodAll_cons r0
  obtain ⟨v2, vs2, d2, ds2, p2, q2, rfl, rfl, rfl, h2, r2⟩ := trodAll_cons r1
  obtain ⟨v3, vs3, d3, ds3, p3, q3, rfl, rfl, rfl, h3, r3⟩ := trodAll_cons r2
  obtain ⟨v4, vs4, d4, ds4, p4, q4, rfl, rfl, rfl, h4, r4⟩ := trodAll_cons r3
  obtain ⟨rfl, rfl, rfl⟩ := trodAll_nil r4
  obtain rfl : args = #[v0, v1, v2, v3, v4] := by cases args; simp_all
  obtain ⟨rfl, rfl⟩ := trodVars_none hV
  obtain ⟨a0, rfl, rfl, rfl, w0⟩ := open_int Try.underlying22 (hval 0 22 v0 rfl rfl) h0
  obtain ⟨a1, rfl, rfl, rfl, w1⟩ := open_int Try.underlying3 (hval 1 3 v1 rfl rfl) h1
  obtain ⟨a2, len2, cap2, rfl⟩ := okWide_slice Try.underlying23 (hval 2 23 v2 rfl rfl)
  have k2 := h2
  have lt2 : ∀ x ∈ p2, x.block < W.heap.size := by obtain ⟨m, hm⟩ := k2; exact DataW.trod_lt m _ _ _ hm
  obtain ⟨z2, w2⟩ : ∃ zs, IsRow .u64 W a2 len2 cap2 8 zs := by
    obtain ⟨fuel, hf⟩ := h2
    rcases open_ints Try.underlying23 Try.underlying22 (by kernel_rfl) hf with ⟨hcs, _⟩ | ⟨x, l, c, zs, hcs, _, hl, hm, hz, hx, hcell, hwz⟩
    · simp [Value.cells] at hcs
      obtain ⟨rfl, rfl, rfl⟩ := hcs
      exact ⟨[], .inl ⟨rfl, rfl, rfl, rfl⟩⟩
    · simp [Value.cells] at hcs
      obtain ⟨rfl, rfl, rfl⟩ := hcs
      have hzz : zs.length = cap2 := by simpa using hz
      simp only [Prod.mk.injEq] at hx
      have hs := sized_slice hsz (j := 2) (t := 23) (e := 22) (elems := lits .u64 (zs.take len2)) (spare := lits .u64 (zs.drop len2)) rfl (by rw [hx.1]; rfl) Try.underlying23
      rw [show Try.prog.bytesOf 22 = 8 from by kernel_rfl] at hs
      simp only [lits, List.length_map, List.length_take, List.length_drop, reachBytes] at hs
      exact ⟨zs, .inr ⟨_, rfl, hl, hm, hzz, hcell, hwz, by omega⟩⟩
  obtain ⟨a3, len3, cap3, rfl⟩ := okWide_slice Try.underlying23 (hval 3 23 v3 rfl rfl)
  have k3 := h3
  have lt3 : ∀ x ∈ p3, x.block < W.heap.size := by obtain ⟨m, hm⟩ := k3; exact DataW.trod_lt m _ _ _ hm
  obtain ⟨z3, w3⟩ : ∃ zs, IsRow .u64 W a3 len3 cap3 8 zs := by
    obtain ⟨fuel, hf⟩ := h3
    rcases open_ints Try.underlying23 Try.underlying22 (by kernel_rfl) hf with ⟨hcs, _⟩ | ⟨x, l, c, zs, hcs, _, hl, hm, hz, hx, hcell, hwz⟩
    · simp [Value.cells] at hcs
      obtain ⟨rfl, rfl, rfl⟩ := hcs
      exact ⟨[], .inl ⟨rfl, rfl, rfl, rfl⟩⟩
    · simp [Value.cells] at hcs
      obtain ⟨rfl, rfl, rfl⟩ := hcs
      have hzz : zs.length = cap3 := by simpa using hz
      simp only [Prod.mk.injEq] at hx
      have hs := sized_slice hsz (j := 3) (t := 23) (e := 22) (elems := lits .u64 (zs.take len3)) (spare := lits .u64 (zs.drop len3)) rfl (by rw [hx.1]; rfl) Try.underlying23
      rw [show Try.prog.bytesOf 22 = 8 from by kernel_rfl] at hs
      simp only [lits, List.length_map, List.length_take, List.length_drop, reachBytes] at hs
      exact ⟨zs, .inr ⟨_, rfl, hl, hm, hzz, hcell, hwz, by omega⟩⟩
  have k4 := h4
  have lt4 : ∀ x ∈ p4, x.block < W.heap.size := by obtain ⟨m, hm⟩ := k4; exact DataW.trod_lt m _ _ _ hm
  obtain ⟨len4, cap4, S4, hl4, sa4, sb4, hd4⟩ := open_recs (Ok := fun o : Op3 => o.n < 18446744073709551616) (⟨0, false, 0⟩ : Op3) Op3.size (by decide) Try.underlying24 Try.c39 (fun n cs y w h => open_opC h) (hval 4 24 v4 rfl rfl) h4
  have hb4 : S4.length * 24 ≤ 140737488351232 := by
    rcases hd4 with ⟨h0, _⟩ | ⟨D, hD⟩
    · rw [hl4, h0]; decide
    · have hs := sized_slice hsz (j := 4) (t := 24) (e := 39) (elems := (List.range len4).map D) (spare := (List.range (cap4 - len4)).map fun j => D (len4 + j)) rfl (by rw [hD]; rfl) Try.underlying24
      rw [show Try.prog.bytesOf 39 = 24 from by kernel_rfl] at hs
      simp only [List.length_map, List.length_range, reachBytes] at hs
      rw [hl4]
      omega
  clear hA0 hval0
  refine (walk W a0 a1 w0 w1 a2 len2 cap2 z2 w2 a3 len3 cap3 z3 w3 v4 S4 sa4 sb4 hb4).mono fun e W' ⟨he, bel⟩ => ?_
  subst he
  exact ⟨_, rfl, _, _, _, [], _, [], hW', trodAll_mk1 (shut_bool Try.underlying4 _), (trodAll_cons_mk (shut_int Try.underlying22 w0) (trodAll_cons_mk (shut_int Try.underlying3 w1) (trodAll_cons_mk (Below.trod laidOut (by kernel_rfl) (of_decide_eq_true (by kernel_rfl)) k2 bel lt2) (trodAll_cons_mk (Below.trod laidOut (by kernel_rfl) (of_decide_eq_true (by kernel_rfl)) k3 bel lt3) (trodAll_cons_mk (Below.trod laidOut (by kernel_rfl) (of_decide_eq_true (by kernel_rfl)) k4 bel lt4) trodAll_mk0))))), rfl, bel.frame _, fun h => by cases h⟩
theorem over : Rows.diceDrawsRow.holds Try.pinned (OpenSpec.ofChange Rows.diceDrawsSpec) :=
  OpenClaim.holds_of_wide 3 Try.f3 rfl rfl rfl rfl rfl rfl rfl ⟨rfl, rfl, rfl, rfl, rfl⟩ rfl rfl rfl rfl rfl (by kernel_rfl) Try.func3 (by kernel_rfl)
    (of_decide_eq_true (by kernel_rfl)) (by unfold Func.isWrapper; first | (rw [if_pos (by decide +kernel)]; kernel_rfl) | (rw [if_neg (by decide +kernel)]; exact ⟨rfl, rfl⟩))
    (fun os started H enc _ => lifted os started H enc)
theorem proved : Rows.DiceDrawsSaid := over
#print axioms proved
end Go.Proofs.Ytglgflibpgmilaa.diceDraws
