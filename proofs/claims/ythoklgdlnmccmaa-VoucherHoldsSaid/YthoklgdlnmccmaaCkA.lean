import Derived.Test.YthoklgdlnmccmaaStarted
import Derived.Test.YthoklgdlnmccmaaRefS
import Derived.Test.YthoklgdlnmccmaaDijkstra
import Derived.Test.YthoklgdlnmccmaaLen
import Derived.Test.YthoklgdlnmccmaaRnd
import Derived.BigQuiet
import Derived.BigRegion
import Derived.Deep.CutRange
import Derived.Test.YthoklgdlnmccmaaFits
/- voucher.Check's memory: what starts and edges say of each vertex. -/
namespace Go.Proofs.Ythoklgdlnmccmaa
open Go.RowKit Go.Lib
set_option linter.unusedVariables false
/-- What is found of a vertex: a start's label, above, tight. -/
abbrev Fnd : Type := Int × Bool × Bool
def FA (w : World) (F n : Nat) (f : Nat → Fnd) : Prop :=
  ∃ cs : Array Value, w.heap[F]? = some (.cells cs 193 (0, 0)) ∧ cs.size = n * 3 ∧ ∀ j, j < n → cs[j * 3]? = some (.int .u64 (f j).1) ∧ cs[j * 3 + 1]? = some (.bool (f j).2.1) ∧ cs[j * 3 + 2]? = some (.bool (f j).2.2)
section
variable {w w' : World} {F n : Nat} {f : Nat → Fnd}
theorem FA.at (h : FA w F n f) {j : Nat} (hj : j < n) : w.cell? ⟨F, j * 3, none⟩ = some (.int .u64 (f j).1) ∧ w.cell? ⟨F, j * 3 + 1, none⟩ = some (.bool (f j).2.1) ∧ w.cell? ⟨F, j * 3 + 2, none⟩ = some (.bool (f j).2.2) := by
  obtain ⟨cs, h1, h2, h3⟩ := h
  obtain ⟨a, b, c⟩ := h3 j hj
  exact ⟨cell_of h1 a, cell_of h1 b, cell_of h1 c⟩
theorem FA.free (h : FA w F n f) (i : Nat) : w.frozen? ⟨F, i, none⟩ = false := by
  obtain ⟨cs, h1, _⟩ := h
  exact free_of h1 i
theorem FA.lt (h : FA w F n f) : F < w.heap.size := by
  obtain ⟨cs, h1, _⟩ := h
  exact lt_of_heap h1
theorem FA.same (h : FA w F n f) (hb : w'.heap[F]? = w.heap[F]?) : FA w' F n f := by
  obtain ⟨cs, h1, h2⟩ := h
  exact ⟨cs, hb.trans h1, h2⟩
theorem FA.below (h : FA w F n f) (hb : Below w.heap.size w w') : FA w' F n f := h.same (hb.block _ h.lt)
def up (f : Nat → Fnd) (i : Nat) (x : Fnd) : Nat → Fnd := fun j => if j = i then x else f j
theorem FA.put0 (h : FA w F n f) {i : Nat} (hi : i < n) (x : Int) : FA (w.setCell ⟨F, i * 3, none⟩ (.int .u64 x)) F n (up f i (x, (f i).2)) := by
  obtain ⟨cs, h1, h2, h3⟩ := h
  refine ⟨_, heap_set h1 _, by simpa using h2, fun j hj => ?_⟩
  obtain ⟨a, b, c⟩ := h3 j hj
  unfold up
  by_cases e : j = i
  · subst e
    rw [if_pos rfl]
    refine ⟨by simp [Array.getElem?_setIfInBounds]; omega, ?_, ?_⟩
    · rw [Array.getElem?_setIfInBounds_ne (by omega)]; exact b
    · rw [Array.getElem?_setIfInBounds_ne (by omega)]; exact c
  · rw [if_neg e]
    refine ⟨?_, ?_, ?_⟩
    · rw [Array.getElem?_setIfInBounds_ne (by omega)]; exact a
    · rw [Array.getElem?_setIfInBounds_ne (by omega)]; exact b
    · rw [Array.getElem?_setIfInBounds_ne (by omega)]; exact c
theorem FA.put1 (h : FA w F n f) {i : Nat} (hi : i < n) (x : Bool) : FA (w.setCell ⟨F, i * 3 + 1, none⟩ (.bool x)) F n (up f i ((f i).1, x, (f i).2.2)) := by
  obtain ⟨cs, h1, h2, h3⟩ := h
  refine ⟨_, heap_set h1 _, by simpa using h2, fun j hj => ?_⟩
  obtain ⟨a, b, c⟩ := h3 j hj
  unfold up
  by_cases e : j = i
  · subst e
    rw [if_pos rfl]
    refine ⟨?_, by simp [Array.getElem?_setIfInBounds]; omega, ?_⟩
    · rw [Array.getElem?_setIfInBounds_ne (by omega)]; exact a
    · rw [Array.getElem?_setIfInBounds_ne (by omega)]; exact c
  · rw [if_neg e]
    refine ⟨?_, ?_, ?_⟩
    · rw [Array.getElem?_setIfInBounds_ne (by omega)]; exact a
    · rw [Array.getElem?_setIfInBounds_ne (by omega)]; exact b
    · rw [Array.getElem?_setIfInBounds_ne (by omega)]; exact c
theorem FA.put2 (h : FA w F n f) {i : Nat} (hi : i < n) (x : Bool) : FA (w.setCell ⟨F, i * 3 + 2, none⟩ (.bool x)) F n (up f i ((f i).1, (f i).2.1, x)) := by
  obtain ⟨cs, h1, h2, h3⟩ := h
  refine ⟨_, heap_set h1 _, by simpa using h2, fun j hj => ?_⟩
  obtain ⟨a, b, c⟩ := h3 j hj
  unfold up
  by_cases e : j = i
  · subst e
    rw [if_pos rfl]
    refine ⟨?_, ?_, by simp [Array.getElem?_setIfInBounds]; omega⟩
    · rw [Array.getElem?_setIfInBounds_ne (by omega)]; exact a
    · rw [Array.getElem?_setIfInBounds_ne (by omega)]; exact b
  · rw [if_neg e]
    refine ⟨?_, ?_, ?_⟩
    · rw [Array.getElem?_setIfInBounds_ne (by omega)]; exact a
    · rw [Array.getElem?_setIfInBounds_ne (by omega)]; exact b
    · rw [Array.getElem?_setIfInBounds_ne (by omega)]; exact c
end
/-- A look in memory: the voucher's lists, what was found. -/
structure LK (w : World) (Q F n : Nat) (l1 l2 l3 : Value) (f : Nat → Fnd) : Prop where
  lh : w.heap[Q]? = some (.cells #[l1, l2, l3, .slice (some ⟨F, 0, none⟩) n n] 158 (0, 0))
  fa : FA w F n f
  ne : Q ≠ F
theorem LK.below {w w' : World} {Q F n : Nat} {l1 l2 l3 : Value} {f : Nat → Fnd} (h : LK w Q F n l1 l2 l3 f) (hb : Below w.heap.size w w') : LK w' Q F n l1 l2 l3 f := ⟨(hb.block _ (lt_of_heap h.lh)).trans h.lh, h.fa.below hb, h.ne⟩
theorem LK.turn {w : World} {Q F n : Nat} {l1 l2 l3 : Value} {f f' : Nat → Fnd} (h : LK w Q F n l1 l2 l3 f) {i : Nat} {u : Value} (hf : FA (w.setCell ⟨F, i, none⟩ u) F n f') : LK (w.setCell ⟨F, i, none⟩ u) Q F n l1 l2 l3 f' :=
  ⟨(Below.heap_setCell _ _ _ _ h.ne).trans h.lh, hf, h.ne⟩
end Go.Proofs.Ythoklgdlnmccmaa

/- seeStarts. -/
namespace Go.Proofs.Ythoklgdlnmccmaa
open Go.RowKit Go.Lib
set_option linter.unusedVariables false
/-- What is found where the starts' labels are L. -/
def fOf (L : List Int) (f : Nat → Fnd) : Nat → Fnd := fun v => (at_ L v, (f v).2)
theorem FA.ext {w : World} {F n : Nat} {f f' : Nat → Fnd} (h : FA w F n f) (he : ∀ v, v < n → f v = f' v) : FA w F n f' := by
  obtain ⟨cs, h1, h2, h3⟩ := h
  exact ⟨cs, h1, h2, fun j hj => by rw [← he j hj]; exact h3 j hj⟩
theorem LK.ext {w : World} {Q F n : Nat} {l1 l2 l3 : Value} {f f' : Nat → Fnd} (h : LK w Q F n l1 l2 l3 f) (he : ∀ v, v < n → f v = f' v) : LK w Q F n l1 l2 l3 f' := ⟨h.lh, h.fa.ext he, h.ne⟩
theorem LK.drew {w : World} {Q F n : Nat} {l1 l2 l3 : Value} {f : Nat → Fnd} (h : LK w Q F n l1 l2 l3 f) : LK w.drew Q F n l1 l2 l3 f := h.below (below_drew (Below.refl _ _))
def SeePost (w0 : World) (Q F n : Nat) (l1 l2 l3 : Value) (g : (Nat → Fnd) → Prop) (e : Ending) (w' : World) : Prop := e = .returned (.tuple #[]) ∧ ∃ f, g f ∧ LK w' Q F n l1 l2 l3 f ∧ Below w0.heap.size w0 w'
set_option maxRecDepth 100000 in
set_option maxHeartbeats 4000000 in
theorem seeStarts_any (Q F n : Nat) (l1 l2 l3 : Value) (f : Nat → Fnd) (sv : Value) (S : List Pr) (w0 w : World) (hk : LK w Q F n l1 l2 l3 f) (hs : SAt w0 sv S) (hb0 : Below w0.heap.size w0 w) (hQ : w0.heap.size ≤ F) (hok : Sok n S) (hn : n ≤ 1048576) (hS : S.length * 16 ≤ 140737488353280) :
    Calls Try.prog 111 #[.pointer (some ⟨Q, 0, none⟩), sv] w (SeePost w0 Q F n l1 l2 l3 (fun f' => ∃ L, Beg n S L S.length ∧ f' = fOf L f)) := by
  obtain ⟨so, sc, rfl, hsc, hscm⟩ := hs.shape
  have HK := hide hk; have HS := hide hs; have HB0 := hide hb0; have HOK := hide hok
  have hQF := hk.ne
  have hFQ := hk.ne.symm
  have q3 := cell_of hk.lh (i := 3) rfl
  obtain ⟨M, hM⟩ : ∃ M, M = S.length := ⟨_, rfl⟩
  have HM := hide hM
  rw [← hM] at hsc hS ⊢
  clear hk hs hb0 hok hM
  go_enter Try.func111, Try.ntmps111
  go_wp2_with fail
  go_loopw [13, 4] (fun t u wr => ∃ i : Nat, i ≤ n ∧ t = .int .i64 i ∧ LK wr Q F n l1 l2 l3 (fun v => if v < i then (Nev, (f v).2) else f v) ∧ Below w0.heap.size w0 wr) (fun t _ _ => n - (RowKit.intOf t).toNat)
  case atStart => exact ⟨0, by omega, rfl, HK.out.ext (fun v hv => by rw [if_neg (by omega)]), HB0.out⟩
  case round =>
    obtain ⟨i, hin, rfl, hL, hB⟩ := hrel
    clear q3
    by_cases hlt : i < n
    · have q3 := cell_of hL.lh (i := 3) rfl
      have a0 := (hL.fa.at hlt).1
      have a1 := hL.fa.free (i * 3)
      have HL := hide hL; have HB := hide hB
      clear hL hB
      go_wp2
      refine ⟨⟨i + 1, by omega, by simp, (HL.out.turn (HL.out.fa.put0 hlt Nev)).ext (fun v hv => ?_), HB.out.setCell (p := ⟨F, i * 3, none⟩) (show w0.heap.size ≤ F by omega) _⟩, by simp [RowKit.intOf]; omega⟩
      show up _ i _ v = _
      simp only [up]
      by_cases e : v = i
      · subst e
        simp
      · simp only [if_neg e]
        by_cases e2 : v < i
        · rw [if_pos e2, if_pos (by omega)]
        · rw [if_neg e2, if_neg (by omega)]
    · have hin2 : i = n := by omega
      have HL1 := hide (hL.ext (f' := fOf (tab n (fun _ => Nev)) f) (fun v hv => by unfold fOf; rw [if_pos (by omega), tab_at _ _ _ hv]))
      have HBE := hide hB
      clear hL hB HK HB0
      go_wp2_with fail
      go_loopw [26, 6, 7] (fun t _ _ wr => ∃ (j : Nat) (L : List Int), j ≤ M ∧ t = .int .i64 j ∧ Beg n S L j ∧ LK wr Q F n l1 l2 l3 (fOf L f) ∧ Below w0.heap.size w0 wr) (fun t _ _ _ => M - (RowKit.intOf t).toNat)
      case atStart => exact ⟨0, _, Nat.zero_le _, rfl, beg_zero n S, HL1.out, HBE.out⟩
      case round =>
        obtain ⟨j, L, hjM, rfl, hBeg, hL, hB⟩ := hrel
        clear HL1 HBE
        by_cases hlt2 : j < M
        · have hjS : j < S.length := by have := HM.out; omega
          obtain ⟨g, o, he, p0, p1⟩ := (HS.out.below hB).cellAt j hjS
          subst he
          have hsk := HOK.out j hjS
          obtain ⟨v, hv⟩ : ∃ v : Nat, (sAt S j).1 = (v : Int) := ⟨(sAt S j).1.toNat, by omega⟩
          have hvn : v < n := by omega
          obtain ⟨x, hx⟩ : ∃ x, x = (sAt S j).2 := ⟨_, rfl⟩
          rw [hv] at p0
          rw [← hx] at p1
          have hba := below_alloc (Below.refl wr.heap.size wr) (.cells #[.int .i64 (v : Int), .int .u64 x] 41)
          have HLA := hide (hL.below hba)
          have hbx := heap_new wr (.cells #[.int .i64 (v : Int), .int .u64 x] 41)
          have b0 := cell_of hbx (i := 0) rfl
          have b1 := cell_of hbx (i := 1) rfl
          have q3 := cell_of HLA.out.lh (i := 3) rfl
          obtain ⟨y, hy⟩ : ∃ y, y = at_ L v := ⟨_, rfl⟩
          have a0 : (wr.alloc (.cells #[.int .i64 (v : Int), .int .u64 x] 41)).cell? ⟨F, v * 3, none⟩ = some (.int .u64 y) := by rw [hy]; exact (HLA.out.fa.at hvn).1
          have a1 := HLA.out.fa.free (v * 3)
          have HBA := hide (below_on hB hba)
          have hrng := hBeg.rng v hvn
          rw [← hy] at hrng
          have HBEG := hide (beg_step hBeg hjS HOK.out hv)
          rw [← hx, ← hy] at HBEG
          have HY := hide hy
          have HLL := hide hBeg.len
          have hsx : 0 ≤ x ∧ x ≤ 4611686018427387904 := by rw [hx]; exact hsk.2
          clear hba hbx hx hy hv hsk hBeg hL hB
          go_wp2_with fail
          go_region
          all_goals
            go_wp2_with fail
            go_region
            all_goals
              go_wp2_with fail
              refine ⟨⟨j + 1, L.set v (min y x), by omega, by simp, HBEG.out, ((HLA.out.turn (HLA.out.fa.put0 hvn (min y x))).ext (fun u hu => ?_)).drew.drew, ((HBA.out.setCell (p := ⟨F, v * 3, none⟩) (show w0.heap.size ≤ F by omega) _).drew).drew⟩, by simp [RowKit.intOf]; omega⟩
              simp only [up, fOf]
              rw [at_set _ _ _ _ (by rw [HLL.out]; exact hvn)]
              by_cases e : u = v
              · subst e; simp
              · simp [e]
        · have hjM2 : j = S.length := by have := HM.out; omega
          have HE : Hid (SeePost w0 Q F n l1 l2 l3 (fun f' => ∃ L, Beg n S L M ∧ f' = fOf L f) (.returned (.tuple #[])) wr) := ⟨rfl, _, ⟨L, by rw [HM.out, ← hjM2]; exact hBeg, rfl⟩, hL, hB⟩
          clear hBeg hL hB hjM2
          go_wp2
          go_end0
          exact HE.out
end Go.Proofs.Ythoklgdlnmccmaa

/- What the edges say of each vertex, edge by edge. Plain. -/
namespace Go.Proofs.Ythoklgdlnmccmaa
set_option linter.unusedVariables false
section
variable {n : Nat} {st tl wt : List Int} {k : Int} {V Y D B : List Int}
/-- The edge e shows that the label of v is too great. -/
def abE (n : Nat) (st tl wt : List Int) (k : Int) (V : List Int) (e v : Nat) : Bool := decide (tov tl e = v ∧ at_ V (src st n e) ≠ Nev ∧ ext k (at_ V (src st n e)) (at_ wt e) < at_ V v)
/-- The edge e gives v its label and its depth, and By names it. -/
def tiE (n : Nat) (st tl wt : List Int) (k : Int) (V Y D : List Int) (e v : Nat) : Bool := decide (tov tl e = v ∧ at_ V (src st n e) ≠ Nev ∧ at_ Y v = (e : Int) ∧ at_ V v = ext k (at_ V (src st n e)) (at_ wt e) ∧ 0 ≤ at_ D (src st n e) ∧ 1 ≤ at_ D v ∧ at_ D v - 1 = at_ D (src st n e))
def abP (n : Nat) (st tl wt : List Int) (k : Int) (V : List Int) : Nat → Nat → Bool
  | 0, _ => false
  | p + 1, v => abP n st tl wt k V p v || abE n st tl wt k V p v
def tiP (n : Nat) (st tl wt : List Int) (k : Int) (V Y D : List Int) : Nat → Nat → Bool
  | 0, _ => false
  | p + 1, v => tiP n st tl wt k V Y D p v || tiE n st tl wt k V Y D p v
def fAt (n : Nat) (st tl wt : List Int) (k : Int) (V Y D B : List Int) (p : Nat) : Nat → Fnd := fun v => (at_ B v, abP n st tl wt k V p v, tiP n st tl wt k V Y D p v)
theorem fAt_skip {p : Nat} (h : at_ V (src st n p) = Nev) (v : Nat) : fAt n st tl wt k V Y D B (p + 1) v = fAt n st tl wt k V Y D B p v := by
  have e1 : abE n st tl wt k V p v = false := by unfold abE; simp [h]
  have e2 : tiE n st tl wt k V Y D p v = false := by unfold tiE; simp [h]
  unfold fAt
  simp only [abP, tiP, e1, e2, Bool.or_false]
theorem fAt_skips {p q : Nat} (h : ∀ e, p ≤ e → e < q → at_ V (src st n e) = Nev) (hq : p ≤ q) (v : Nat) : fAt n st tl wt k V Y D B q v = fAt n st tl wt k V Y D B p v := by
  induction q with
  | zero => have : p = 0 := by omega
            rw [this]
  | succ q ih =>
    rcases Nat.lt_or_ge p (q + 1) with h1 | h1
    · rw [fAt_skip (h q (by omega) (by omega)), ih (fun e h2 h3 => h e h2 (by omega)) (by omega)]
    · have : p = q + 1 := by omega
      rw [this]
/-- One edge from a vertex that is reached. -/
theorem fAt_step {p t : Nat} (ht : tov tl p = t) (hu : at_ V (src st n p) ≠ Nev) (c1 c2 : Bool) (h1 : c1 = decide (ext k (at_ V (src st n p)) (at_ wt p) < at_ V t)) (h2 : c2 = decide (at_ Y t = (p : Int) ∧ at_ V t = ext k (at_ V (src st n p)) (at_ wt p) ∧ 0 ≤ at_ D (src st n p) ∧ 1 ≤ at_ D t ∧ at_ D t - 1 = at_ D (src st n p))) (v : Nat) :
    fAt n st tl wt k V Y D B (p + 1) v = if v = t then (at_ B v, abP n st tl wt k V p v || c1, tiP n st tl wt k V Y D p v || c2) else fAt n st tl wt k V Y D B p v := by
  unfold fAt
  simp only [abP, tiP]
  by_cases e : v = t
  · subst e
    rw [if_pos rfl]
    have e1 : abE n st tl wt k V p v = c1 := by rw [h1]; unfold abE; simp [ht, hu]
    have e2 : tiE n st tl wt k V Y D p v = c2 := by rw [h2]; unfold tiE; simp [ht, hu]
    rw [e1, e2]
  · rw [if_neg e]
    have e1 : abE n st tl wt k V p v = false := by unfold abE; simp [ht]; intro h; exact absurd h.symm e
    have e2 : tiE n st tl wt k V Y D p v = false := by unfold tiE; simp [ht]; intro h; exact absurd h.symm e
    rw [e1, e2, Bool.or_false, Bool.or_false]
theorem fAt_zero (f : Nat → Fnd) (h : ∀ v, v < n → (f v).2 = (false, false)) (v : Nat) (hv : v < n) : fOf B f v = fAt n st tl wt k V Y D B 0 v := by
  unfold fOf fAt
  rw [h v hv]
  rfl
end
end Go.Proofs.Ythoklgdlnmccmaa

/- seeEdges, isNext. -/
namespace Go.Proofs.Ythoklgdlnmccmaa
open Go.RowKit Go.Lib
set_option linter.unusedVariables false
set_option maxRecDepth 100000 in
theorem isNext_any (a d : Int) (w : World) (hd : d ≤ 9223372036854775807) : Calls Try.prog 135 #[.int .i64 a, .int .i64 d] w fun e w' => e = .returned (.bool (decide (0 ≤ a ∧ 1 ≤ d ∧ d - 1 = a))) ∧ w' = w := by
  by_cases h1 : 0 ≤ a
  · by_cases h2 : 1 ≤ d
    · have h3 : IntKind.i64.wrap (d - 1) = d - 1 := IntWalk.i64_in (d - 1) (by omega)
      go_enter Try.func135, Try.ntmps135
      go_wp2
      go_ret
      exact ⟨by simp [h1, h2]; rw [Bool.eq_iff_iff]; simp, rfl⟩
    · go_enter Try.func135, Try.ntmps135
      go_wp2
      go_ret
      exact ⟨by simp; omega, rfl⟩
  · go_enter Try.func135, Try.ntmps135
    go_wp2
    go_ret
    exact ⟨by simp; omega, rfl⟩
theorem RowAt.cellOf {k : IntKind} {w : World} {g o n c : Nat} {xs : List Int} (h : RowAt k w (.slice (some ⟨g, o, none⟩) n c) xs) {i : Nat} (hi : i < xs.length) : w.cell? ⟨g, o + i, none⟩ = some (.int k (at_ xs i)) := by
  obtain ⟨g', o', c', he, _, _, hc⟩ := h.spot (by intro e; rw [e] at hi; simp at hi)
  simp only [Value.slice.injEq, Option.some.injEq, Addr.mk.injEq] at he
  obtain ⟨⟨rfl, rfl, _⟩, _⟩ := he
  exact hc i hi
/-- seeEdges' memory: the look, the graph's box. -/
structure EM (w0 wr : World) (Q F X n : Nat) (va vb vc l1 l2 l3 : Value) (f : Nat → Fnd) : Prop where
  lk : LK wr Q F n l1 l2 l3 f
  box : wr.heap[X]? = some (.cells #[.int .i64 n, va, vb, vc] 32 (0, 0))
  bel : Below w0.heap.size w0 wr
  lt : F < X
section
variable {w0 wr w' : World} {Q F X n : Nat} {va vb vc l1 l2 l3 : Value} {f f' : Nat → Fnd}
theorem EM.below (h : EM w0 wr Q F X n va vb vc l1 l2 l3 f) (hb : Below wr.heap.size wr w') : EM w0 w' Q F X n va vb vc l1 l2 l3 f := ⟨h.lk.below hb, (hb.block _ (lt_of_heap h.box)).trans h.box, below_on h.bel hb, h.lt⟩
theorem EM.turn (h : EM w0 wr Q F X n va vb vc l1 l2 l3 f) (hQ : w0.heap.size ≤ F) {i : Nat} {u : Value} (hf : FA (wr.setCell ⟨F, i, none⟩ u) F n f') : EM w0 (wr.setCell ⟨F, i, none⟩ u) Q F X n va vb vc l1 l2 l3 f' :=
  have h1 := h.lt
  ⟨h.lk.turn hf, (Below.heap_setCell _ _ _ _ (show X ≠ F by omega)).trans h.box, h.bel.setCell (p := ⟨F, i, none⟩) (show w0.heap.size ≤ F by omega) _, h1⟩
theorem EM.ext (h : EM w0 wr Q F X n va vb vc l1 l2 l3 f) (he : ∀ v, v < n → f v = f' v) : EM w0 wr Q F X n va vb vc l1 l2 l3 f' := ⟨h.lk.ext he, h.box, h.bel, h.lt⟩
end
set_option maxRecDepth 100000 in
set_option maxHeartbeats 8000000 in
theorem seeEdges_any (Q F n : Nat) (va vb vc l1 l2 l3 : Value) (st tl wt : List Int) (k : Int) (V Y D B : List Int) (w0 w : World) (hk : LK w Q F n l1 l2 l3 (fAt n st tl wt k V Y D B 0)) (hb0 : Below w0.heap.size w0 w) (hQ : w0.heap.size ≤ F) (hg : GIs w0 n va vb vc st tl wt) (hgd : Good n st tl wt)
    (hkd : 1 ≤ k ∧ k ≤ 4) (hwb : ∀ e, 0 ≤ at_ wt e ∧ at_ wt e ≤ 18446744073709551615) (h1 : RowAt .u64 w0 l1 V) (h2 : RowAt .i64 w0 l2 Y) (h3 : RowAt .i64 w0 l3 D) (hV : V.length = n) (hY : Y.length = n) (hD : D.length = n) (hVb : ∀ v, 0 ≤ at_ V v ∧ at_ V v ≤ 18446744073709551615) (hDb : ∀ v, at_ D v ≤ 9223372036854775807) :
    Calls Try.prog 112 #[.pointer (some ⟨Q, 0, none⟩), gAgg n va vb vc, .int .i64 k] w (SeePost w0 Q F n l1 l2 l3 (fun f' => f' = fAt n st tl wt k V Y D B tl.length)) := by
  have hn := hgd.n_le
  have hm := hgd.m_le
  obtain ⟨ao, ca, rfl⟩ := hg.s.shape
  obtain ⟨bo, cb, rfl⟩ := hg.t.shape
  obtain ⟨co, cc, rfl⟩ := hg.u.shape
  obtain ⟨o1, k1, rfl⟩ := h1.shape
  obtain ⟨o2, k2, rfl⟩ := h2.shape
  obtain ⟨o3, k3, rfl⟩ := h3.shape
  have HE0 : Hid (EM w0 (w.alloc (.cells #[.int .i64 n, .slice ao st.length ca, .slice bo tl.length cb, .slice co wt.length cc] 32)) Q F w.heap.size n (.slice ao st.length ca) (.slice bo tl.length cb) (.slice co wt.length cc) (.slice o1 V.length k1) (.slice o2 Y.length k2) (.slice o3 D.length k3) (fAt n st tl wt k V Y D B 0)) :=
    ⟨hk.below (below_alloc (Below.refl _ _) _), heap_new _ _, below_on hb0 (below_alloc (Below.refl _ _) _), hk.fa.lt⟩
  have HG := hide hg; have HGD := hide hgd; have HWB := hide hwb; have H1 := hide h1; have H2 := hide h2; have H3 := hide h3; have HVB := hide hVb; have HDB := hide hDb
  have HVL := hide hV; have HYL := hide hY; have HDL := hide hD
  have x0 := cell_of HE0.out.box (i := 0) rfl
  unfold gAgg
  clear hg hgd hwb h1 h2 h3 hVb hDb hk hb0 hV hY hD
  go_enter Try.func112, Try.ntmps112
  go_wp2_with fail
  generalize (w.alloc (.cells #[.int .i64 n, .slice ao st.length ca, .slice bo tl.length cb, .slice co wt.length cc] 32)) = w1 at HE0 x0 ⊢
  generalize w.heap.size = X at HE0 x0 ⊢
  go_loopw [13, 6, 7, 8, 9, 10] (fun t _ _ _ _ _ wr => ∃ u : Nat, u ≤ n ∧ t = .int .i64 u ∧ EM w0 wr Q F X n (.slice ao st.length ca) (.slice bo tl.length cb) (.slice co wt.length cc) (.slice o1 V.length k1) (.slice o2 Y.length k2) (.slice o3 D.length k3) (fAt n st tl wt k V Y D B (at_ st u).toNat)) (fun t _ _ _ _ _ _ => n - (RowKit.intOf t).toNat)
  case atStart => exact ⟨0, Nat.zero_le _, rfl, HE0.out.ext (fun v hv => by rw [HGD.out.zero]; rfl)⟩
  case round =>
    obtain ⟨u, hun, rfl, hE⟩ := hrel
    clear HE0 x0
    by_cases hlt : u < n
    · have q0 := cell_of hE.lk.lh (i := 0) rfl
      have x1 := cell_of hE.box (i := 1) rfl
      have hsne : st ≠ [] := by intro h; have := HGD.out.s_len; rw [h] at this; simp at this
      have hVne : V ≠ [] := by intro h; have := HVL.out; rw [h] at this; simp at this; omega
      obtain ⟨gs, os, cs', he, hs1, hs2, hcs⟩ := (HG.out.below hE.bel).s.spot hsne
      simp only [Value.slice.injEq] at he
      obtain ⟨rfl, _, rfl⟩ := he
      obtain ⟨gv, ov, cv', he, hv1, hv2, hcv⟩ := (H1.out.below hE.bel).spot hVne
      simp only [Value.slice.injEq] at he
      obtain ⟨rfl, _, rfl⟩ := he
      have s0 := hcs u (by rw [HGD.out.s_len]; omega)
      have v0 := hcv u (by rw [HVL.out]; exact hlt)
      have hr0 := HGD.out.range u (by omega)
      have hr1 := HGD.out.range (u + 1) (by omega)
      have hst1 := HGD.out.step u hlt
      obtain ⟨p0, hp0⟩ : ∃ p0 : Nat, at_ st u = (p0 : Int) := ⟨(at_ st u).toNat, by omega⟩
      obtain ⟨p1, hp1⟩ : ∃ p1 : Nat, at_ st (u + 1) = (p1 : Int) := ⟨(at_ st (u + 1)).toNat, by omega⟩
      rw [show st[u]?.getD 0 = at_ st u from rfl, hp0] at s0
      rw [show V[u]?.getD 0 = at_ V u from rfl] at v0
      obtain ⟨y, hy⟩ : ∃ y, y = at_ V u := ⟨_, rfl⟩
      rw [← hy] at v0
      have hvl : (u : Int) < (V.length : Int) := by rw [HVL.out]; omega
      have hsl : (u : Int) + 1 < (st.length : Int) := by rw [HGD.out.s_len]; omega
      have hyb := HVB.out u
      rw [← hy] at hyb
      have HE := hide hE
      have HP0 := hide hp0; have HP1 := hide hp1; have HY0 := hide hy
      have hSRC : Hid (∀ e, p0 ≤ e → e < p1 → src st n e = u) := fun e h1 h2 => src_eq HGD.out hlt (by rw [hp0]; omega) (by rw [hp1]; omega)
      have hpp : p0 ≤ p1 ∧ p1 ≤ tl.length := by omega
      clear hE hcv hr0 hr1 hst1 hp0 hp1 hy hcs
      by_cases hnev : y = 18446744073709551615
      · have hnb : (y == 18446744073709551615) = true := by simp [hnev]
        go_wp2_with fail
        refine ⟨⟨u + 1, by omega, by simp, HE.out.ext (fun v hv => ?_)⟩, by simp [RowKit.intOf]; omega⟩
        rw [HP0.out, HP1.out, Int.toNat_natCast, Int.toNat_natCast]
        exact (fAt_skips (fun e h1 h2 => by rw [hSRC.out e h1 h2, ← HY0.out, hnev]; rfl) hpp.1 v).symm
      · have hnb : (y == 18446744073709551615) = false := by simp [hnev]
        have hYne : Y ≠ [] := by intro h; have := HYL.out; rw [h] at this; simp at this; omega
        have hDne : D ≠ [] := by intro h; have := HDL.out; rw [h] at this; simp at this; omega
        obtain ⟨gy, oy, cy', he, _, _, _⟩ := H2.out.spot hYne
        simp only [Value.slice.injEq] at he
        obtain ⟨rfl, _, rfl⟩ := he
        obtain ⟨gd, od, cd', he, _, _, _⟩ := H3.out.spot hDne
        simp only [Value.slice.injEq] at he
        obtain ⟨rfl, _, rfl⟩ := he
        go_wp2_with fail
        clear s0 v0 q0 x1
        go_loopw [7, 8, 9, 10] (fun t _ _ _ wr => ∃ p : Nat, p0 ≤ p ∧ p ≤ p1 ∧ t = .int .i64 p ∧ EM w0 wr Q F X n (.slice (some ⟨gs, os, none⟩) st.length ca) (.slice bo tl.length cb) (.slice co wt.length cc) (.slice (some ⟨gv, ov, none⟩) V.length k1) (.slice (some ⟨gy, oy, none⟩) Y.length k2) (.slice (some ⟨gd, od, none⟩) D.length k3) (fAt n st tl wt k V Y D B p)) (fun t _ _ _ _ => p1 - (RowKit.intOf t).toNat)
        case atStart => exact ⟨p0, Nat.le_refl _, hpp.1, rfl, HE.out.ext (fun v hv => by rw [HP0.out, Int.toNat_natCast])⟩
        case round =>
          obtain ⟨p, hp0, hp1, rfl, hE⟩ := hrel
          clear HE
          have s1 : _ := (HG.out.below hE.bel).s.cellOf (i := u + 1) (by rw [HGD.out.s_len]; omega)
          rw [HP1.out] at s1
          have x1 := cell_of hE.box (i := 1) rfl
          have hsl2 : (u : Int) + 1 < (st.length : Int) := hsl
          by_cases hlt2 : p < p1
          · have hpm : p < tl.length := by omega
            have htne : tl ≠ [] := by intro h; rw [h] at hpm; exact absurd hpm (Nat.not_lt_zero _)
            have hwlen := HGD.out.w_len
            have hwne : wt ≠ [] := by intro h; rw [h] at hwlen; simp at hwlen; omega
            obtain ⟨gt, ot, ct', he, _, _, _⟩ := HG.out.t.spot htne
            simp only [Value.slice.injEq] at he
            obtain ⟨rfl, _, rfl⟩ := he
            obtain ⟨gw, ow, cw', he, _, _, _⟩ := HG.out.u.spot hwne
            simp only [Value.slice.injEq] at he
            obtain ⟨rfl, _, rfl⟩ := he
            have x2 := cell_of hE.box (i := 2) rfl
            have t0 := (HG.out.below hE.bel).t.cellOf hpm
            have hvt := HGD.out.vtx p hpm
            obtain ⟨t, ht⟩ : ∃ t : Nat, at_ tl p = (t : Int) := ⟨(at_ tl p).toNat, by omega⟩
            rw [ht] at t0 hvt
            have htn : t < n := by omega
            have hpt : (p : Int) < (tl.length : Int) := by omega
            have hpw : (p : Int) < (wt.length : Int) := by omega
            have htv : (t : Int) < (V.length : Int) := by rw [HVL.out]; omega
            have hty : (t : Int) < (Y.length : Int) := by rw [HYL.out]; omega
            have htd : (t : Int) < (D.length : Int) := by rw [HDL.out]; omega
            have hud : (u : Int) < (D.length : Int) := by rw [HDL.out]; omega
            have hsrc := hSRC.out p hp0 hlt2
            have htov : tov tl p = t := by unfold tov; rw [ht]; exact Int.toNat_natCast _
            obtain ⟨z, hz⟩ : ∃ z, z = at_ wt p := ⟨_, rfl⟩
            have hzb := HWB.out p
            rw [← hz] at hzb
            obtain ⟨l, hl⟩ : ∃ l, l = ext k y z := ⟨_, rfl⟩
            have HEX := hide (fun (W : World) => extendE_any k y z W hyb.1 hyb.2 hzb.1 hzb.2)
            have hk0 : kindNo k = 0 := kindNo_ok hkd
            unfold extNo at HEX
            rw [if_pos hk0, hk0, ← hl] at HEX
            have HE := hide hE
            have HT := hide ht; have HZ := hide hz; have HSR := hide hsrc; have HTO := hide htov; have HLX := hide hl
            clear hE ht hz hsrc htov hl hk0 htne hwne hwlen
            go_wp2_with fail
            have e0 : ∀ x : GW wr, x.world.cell? ⟨Q, 0, none⟩ = some (.slice (some ⟨gv, ov, none⟩) V.length k1) := fun x => cell_of (HE.out.below x.bel).lk.lh rfl
            have e1 : ∀ x : GW wr, x.world.cell? ⟨gv, ov + u, none⟩ = some (.int .u64 y) := fun x => by rw [HY0.out]; exact (H1.out.below (HE.out.below x.bel).bel).cellOf (by rw [HVL.out]; exact hlt)
            have e2 : ∀ x : GW wr, x.world.cell? ⟨X, 3, none⟩ = some (.slice (some ⟨gw, ow, none⟩) wt.length cc) := fun x => cell_of (HE.out.below x.bel).box rfl
            have e3 : ∀ x : GW wr, x.world.cell? ⟨gw, ow + p, none⟩ = some (.int .u64 z) := fun x => by rw [HZ.out]; exact (HG.out.below (HE.out.below x.bel).bel).u.cellOf (by omega)
            have HEXG : Hid (∀ x : GW wr, Calls Try.prog 19 #[.int .i64 k, .int .u64 y, .int .u64 z] x.world fun e w' => e = .returned (.tuple #[.int .u64 l, .int .i64 0]) ∧ Below x.world.heap.size x.world w') := fun x => (HEX.out x.world).mono fun e w' h => ⟨h.1, by rw [h.2]; exact Below.refl _ _⟩
            refine wp_region_gw (by kernel_rfl) (by kernel_rfl) ?_
            repeat (go_big_quiet_step (first
              | (go_at_call 19; with_reducible exact gw_of (HEXG.out _))
              | rfl))
            refine wpQuiet_nil ?_
            intro _ hw'
            obtain ⟨xg, hw''⟩ := hw'
            subst hw''
            have HE2 := hide (HE.out.below xg.bel)
            generalize xg.world = wA at HE2 ⊢
            clear e0 e1 e2 e3 HEXG HEX HE xg t0 x2 x1 s1
            obtain ⟨a, ha⟩ : ∃ a, a = at_ V t := ⟨_, rfl⟩
            have q0 := cell_of HE2.out.lk.lh (i := 0) rfl
            have a0 : wA.cell? ⟨gv, ov + t, none⟩ = some (.int .u64 a) := by rw [ha]; exact (H1.out.below HE2.out.bel).cellOf (by rw [HVL.out]; exact htn)
            have HAV := hide ha
            clear ha
            go_upto_if 72 with fail
            go_cut [] from 63 to 79 (fun wx => EM w0 wx Q F X n (.slice (some ⟨gs, os, none⟩) st.length ca) (.slice (some ⟨gt, ot, none⟩) tl.length cb) (.slice (some ⟨gw, ow, none⟩) wt.length cc) (.slice (some ⟨gv, ov, none⟩) V.length k1) (.slice (some ⟨gy, oy, none⟩) Y.length k2) (.slice (some ⟨gd, od, none⟩) D.length k3) (fun v => if v = t then (at_ B v, abP n st tl wt k V p v || decide (l < a), tiP n st tl wt k V Y D p v) else fAt n st tl wt k V Y D B p v))
            case first =>
              by_cases hc : l < a
              · have hcb : decide (l < a) = true := decide_eq_true hc
                have q3 := cell_of HE2.out.lk.lh (i := 3) rfl
                have f0 := (HE2.out.lk.fa.at htn).2.1
                have f1 := HE2.out.lk.fa.free (t * 3 + 1)
                go_wp2_with fail
                go_meet
                case rel =>
                  refine (HE2.out.turn hQ (HE2.out.lk.fa.put1 htn true)).ext (fun v hv => ?_)
                  simp only [up, hcb, Bool.or_true]
                  by_cases e : v = t
                  · subst e; simp [fAt]
                  · simp [e]
              · have hcb : decide (l < a) = false := decide_eq_false hc
                go_wp2_with fail
                go_meet
                case rel =>
                  refine HE2.out.ext (fun v hv => ?_)
                  simp only [hcb, Bool.or_false]
                  by_cases e : v = t
                  · subst e; simp [fAt]
                  · simp [e]
            case rest =>
              have HE3 := hide hcut
              clear hcut HE2 q0 a0
              obtain ⟨b, hb⟩ : ∃ b, b = at_ Y t := ⟨_, rfl⟩
              obtain ⟨d, hd⟩ : ∃ d, d = at_ D t := ⟨_, rfl⟩
              obtain ⟨du, hdu⟩ : ∃ du, du = at_ D u := ⟨_, rfl⟩
              have HSTEP : Hid (∀ c2, c2 = decide (b = (p : Int) ∧ a = l ∧ 0 ≤ du ∧ 1 ≤ d ∧ d - 1 = du) → ∀ v, fAt n st tl wt k V Y D B (p + 1) v = if v = t then (at_ B v, abP n st tl wt k V p v || decide (l < a), tiP n st tl wt k V Y D p v || c2) else fAt n st tl wt k V Y D B p v) := fun c2 h2 v => by
                refine fAt_step HTO.out (by rw [HSR.out, ← HY0.out]; exact hnev) _ _ ?_ ?_ v
                · rw [HSR.out, ← HY0.out, ← HZ.out, ← HLX.out, ← HAV.out]
                · rw [h2, HSR.out, ← HY0.out, ← HZ.out, ← HLX.out, ← HAV.out, ← hb, ← hd, ← hdu]
              have e0 : ∀ x : GW wc, x.world.cell? ⟨Q, 0, none⟩ = some (.slice (some ⟨gv, ov, none⟩) V.length k1) := fun x => cell_of (HE3.out.below x.bel).lk.lh rfl
              have e1 : ∀ x : GW wc, x.world.cell? ⟨Q, 1, none⟩ = some (.slice (some ⟨gy, oy, none⟩) Y.length k2) := fun x => cell_of (HE3.out.below x.bel).lk.lh rfl
              have e2 : ∀ x : GW wc, x.world.cell? ⟨Q, 2, none⟩ = some (.slice (some ⟨gd, od, none⟩) D.length k3) := fun x => cell_of (HE3.out.below x.bel).lk.lh rfl
              have c0 : ∀ x : GW wc, x.world.cell? ⟨gv, ov + t, none⟩ = some (.int .u64 a) := fun x => by rw [HAV.out]; exact (H1.out.below (HE3.out.below x.bel).bel).cellOf (by rw [HVL.out]; exact htn)
              have c1 : ∀ x : GW wc, x.world.cell? ⟨gy, oy + t, none⟩ = some (.int .i64 b) := fun x => by rw [hb]; exact (H2.out.below (HE3.out.below x.bel).bel).cellOf (by rw [HYL.out]; exact htn)
              have c2 : ∀ x : GW wc, x.world.cell? ⟨gd, od + t, none⟩ = some (.int .i64 d) := fun x => by rw [hd]; exact (H3.out.below (HE3.out.below x.bel).bel).cellOf (by rw [HDL.out]; exact htn)
              have c3 : ∀ x : GW wc, x.world.cell? ⟨gd, od + u, none⟩ = some (.int .i64 du) := fun x => by rw [hdu]; exact (H3.out.below (HE3.out.below x.bel).bel).cellOf (by rw [HDL.out]; exact hlt)
              have hdb := HDB.out t
              rw [← hd] at hdb
              clear hd hdu hb
              obtain ⟨nx, hnx⟩ : ∃ nx : Bool, nx = decide (0 ≤ du ∧ 1 ≤ d ∧ d - 1 = du) := ⟨_, rfl⟩
              have HNX : Hid (∀ x : GW wc, Calls Try.prog 135 #[.int .i64 du, .int .i64 d] x.world fun e w' => e = .returned (.bool nx) ∧ Below x.world.heap.size x.world w') := fun x => (isNext_any du d x.world hdb).mono fun e w' h => ⟨by rw [hnx]; exact h.1, by rw [h.2]; exact Below.refl _ _⟩
              have HN := hide hnx
              clear hnx
              by_cases hb1 : b = (p : Int)
              · have hbb : (b == (p : Int)) = true := by simp [hb1]
                by_cases ha1 : a = l
                · have hab : (a == l) = true := by simp [ha1]
                  have HB1 := hide hb1; have HA1 := hide ha1
                  clear hb1 ha1
                  cases nx with
                  | true =>
                    go_wp2_with fail
                    refine wp_region_gw (by kernel_rfl) (by kernel_rfl) ?_
                    repeat (go_big_quiet_step (first
                      | (go_at_call 135; with_reducible exact gw_of (HNX.out _))
                      | rfl))
                    refine wpQuiet_nil ?_
                    intro _ hw'
                    obtain ⟨xg, hw''⟩ := hw'
                    subst hw''
                    have HE4 := hide (HE3.out.below xg.bel)
                    generalize xg.world = wB at HE4 ⊢
                    clear e0 e1 e2 c0 c1 c2 c3 HNX

                    have q3 := cell_of HE4.out.lk.lh (i := 3) rfl
                    have f0 := (HE4.out.lk.fa.at htn).2.2
                    have f1 := HE4.out.lk.fa.free (t * 3 + 2)
                    go_wp2_with fail
                    refine ⟨⟨p + 1, by omega, by omega, by simp, (HE4.out.turn hQ (HE4.out.lk.fa.put2 htn true)).ext (fun v hv => ?_)⟩, by simp [RowKit.intOf]; omega⟩
                    rw [HSTEP.out true (decide_eq_true ⟨HB1.out, HA1.out, of_decide_eq_true HN.out.symm⟩).symm v]
                    simp only [up, Bool.or_true]
                    by_cases e : v = t
                    · subst e; simp
                    · simp [e]
                  | false =>
                    go_wp2_with fail
                    refine wp_region_gw (by kernel_rfl) (by kernel_rfl) ?_
                    repeat (go_big_quiet_step (first
                      | (go_at_call 135; with_reducible exact gw_of (HNX.out _))
                      | rfl))
                    refine wpQuiet_nil ?_
                    intro _ hw'
                    obtain ⟨xg, hw''⟩ := hw'
                    subst hw''
                    have HE4 := hide (HE3.out.below xg.bel)
                    generalize xg.world = wB at HE4 ⊢
                    clear e0 e1 e2 c0 c1 c2 c3 HNX
                    go_wp2_with fail
                    refine ⟨⟨p + 1, by omega, by omega, by simp, HE4.out.ext (fun v hv => ?_)⟩, by simp [RowKit.intOf]; omega⟩
                    rw [HSTEP.out false (decide_eq_false (by intro h; exact absurd (decide_eq_true h.2.2) (by rw [← HN.out]; decide))).symm v]
                    simp only [Bool.or_false]
                · have hab : (a == l) = false := by simp [ha1]
                  have HA1 := hide ha1
                  clear ha1 hb1
                  go_wp2_with fail
                  refine wp_region_gw (by kernel_rfl) (by kernel_rfl) ?_
                  repeat (go_big_quiet_step (first | rfl))
                  refine wpQuiet_nil ?_
                  intro _ hw'
                  obtain ⟨xg, hw''⟩ := hw'
                  subst hw''
                  have HE4 := hide (HE3.out.below xg.bel)
                  generalize xg.world = wB at HE4 ⊢
                  clear e0 e1 e2 c0 c1 c2 c3 HNX
                  go_wp2_with fail
                  refine ⟨⟨p + 1, by omega, by omega, by simp, HE4.out.ext (fun v hv => ?_)⟩, by simp [RowKit.intOf]; omega⟩
                  rw [HSTEP.out false (decide_eq_false (by intro h; exact HA1.out h.2.1)).symm v]
                  simp only [Bool.or_false]
              · have hbb : (b == (p : Int)) = false := by simp [hb1]
                have HB1 := hide hb1
                clear hb1
                go_wp2_with fail
                refine wp_region_gw (by kernel_rfl) (by kernel_rfl) ?_
                repeat (go_big_quiet_step (first | rfl))
                refine wpQuiet_nil ?_
                intro _ hw'
                obtain ⟨xg, hw''⟩ := hw'
                subst hw''
                have HE4 := hide (HE3.out.below xg.bel)
                generalize xg.world = wB at HE4 ⊢
                clear e0 e1 e2 c0 c1 c2 c3 HNX
                go_wp2_with fail
                refine ⟨⟨p + 1, by omega, by omega, by simp, HE4.out.ext (fun v hv => ?_)⟩, by simp [RowKit.intOf]; omega⟩
                rw [HSTEP.out false (decide_eq_false (by intro h; exact HB1.out h.1)).symm v]
                simp only [Bool.or_false]
          · have hpe : p = p1 := by omega
            have HE2 := hide (hE.ext (f' := fAt n st tl wt k V Y D B (at_ st (u + 1)).toNat) (fun v hv => by rw [hpe, HP1.out, Int.toNat_natCast]))
            clear hE hpe
            go_wp2_with fail
            refine ⟨⟨u + 1, by omega, by simp, HE2.out⟩, by simp [RowKit.intOf]; omega⟩
    · have hun2 : u = n := by omega
      have HEnd : Hid (SeePost w0 Q F n (.slice o1 V.length k1) (.slice o2 Y.length k2) (.slice o3 D.length k3) (fun f' => f' = fAt n st tl wt k V Y D B tl.length) (.returned (.tuple #[])) wr) := ⟨rfl, _, rfl, (hE.ext (fun v hv => by rw [hun2, HGD.out.last, Int.toNat_natCast])).lk, hE.bel⟩
      clear hE hun2
      go_wp2
      go_end0
      exact HEnd.out
end Go.Proofs.Ythoklgdlnmccmaa

/- holds. -/
namespace Go.Proofs.Ythoklgdlnmccmaa
open Go.RowKit Go.Lib
set_option linter.unusedVariables false
/-- What a voucher must say of a vertex: its label a, its edge b, its depth d; a start's label, above, tight. -/
def hv (a b d bv : Int) (ab ti : Bool) : Bool := if bv < a then false else if ab then false else if b = -1 then decide (d = 0 ∧ a = bv) else ti
set_option maxRecDepth 100000 in
set_option maxHeartbeats 4000000 in
theorem holds_any (Q F n v : Nat) (l1 l2 l3 : Value) (f : Nat → Fnd) (V Y D : List Int) (w0 w : World) (hk : LK w Q F n l1 l2 l3 f) (hb0 : Below w0.heap.size w0 w) (hvn : v < n) (hn : n ≤ 1048576) (h1 : RowAt .u64 w0 l1 V) (h2 : RowAt .i64 w0 l2 Y) (h3 : RowAt .i64 w0 l3 D) (hV : V.length = n) (hY : Y.length = n) (hD : D.length = n) :
    Calls Try.prog 113 #[.pointer (some ⟨Q, 0, none⟩), .int .i64 v] w fun e w' => e = .returned (.bool (hv (at_ V v) (at_ Y v) (at_ D v) (f v).1 (f v).2.1 (f v).2.2)) ∧ Below w.heap.size w w' := by
  obtain ⟨g1, p1, k1, rfl, _, _, _⟩ := h1.spot (by intro h; rw [h] at hV; simp at hV; omega)
  obtain ⟨g2, p2, k2, rfl, _, _, _⟩ := h2.spot (by intro h; rw [h] at hY; simp at hY; omega)
  obtain ⟨g3, p3, k3, rfl, _, _, _⟩ := h3.spot (by intro h; rw [h] at hD; simp at hD; omega)
  obtain ⟨a0, a1, a2⟩ := hk.fa.at hvn
  have q3 := cell_of hk.lh (i := 3) rfl
  obtain ⟨⟨bv, ab, ti⟩, hf⟩ : ∃ x, x = f v := ⟨_, rfl⟩
  rw [← hf] at a0 a1 a2 ⊢
  have hba := below_alloc (Below.refl w.heap.size w) (.cells #[.int .u64 bv, .bool ab, .bool ti] 193)
  obtain ⟨w1, hw1⟩ : ∃ w1, w1 = w.alloc (.cells #[.int .u64 bv, .bool ab, .bool ti] 193) := ⟨_, rfl⟩
  have hbx := heap_new w (.cells #[.int .u64 bv, .bool ab, .bool ti] 193)
  rw [← hw1] at hba hbx
  have HK1 := hide (hk.below hba)
  have hb1 := below_on hb0 hba
  have b0 := cell_of hbx (i := 0) rfl
  have b1 := cell_of hbx (i := 1) rfl
  have b2 := cell_of hbx (i := 2) rfl
  have q0 := cell_of HK1.out.lh (i := 0) rfl
  have q1 := cell_of HK1.out.lh (i := 1) rfl
  have q2 := cell_of HK1.out.lh (i := 2) rfl
  obtain ⟨a, ha⟩ : ∃ a, a = at_ V v := ⟨_, rfl⟩
  obtain ⟨b, hb⟩ : ∃ b, b = at_ Y v := ⟨_, rfl⟩
  obtain ⟨d, hd⟩ : ∃ d, d = at_ D v := ⟨_, rfl⟩
  have c0 := (h1.below hb1).cellOf (i := v) (by omega)
  have c1 := (h2.below hb1).cellOf (i := v) (by omega)
  have c2 := (h3.below hb1).cellOf (i := v) (by omega)
  rw [← ha] at c0 ⊢
  rw [← hb] at c1 ⊢
  rw [← hd] at c2 ⊢
  have i1 : (v : Int) < (V.length : Int) := by omega
  have i2 : (v : Int) < (Y.length : Int) := by omega
  have i3 : (v : Int) < (D.length : Int) := by omega
  have HBA := hide hba
  clear hba hbx hb1 ha hb hd hf hk hb0 h1 h2 h3 hV hY hD
  by_cases e1 : bv < a
  · have E1 : decide (bv < a) = true := decide_eq_true e1
    unfold hv
    rw [if_pos e1]
    go_enter Try.func113, Try.ntmps113
    go_wp2_with fail
    rw [← hw1]
    clear hw1
    go_quiet (fail)
    go_wp2
    go_ret
    exact ⟨rfl, below_drewN HBA.out _⟩
  · have E1 : decide (bv < a) = false := decide_eq_false e1
    unfold hv
    rw [if_neg e1]
    cases ab with
    | true =>
      go_enter Try.func113, Try.ntmps113
      go_wp2_with fail
      rw [← hw1]
      clear hw1
      go_quiet (fail)
      go_wp2
      go_ret
      exact ⟨rfl, below_drewN HBA.out _⟩
    | false =>
      by_cases e2 : b = -1
      · have E2 : (b == -1) = true := by simp [e2]
        by_cases e3 : d = 0
        · have E3 : (d == 0) = true := by simp [e3]
          by_cases e4 : a = bv
          · have E4 : (a == bv) = true := by simp [e4]
            have R : decide (d = 0 ∧ a = bv) = true := by simp [e3, e4]
            rw [if_neg (by simp), if_pos e2, R]
            clear e2 e3 e4 e1
            go_enter Try.func113, Try.ntmps113
            go_wp2_with fail
            rw [← hw1]
            clear hw1
            go_quiet (fail)
            go_wp2_with fail
            go_quiet (fail)
            go_wp2
            go_ret
            exact ⟨rfl, below_drewN (below_drewN HBA.out _) _⟩
          · have E4 : (a == bv) = false := by simp [e4]
            have R : decide (d = 0 ∧ a = bv) = false := by simp [e4]
            rw [if_neg (by simp), if_pos e2, R]
            clear e2 e3 e4 e1
            go_enter Try.func113, Try.ntmps113
            go_wp2_with fail
            rw [← hw1]
            clear hw1
            go_quiet (fail)
            go_wp2_with fail
            go_quiet (fail)
            go_wp2
            go_ret
            exact ⟨rfl, below_drewN (below_drewN HBA.out _) _⟩
        · have E3 : (d == 0) = false := by simp [e3]
          have R : decide (d = 0 ∧ a = bv) = false := by simp [e3]
          rw [if_neg (by simp), if_pos e2, R]
          clear e2 e3 e1
          go_enter Try.func113, Try.ntmps113
          go_wp2_with fail
          rw [← hw1]
          clear hw1
          go_quiet (fail)
          go_wp2_with fail
          go_quiet (fail)
          go_wp2
          go_ret
          exact ⟨rfl, below_drewN (below_drewN HBA.out _) _⟩
      · have E2 : (b == -1) = false := by simp [e2]
        rw [if_neg (by simp), if_neg e2]
        clear e2 e1
        go_enter Try.func113, Try.ntmps113
        go_wp2_with fail
        rw [← hw1]
        clear hw1
        go_quiet (fail)
        go_wp2
        go_ret
        exact ⟨rfl, below_drewN HBA.out _⟩
end Go.Proofs.Ythoklgdlnmccmaa

/- voucher.Check. -/
namespace Go.Proofs.Ythoklgdlnmccmaa
open Go.RowKit Go.Lib
set_option linter.unusedVariables false
theorem Try.info193 : (Try.prog.info? 193).map (fun i => (i.zero, i.size, i.bytes)) = some (some (.agg #[.int .u64 0, .bool false, .bool false]), 3, 16) := by kernel_rfl
def fObj (n : Nat) : Obj := .cells (madeCells (Value.agg #[.int .u64 0, .bool false, .bool false]).cells (n * 3)) 193
theorem run_makeF (n : Nat) (hn : n ≤ 1048576) (w : World) :
    (Instr.makeSlice 156 (.int .i64 n) (.int .i64 n)).run Try.prog w = .ok (.slice (some ⟨w.heap.size, 0, none⟩) n n) (w.alloc (fObj n)) := by
  obtain ⟨i0, hi, hz0, hz1, hz2⟩ := info_parts Try.info193
  have h := run_make (P := Try.prog) w 156 193 i0 (.agg #[.int .u64 0, .bool false, .bool false]) Try.underlying156 hi hz0 .i64 .i64 n n (by omega) (Int.le_refl _) (by rw [hz2]; omega) (by omega)
  rw [hz1] at h
  simp only [Int.toNat_natCast] at h
  exact h
theorem made_at (z : Array Value) {m i : Nat} (h : i < m) : (madeCells z m)[i]? = some (z[i % z.size]!) := by
  simp [madeCells, h]
theorem fa_made {w : World} {F n : Nat} (h : w.heap[F]? = some (fObj n)) : FA w F n (fun _ => (0, false, false)) := by
  have hz : (Value.agg #[.int .u64 0, .bool false, .bool false]).cells.size = 3 := rfl
  refine ⟨_, h, by simp [madeCells], fun j hj => ?_⟩
  refine ⟨?_, ?_, ?_⟩
  · rw [made_at _ (by omega), hz, show j * 3 % 3 = 0 by omega]; rfl
  · rw [made_at _ (by omega), hz, show (j * 3 + 1) % 3 = 1 by omega]; rfl
  · rw [made_at _ (by omega), hz, show (j * 3 + 2) % 3 = 2 by omega]; rfl
theorem lk_one {w : World} {n : Nat} {l1 l2 l3 : Value} : LK ((w.alloc (fObj n)).alloc (.cells #[l1, l2, l3, .slice (some ⟨w.heap.size, 0, none⟩) n n] 158)).drew (w.heap.size + 1) w.heap.size n l1 l2 l3 (fun _ => (0, false, false)) ∧ Below w.heap.size w ((w.alloc (fObj n)).alloc (.cells #[l1, l2, l3, .slice (some ⟨w.heap.size, 0, none⟩) n n] 158)).drew := by
  refine ⟨⟨?_, fa_made ?_, by omega⟩, below_drew (below_alloc (below_alloc (Below.refl _ _) _) _)⟩
  · have := heap_new (w.alloc (fObj n)) (.cells #[l1, l2, l3, .slice (some ⟨w.heap.size, 0, none⟩) n n] 158)
    rw [heap_drew]
    simpa using this
  · rw [heap_drew, heap_alloc_old _ _ (by simp)]; exact heap_new _ _
theorem lk_two {w : World} {n : Nat} {l1 l2 l3 : Value} : LK ((w.alloc (.cells #[l1, l2, l3, .slice (some ⟨w.heap.size + 1, 0, none⟩) n n] 158)).alloc (fObj n)).drew w.heap.size (w.heap.size + 1) n l1 l2 l3 (fun _ => (0, false, false)) ∧ Below w.heap.size w ((w.alloc (.cells #[l1, l2, l3, .slice (some ⟨w.heap.size + 1, 0, none⟩) n n] 158)).alloc (fObj n)).drew := by
  refine ⟨⟨?_, fa_made ?_, by omega⟩, below_drew (below_alloc (below_alloc (Below.refl _ _) _) _)⟩
  · rw [heap_drew, heap_alloc_old _ _ (by simp)]; exact heap_new _ _
  · have := heap_new (w.alloc (.cells #[l1, l2, l3, .slice (some ⟨w.heap.size + 1, 0, none⟩) n n] 158)) (fObj n)
    rw [heap_drew]
    simpa using this
/-- What the voucher must say of v is so. -/
def okAt (n : Nat) (st tl wt : List Int) (k : Int) (V Y D B : List Int) (v : Nat) : Bool := hv (at_ V v) (at_ Y v) (at_ D v) (at_ B v) (abP n st tl wt k V tl.length v) (tiP n st tl wt k V Y D tl.length v)
def ckAns (ok : Nat → Bool) (n : Nat) : Int × Int := match first (fun v => !ok v) n with | some v => (53, (v : Int)) | none => (0, 0)
theorem ck_some {ok : Nat → Bool} {n v : Nat} (hv : v < n) (h : ok v = false) (hb : ∀ u, u < v → ok u = true) : ckAns ok n = (53, (v : Int)) := by
  unfold ckAns
  rw [first_some (p := fun v => !ok v) hv (by simp [h]) (fun u hu => by simp [hb u hu])]
theorem ck_none {ok : Nat → Bool} {n : Nat} (hb : ∀ u, u < n → ok u = true) : ckAns ok n = (0, 0) := by
  unfold ckAns
  rw [first_none (p := fun v => !ok v) (fun u hu => by simp [hb u hu])]
theorem Beg.ex {n : Nat} {S : List Pr} (hok : Sok n S) : ∃ B, Beg n S B S.length := beg_is hok
set_option maxRecDepth 100000 in
set_option maxHeartbeats 8000000 in
theorem check_good (n : Nat) (va vb vc : Value) (st tl wt : List Int) (k : Int) (sv : Value) (S : List Pr) (l1 l2 l3 : Value) (V Y D B : List Int) (w : World) (hg : GIs w n va vb vc st tl wt) (hgd : Good n st tl wt) (hwb : ∀ e, 0 ≤ at_ wt e ∧ at_ wt e ≤ 18446744073709551615)
    (hs : SAt w sv S) (hok : Sok n S) (hS : S.length * 16 ≤ 140737488353280) (hno : srchNo n st tl wt k S = 0) (hkd : 1 ≤ k ∧ k ≤ 4) (hB : Beg n S B S.length) (h1 : RowAt .u64 w l1 V) (h2 : RowAt .i64 w l2 Y) (h3 : RowAt .i64 w l3 D) (hV : V.length = n) (hY : Y.length = n) (hD : D.length = n) (hVb : ∀ v, 0 ≤ at_ V v ∧ at_ V v ≤ 18446744073709551615) (hDb : ∀ v, at_ D v ≤ 9223372036854775807) :
    Calls Try.prog 64 #[gAgg n va vb vc, .int .i64 k, sv, .agg #[l1, l2, l3]] w fun e w' => e = .returned (.tuple #[.int .i64 (ckAns (okAt n st tl wt k V Y D B) n).1, .int .i64 (ckAns (okAt n st tl wt k V Y D B) n).2]) ∧ Below w.heap.size w w' := by
  have hn := hgd.n_le
  have hst : st.length ≤ 17592186044416 := by have := hgd.s_len; omega
  have hto : tl.length ≤ 17592186044416 := by have := hgd.m_le; omega
  have hwt : wt.length ≤ 17592186044416 := by have := hgd.w_len; have := hgd.m_le; omega
  obtain ⟨ao, ca, rfl⟩ := hg.s.shape
  obtain ⟨bo, cb, rfl⟩ := hg.t.shape
  obtain ⟨co, cc, rfl⟩ := hg.u.shape
  obtain ⟨so, sc, rfl, hsc, hscm⟩ := hs.shape
  obtain ⟨o1, k1, rfl⟩ := h1.shape
  obtain ⟨o2, k2, rfl⟩ := h2.shape
  obtain ⟨o3, k3, rfl⟩ := h3.shape
  obtain ⟨W1, hW1⟩ : ∃ W1, W1 = (w.alloc (.cells #[.int .i64 n, .slice ao st.length ca, .slice bo tl.length cb, .slice co wt.length cc] 32)).alloc (.cells #[.slice o1 V.length k1, .slice o2 Y.length k2, .slice o3 D.length k3] 103) := ⟨_, rfl⟩
  have hbW : Below w.heap.size w W1 := by rw [hW1]; exact below_alloc (below_alloc (Below.refl _ _) _) _
  have hA : W1.heap[w.heap.size]? = some (.cells #[.int .i64 n, .slice ao st.length ca, .slice bo tl.length cb, .slice co wt.length cc] 32 (0, 0)) := by
    rw [hW1, heap_alloc_old _ _ (by simp)]; exact heap_new _ _
  have hBx : W1.heap[w.heap.size + 1]? = some (.cells #[.slice o1 V.length k1, .slice o2 Y.length k2, .slice o3 D.length k3] 103 (0, 0)) := by
    rw [hW1]
    have := heap_new (w.alloc (.cells #[.int .i64 n, .slice ao st.length ca, .slice bo tl.length cb, .slice co wt.length cc] 32)) (.cells #[.slice o1 V.length k1, .slice o2 Y.length k2, .slice o3 D.length k3] 103)
    simpa using this
  have HTS := hide (termsS_any n _ _ _ st tl wt k _ S W1 (hg.below hbW) hst hto hwt (hs.below hbW))
  rw [hno] at HTS
  have HG := hide (hg.below hbW); have HS := hide (hs.below hbW); have H1 := hide (h1.below hbW); have H2 := hide (h2.below hbW); have H3 := hide (h3.below hbW)
  have HBW := hide hbW; have HA := hide hA; have HBX := hide hBx; have HGD := hide hgd; have HWB := hide hwb; have HOK := hide hok; have HBG := hide hB; have HVB := hide hVb; have HDB := hide hDb; have HVL := hide hV; have HYL := hide hY; have HDL := hide hD
  have c0 := cell_of hA (i := 0) rfl
  have c1 := cell_of hA (i := 1) rfl
  have c2 := cell_of hA (i := 2) rfl
  have c3 := cell_of hA (i := 3) rfl
  obtain ⟨ok, hokd⟩ : ∃ ok, ok = okAt n st tl wt k V Y D B := ⟨_, rfl⟩
  have HO := hide hokd
  rw [← hokd]
  clear hokd
  unfold gAgg at HTS ⊢
  clear hg hs h1 h2 h3 hbW hA hBx hgd hwb hok hno hB hVb hDb hV hY hD
  go_enter Try.func64, Try.ntmps64
  go_wp2_with fail
  rw [← hW1]
  clear hW1
  refine HTS.out.mono ?_
  rintro e w2 ⟨rfl, hb2⟩
  have HB2 := hide hb2
  have HA2 := hide ((hb2.block _ (lt_of_heap HA.out)).trans HA.out)
  have HX2 := hide ((hb2.block _ (lt_of_heap HBX.out)).trans HBX.out)
  have d0 := cell_of HA2.out (i := 0) rfl
  have v0 := cell_of HX2.out (i := 0) rfl
  have v1 := cell_of HX2.out (i := 1) rfl
  have v2 := cell_of HX2.out (i := 2) rfl
  have e1 : ((V.length : Int) != (n : Int)) = false := by rw [HVL.out]; simp
  have e2 : ((Y.length : Int) != (n : Int)) = false := by rw [HYL.out]; simp
  have e3 : ((D.length : Int) != (n : Int)) = false := by rw [HDL.out]; simp
  clear c0 c1 c2 c3 hb2 HTS
  go_wp2_with fail
  have hmk := run_makeF n hn
  have hlA := lt_of_heap HA2.out
  have hlX := lt_of_heap HX2.out
  go_cut [11] from 42 to 46 (fun s wx => ∃ Q F, s = .pointer (some ⟨Q, 0, none⟩) ∧ LK wx Q F n (.slice o1 V.length k1) (.slice o2 Y.length k2) (.slice o3 D.length k3) (fun _ => (0, false, false)) ∧ w2.heap.size ≤ F ∧ Below w2.heap.size w2 wx)
  case first =>
    go_region
    all_goals
      go_wp2_with fail
      go_meet
      case rel =>
        first
          | exact ⟨_, _, rfl, lk_one.1, Nat.le_refl _, lk_one.2⟩
          | exact ⟨_, _, rfl, lk_two.1, Nat.le_succ _, lk_two.2⟩
  case rest =>
    obtain ⟨Q, F, rfl, hL, hF, hb3⟩ := hcut
    have HL := hide hL
    have HB3 := hide hb3
    have HA3 := hide ((hb3.block _ (lt_of_heap HA2.out)).trans HA2.out)
    clear hL hb3 d0 v0 v1 v2 e1 e2 e3 hmk hlA hlX
    have HSS := hide (seeStarts_any Q F n _ _ _ _ (.slice so S.length sc) S w2 wc HL.out (HS.out.below HB2.out) HB3.out hF HOK.out hn hS)
    go_wp2_with fail
    refine HSS.out.mono ?_
    rintro e w4 ⟨rfl, f4, ⟨B', hB', rfl⟩, hL4, hb4⟩
    obtain rfl : B = B' := HBG.out.only hB'
    have HL4 := hide (hL4.ext (f' := fAt n st tl wt k V Y D B 0) (fun v hv => fAt_zero _ (fun v hv => rfl) v hv))
    have HB4 := hide hb4
    have HA4 := hide ((hb4.block _ (lt_of_heap HA2.out)).trans HA2.out)
    have c0 := cell_of HA4.out (i := 0) rfl
    have c1 := cell_of HA4.out (i := 1) rfl
    have c2 := cell_of HA4.out (i := 2) rfl
    have c3 := cell_of HA4.out (i := 3) rfl
    clear hB' hL4 hb4 HSS HL HB3 HA3
    have HSE := hide (seeEdges_any Q F n _ _ _ _ _ _ st tl wt k V Y D B w2 w4 HL4.out HB4.out hF (HG.out.below HB2.out) HGD.out hkd HWB.out (H1.out.below HB2.out) (H2.out.below HB2.out) (H3.out.below HB2.out) HVL.out HYL.out HDL.out HVB.out HDB.out)
    unfold gAgg at HSE
    go_wp2_with fail
    refine HSE.out.mono ?_
    rintro e w5 ⟨rfl, f5, rfl, hL5, hb5⟩
    have HL5 := hide hL5
    have HB5 := hide hb5
    have HA5 := hide ((hb5.block _ (lt_of_heap HA2.out)).trans HA2.out)
    have d0 := cell_of HA5.out (i := 0) rfl
    clear hL5 hb5 HSE HL4 HB4 HA4 c0 c1 c2 c3
    go_wp2_with fail
    go_loopw [54, 12] (fun t _ wr => ∃ i : Nat, i ≤ n ∧ t = .int .i64 i ∧ (∀ v, v < i → ok v = true) ∧ Below w5.heap.size w5 wr) (fun t _ _ => n - (RowKit.intOf t).toNat)
    case atStart => exact ⟨0, Nat.zero_le _, rfl, fun v hv => absurd hv (Nat.not_lt_zero _), Below.refl _ _⟩
    case round =>
      obtain ⟨i, hin, rfl, hall, hB6⟩ := hrel
      have HALL := hide hall
      have HB6 := hide hB6
      clear hall hB6
      by_cases hlt : i < n
      · have HH := hide (holds_any Q F n i _ _ _ _ V Y D w2 wr (HL5.out.below HB6.out) (below_on HB5.out HB6.out) hlt hn (H1.out.below HB2.out) (H2.out.below HB2.out) (H3.out.below HB2.out) HVL.out HYL.out HDL.out)
        obtain ⟨b, hb⟩ : ∃ b, b = ok i := ⟨_, rfl⟩
        have hbe : hv (at_ V i) (at_ Y i) (at_ D i) (fAt n st tl wt k V Y D B tl.length i).1 (fAt n st tl wt k V Y D B tl.length i).2.1 (fAt n st tl wt k V Y D B tl.length i).2.2 = b := by rw [hb, HO.out]; rfl
        rw [hbe] at HH
        have HBI := hide hb
        clear hb hbe
        cases b with
        | true =>
          go_wp2_with fail
          refine HH.out.mono ?_
          rintro e w7 ⟨rfl, hb7⟩
          have HB7 := hide (below_on HB6.out hb7)
          clear hb7 HH
          go_wp2_with fail
          refine ⟨⟨i + 1, by omega, by simp, fun v hv => ?_, HB7.out⟩, by simp [RowKit.intOf]; omega⟩
          rcases Nat.lt_or_ge v i with h | h
          · exact HALL.out v h
          · obtain rfl : v = i := by omega
            exact HBI.out.symm
        | false =>
          go_wp2_with fail
          refine HH.out.mono ?_
          rintro e w7 ⟨rfl, hb7⟩
          have HB7 := hide (below_on HBW.out (below_on HB2.out (below_on HB5.out (below_on HB6.out hb7))))
          have HANS := hide (ck_some hlt HBI.out.symm HALL.out)
          clear hb7 HH
          go_wp2
          go_ret2
          exact ⟨by rw [HANS.out]; rfl, HB7.out⟩
      · have hin2 : i = n := by omega
        have HANS := hide (ck_none (fun u hu => HALL.out u (by omega)) : ckAns ok n = (0, 0))
        have HB7 := hide (below_on HBW.out (below_on HB2.out (below_on HB5.out HB6.out)))
        clear hin2
        go_wp2
        go_ret2
        exact ⟨by rw [HANS.out]; rfl, HB7.out⟩
end Go.Proofs.Ythoklgdlnmccmaa

/- voucher.Check where the arguments have an error. -/
namespace Go.Proofs.Ythoklgdlnmccmaa
open Go.RowKit Go.Lib
set_option linter.unusedVariables false
set_option maxRecDepth 100000 in
set_option maxHeartbeats 4000000 in
theorem check_bad (N : Int) (va vb vc : Value) (st tl wt : List Int) (k : Int) (sv : Value) (S : List Pr) (l1 l2 l3 : Value) (V Y D : List Int) (w : World) (hg : GIs w N va vb vc st tl wt) (hst : st.length ≤ 17592186044416) (hto : tl.length ≤ 17592186044416) (hwt : wt.length ≤ 17592186044416)
    (hs : SAt w sv S) (hno : srchNo N st tl wt k S ≠ 0) (h1 : RowAt .u64 w l1 V) (h2 : RowAt .i64 w l2 Y) (h3 : RowAt .i64 w l3 D) :
    Calls Try.prog 64 #[gAgg N va vb vc, .int .i64 k, sv, .agg #[l1, l2, l3]] w fun e w' => e = .returned (.tuple #[.int .i64 (srchNo N st tl wt k S), .int .i64 0]) ∧ Below w.heap.size w w' := by
  obtain ⟨ao, ca, rfl⟩ := hg.s.shape
  obtain ⟨bo, cb, rfl⟩ := hg.t.shape
  obtain ⟨co, cc, rfl⟩ := hg.u.shape
  obtain ⟨so, sc, rfl, hsc, hscm⟩ := hs.shape
  obtain ⟨o1, k1, rfl⟩ := h1.shape
  obtain ⟨o2, k2, rfl⟩ := h2.shape
  obtain ⟨o3, k3, rfl⟩ := h3.shape
  obtain ⟨W1, hW1⟩ : ∃ W1, W1 = (w.alloc (.cells #[.int .i64 N, .slice ao st.length ca, .slice bo tl.length cb, .slice co wt.length cc] 32)).alloc (.cells #[.slice o1 V.length k1, .slice o2 Y.length k2, .slice o3 D.length k3] 103) := ⟨_, rfl⟩
  have hbW : Below w.heap.size w W1 := by rw [hW1]; exact below_alloc (below_alloc (Below.refl _ _) _) _
  have hA : W1.heap[w.heap.size]? = some (.cells #[.int .i64 N, .slice ao st.length ca, .slice bo tl.length cb, .slice co wt.length cc] 32 (0, 0)) := by
    rw [hW1, heap_alloc_old _ _ (by simp)]; exact heap_new _ _
  have hBx : W1.heap[w.heap.size + 1]? = some (.cells #[.slice o1 V.length k1, .slice o2 Y.length k2, .slice o3 D.length k3] 103 (0, 0)) := by
    rw [hW1]
    have := heap_new (w.alloc (.cells #[.int .i64 N, .slice ao st.length ca, .slice bo tl.length cb, .slice co wt.length cc] 32)) (.cells #[.slice o1 V.length k1, .slice o2 Y.length k2, .slice o3 D.length k3] 103)
    simpa using this
  have HTS := hide (termsS_any N _ _ _ st tl wt k _ S W1 (hg.below hbW) hst hto hwt (hs.below hbW))
  have HBW := hide hbW; have HA := hide hA; have HBX := hide hBx
  have c0 := cell_of hA (i := 0) rfl
  have c1 := cell_of hA (i := 1) rfl
  have c2 := cell_of hA (i := 2) rfl
  have c3 := cell_of hA (i := 3) rfl
  obtain ⟨x, hx⟩ : ∃ x, x = srchNo N st tl wt k S := ⟨_, rfl⟩
  rw [← hx] at HTS hno ⊢
  have hxb : (x != 0) = true := by simp [hno]
  unfold gAgg at HTS ⊢
  clear hg hs h1 h2 h3 hbW hA hBx hno hx
  go_enter Try.func64, Try.ntmps64
  go_wp2_with fail
  rw [← hW1]
  clear hW1
  refine HTS.out.mono ?_
  rintro e w2 ⟨rfl, hb2⟩
  have HB2 := hide (below_on HBW.out hb2)
  clear hb2 HTS c0 c1 c2 c3
  go_wp2
  go_ret2
  exact ⟨rfl, HB2.out⟩
set_option maxRecDepth 100000 in
set_option maxHeartbeats 4000000 in
theorem check_len (N : Int) (va vb vc : Value) (st tl wt : List Int) (k : Int) (sv : Value) (S : List Pr) (l1 l2 l3 : Value) (V Y D : List Int) (w : World) (hg : GIs w N va vb vc st tl wt) (hst : st.length ≤ 17592186044416) (hto : tl.length ≤ 17592186044416) (hwt : wt.length ≤ 17592186044416)
    (hs : SAt w sv S) (hno : srchNo N st tl wt k S = 0) (hlen : ¬ ((V.length : Int) = N ∧ (Y.length : Int) = N ∧ (D.length : Int) = N)) (h1 : RowAt .u64 w l1 V) (h2 : RowAt .i64 w l2 Y) (h3 : RowAt .i64 w l3 D) :
    Calls Try.prog 64 #[gAgg N va vb vc, .int .i64 k, sv, .agg #[l1, l2, l3]] w fun e w' => e = .returned (.tuple #[.int .i64 (34), .int .i64 0]) ∧ Below w.heap.size w w' := by
  obtain ⟨ao, ca, rfl⟩ := hg.s.shape
  obtain ⟨bo, cb, rfl⟩ := hg.t.shape
  obtain ⟨co, cc, rfl⟩ := hg.u.shape
  obtain ⟨so, sc, rfl, hsc, hscm⟩ := hs.shape
  obtain ⟨o1, k1, rfl⟩ := h1.shape
  obtain ⟨o2, k2, rfl⟩ := h2.shape
  obtain ⟨o3, k3, rfl⟩ := h3.shape
  obtain ⟨W1, hW1⟩ : ∃ W1, W1 = (w.alloc (.cells #[.int .i64 N, .slice ao st.length ca, .slice bo tl.length cb, .slice co wt.length cc] 32)).alloc (.cells #[.slice o1 V.length k1, .slice o2 Y.length k2, .slice o3 D.length k3] 103) := ⟨_, rfl⟩
  have hbW : Below w.heap.size w W1 := by rw [hW1]; exact below_alloc (below_alloc (Below.refl _ _) _) _
  have hA : W1.heap[w.heap.size]? = some (.cells #[.int .i64 N, .slice ao st.length ca, .slice bo tl.length cb, .slice co wt.length cc] 32 (0, 0)) := by
    rw [hW1, heap_alloc_old _ _ (by simp)]; exact heap_new _ _
  have hBx : W1.heap[w.heap.size + 1]? = some (.cells #[.slice o1 V.length k1, .slice o2 Y.length k2, .slice o3 D.length k3] 103 (0, 0)) := by
    rw [hW1]
    have := heap_new (w.alloc (.cells #[.int .i64 N, .slice ao st.length ca, .slice bo tl.length cb, .slice co wt.length cc] 32)) (.cells #[.slice o1 V.length k1, .slice o2 Y.length k2, .slice o3 D.length k3] 103)
    simpa using this
  have HTS := hide (termsS_any N _ _ _ st tl wt k _ S W1 (hg.below hbW) hst hto hwt (hs.below hbW))
  have HBW := hide hbW; have HA := hide hA; have HBX := hide hBx
  have c0 := cell_of hA (i := 0) rfl
  have c1 := cell_of hA (i := 1) rfl
  have c2 := cell_of hA (i := 2) rfl
  have c3 := cell_of hA (i := 3) rfl
  rw [hno] at HTS
  unfold gAgg at HTS ⊢
  clear hg hs h1 h2 h3 hbW hA hBx hno
  go_enter Try.func64, Try.ntmps64
  go_wp2_with fail
  rw [← hW1]
  clear hW1
  refine HTS.out.mono ?_
  rintro e w2 ⟨rfl, hb2⟩
  have HB2 := hide (below_on HBW.out hb2)
  have HA2 := hide ((hb2.block _ (lt_of_heap HA.out)).trans HA.out)
  have HX2 := hide ((hb2.block _ (lt_of_heap HBX.out)).trans HBX.out)
  have d0 := cell_of HA2.out (i := 0) rfl
  have v0 := cell_of HX2.out (i := 0) rfl
  have v1 := cell_of HX2.out (i := 1) rfl
  have v2 := cell_of HX2.out (i := 2) rfl
  clear hb2 HTS c0 c1 c2 c3
  by_cases e1 : (V.length : Int) = N
  · by_cases e2 : (Y.length : Int) = N
    · have e3 : ¬ (D.length : Int) = N := fun h => hlen ⟨e1, e2, h⟩
      have E1 : ((V.length : Int) != N) = false := by simp [e1]
      have E2 : ((Y.length : Int) != N) = false := by simp [e2]
      have E3 : ((D.length : Int) != N) = true := by simp [e3]
      clear e1 e2 e3 hlen
      go_wp2
      go_ret2
      exact ⟨rfl, HB2.out⟩
    · have E1 : ((V.length : Int) != N) = false := by simp [e1]
      have E2 : ((Y.length : Int) != N) = true := by simp [e2]
      clear e1 e2 hlen
      go_wp2
      go_ret2
      exact ⟨rfl, HB2.out⟩
  · have E1 : ((V.length : Int) != N) = true := by simp [e1]
    clear e1 hlen
    go_wp2
    go_ret2
    exact ⟨rfl, HB2.out⟩
end Go.Proofs.Ythoklgdlnmccmaa
