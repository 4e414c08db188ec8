/- Spans and ints that come in, as they are read. -/
import Derived.Test.YtfoeljcgbfpknaaOe
import Derived.Test.YtfoeljcgbfpknaaH23
import Derived.Test.YtfoeljcgbfpknaaH10
import Derived.ChangeArms
namespace Go.Proofs.Ytfoeljcgbfpknaa
open Go.ChangeShapes Go.WideShapes Go.ChangeAt Go.RowKit Go.Deep
set_option linter.unusedVariables false
set_option maxRecDepth 100000
section
variable {H : Type} {enc : TypeId × Value → H} {w : World} {base : Nat} {held : Bool} {fuel : Nat} {cs : List Value} {y : DataW H × List MemPlace}
theorem one_bool {spare : Nat → Bool} {t : TypeId} {y : Option (DataW H × List MemPlace)} {o : Nat} (ht : Try.prog.underlying t = some .bool) (hc : Try.prog.cellsOf t = 1) (hy : y.isSome = true)
    (h : DataW.trod enc Try.prog w base spare held fuel t ((cs.drop o).take (Try.prog.cellsOf t)) = y) : ∃ b, cs[o]? = some (.bool b) := by
  obtain ⟨z, rfl⟩ := Option.isSome_iff_exists.1 hy
  rw [hc] at h
  obtain ⟨n, e, _⟩ := DataW.trod_bool ht h
  refine ⟨n, ?_⟩
  have e2 : ((cs.drop o).take 1)[0]? = some (.bool n) := by rw [e]; rfl
  rw [List.getElem?_take_of_lt (by omega), List.getElem?_drop] at e2
  simpa using e2
theorem Try.c4 : Try.prog.cellsOf 4 = 1 := by kernel_rfl
theorem Try.c69 : Try.prog.cellsOf 69 = 7 := by kernel_rfl
set_option maxRecDepth 100000 in
theorem open_taskW {spare : Nat → Bool} (h : DataW.trod enc Try.prog w base spare held fuel 67 cs = some y) : ∃ a b, cs = [.int .u64 a, .int .u64 b] ∧ (Lit.int .u64 a).wf = true ∧ (Lit.int .u64 b).wf = true := by
  obtain ⟨xs, n, _, _, hlen, hxs, hel⟩ := DataW.trod_struct Try.underlying67 h
  rw [Try.c67] at hlen
  have hx : ∀ i, i < 2 → (xs[i]?).isSome = true := fun i hi => by rw [List.getElem?_eq_getElem (show i < xs.length by rw [hxs]; exact hi)]; rfl
  obtain ⟨a, ha, wa⟩ := one_int Try.underlying65 Try.c65 (hx 0 (by omega)) (hel 0 _ rfl)
  obtain ⟨b, hb, wb⟩ := one_int Try.underlying65 Try.c65 (hx 1 (by omega)) (hel 1 _ rfl)
  refine ⟨a, b, ?_, wa, wb⟩
  match cs, hlen with
  | [x, z], _ => simp at ha hb; subst ha hb; rfl
/-- What is known of a span that came in. -/
def SpOk (s : Sp) : Prop := In64 s.who ∧ (Lit.int .u64 s.key).wf = true ∧ (Lit.int .u64 s.load).wf = true
set_option maxRecDepth 100000 in
theorem open_spanC (h : DataW.trod enc Try.prog w base (fun _ => true) held fuel 69 cs = some y) : ∃ o : Sp, SpOk o ∧ ∀ (j : Nat) (v : Value), o.arr[j]? = some v → cs[j]? = some v := by
  obtain ⟨xs, n, _, _, hlen, hxs, hel⟩ := DataW.trod_struct Try.underlying69 h
  rw [Try.c69] at hlen
  have hx : ∀ i, i < 6 → (xs[i]?).isSome = true := fun i hi => by rw [List.getElem?_eq_getElem (show i < xs.length by rw [hxs]; exact hi)]; rfl
  obtain ⟨k0, h0, w0⟩ := one_int Try.underlying3 Try.c3 (hx 0 (by omega)) (hel 0 _ rfl)
  obtain ⟨k1, h1⟩ := one_bool Try.underlying4 Try.c4 (hx 1 (by omega)) (hel 1 _ rfl)
  have h6 : DataW.trod enc Try.prog w base (fun _ => true) held n 67 ((cs.drop 2).take (Try.prog.cellsOf 67)) = xs[2]? := hel 2 _ rfl
  obtain ⟨k4, h4, _⟩ := one_int Try.underlying3 Try.c3 (hx 3 (by omega)) (hel 3 _ rfl)
  obtain ⟨k5, h5, _⟩ := one_int Try.underlying3 Try.c3 (hx 4 (by omega)) (hel 4 _ rfl)
  obtain ⟨k6, h7, _⟩ := one_int Try.underlying3 Try.c3 (hx 5 (by omega)) (hel 5 _ rfl)
  obtain ⟨z, hz⟩ := Option.isSome_iff_exists.1 (hx 2 (by omega))
  rw [hz] at h6
  obtain ⟨a, b, e, wa, wb⟩ := open_taskW h6
  rw [Try.c67] at e
  have g : ∀ j, j < 2 → cs[2 + j]? = ([.int .u64 a, .int .u64 b] : List Value)[j]? := fun j hj => by
    rw [← e, List.getElem?_take_of_lt hj, List.getElem?_drop]
  refine ⟨⟨k0, k1, a, b, k4, k5, k6⟩, ⟨in64_of w0, wa, wb⟩, ?_⟩
  intro j v hv
  match j, hv with
  | 0, hv => cases hv; exact h0
  | 1, hv => cases hv; exact h1
  | 2, hv => cases hv; exact g 0 (by omega)
  | 3, hv => cases hv; exact g 1 (by omega)
  | 4, hv => cases hv; exact h4
  | 5, hv => cases hv; exact h5
  | 6, hv => cases hv; exact h7
  | j + 7, hv => simp [Sp.arr] at hv
/-- A list of spans that comes in. -/
theorem open_spans {W : World} {v : Value} {d : DataW H} {p : List MemPlace} (hv : Value.okWide Try.prog W .any base 22 v) (h : DataW.Trod enc Try.prog W 0 (fun _ => true) held 22 v d p) :
    ∃ (len cap : Nat) (l : List Sp), l.length = len ∧ RAt Sp.arr 7 W v l ∧ Tok l ∧ Wok l ∧ ((len = 0 ∧ cap = 0) ∨ ∃ D : Nat → DataW H, d = .slice ((List.range len).map D) ((List.range (cap - len)).map fun j => D (len + j))) := by
  obtain ⟨len, cap, l, h1, h2, h3, h4⟩ := open_recs (Ok := SpOk) sp0 Sp.size (by decide) Try.underlying22 Try.c69 (fun n cs y w h => open_spanC h) hv h
  have hg : ∀ i, i < l.length → l[i]? = some (spAt l i) := fun i hi => by simp [spAt, hi]
  exact ⟨len, cap, l, h1, h2, fun i hi => (h3 i _ (hg i hi)).2, fun i hi => (h3 i _ (hg i hi)).1, h4⟩
theorem open_intC (h : DataW.trod enc Try.prog w base (fun _ => true) held fuel 3 cs = some y) : ∃ o : Int, (Lit.int .i64 o).wf = true ∧ ∀ (j : Nat) (v : Value), (iA o)[j]? = some v → cs[j]? = some v := by
  obtain ⟨n, e, _, hw⟩ := DataW.trod_int Try.underlying3 h
  refine ⟨n, hw, fun j v hv => ?_⟩
  have hj : j = 0 := by have := (Array.getElem?_eq_some_iff.1 hv).1; simp [iA] at this; omega
  subst hj
  rw [e]
  simpa [iA] using hv
/-- A list of ints that comes in. -/
theorem open_intsR {W : World} {v : Value} {d : DataW H} {p : List MemPlace} (hv : Value.okWide Try.prog W .any base 23 v) (h : DataW.Trod enc Try.prog W 0 (fun _ => true) held 23 v d p) :
    ∃ (len cap : Nat) (l : List Int), l.length = len ∧ RowAt .i64 W v l ∧ ((len = 0 ∧ cap = 0) ∨ ∃ D : Nat → DataW H, d = .slice ((List.range len).map D) ((List.range (cap - len)).map fun j => D (len + j))) := by
  obtain ⟨len, cap, l, h1, h2, h3, h4⟩ := open_recs (Ok := fun o : Int => (Lit.int .i64 o).wf = true) 0 iA_size (by decide) Try.underlying23 Try.c3 (fun n cs y w h => open_intC h) hv h
  refine ⟨len, cap, l, h1, ?_, h4⟩
  obtain ⟨ao, n, c, rfl⟩ := okWide_slice Try.underlying23 hv
  refine iat_row h2 (fun e => ?_)
  subst e
  obtain ⟨fuel, hf⟩ := h
  rcases open_slice Try.underlying23 hf with ⟨hcs, _⟩ | ⟨a, len', cap', m, n, D, Pl, hcs, _⟩
  · simp [Value.cells] at hcs
    exact hcs.2
  · simp [Value.cells] at hcs
end
end Go.Proofs.Ytfoeljcgbfpknaa
