/- arrange: what it counts and lays, plain; blocks of words; a range over a function (the rounds turn only what was there); slices.Clone of ints. -/
import Derived.Test.YtmagigmcbegmiaaRIter
import Derived.Test.YtmagigmcbegmiaaMarks
import Derived.Test.YtmagigmcbegmiaaFresh
import Derived.Test.YtmagigmcbegmiaaCopy
import Derived.Test.YtmagigmcbegmiaaRoom
namespace Go.Proofs.Ytmagigmcbegmiaa
set_option linter.unusedVariables false
/-- How many below m there are of which p holds. -/
def cnt (p : Nat → Prop) [DecidablePred p] : Nat → Nat
  | 0 => 0
  | i + 1 => cnt p i + (if p i then 1 else 0)
theorem cnt_le (p : Nat → Prop) [DecidablePred p] (m : Nat) : cnt p m ≤ m := by
  induction m with
  | zero => exact Nat.le_refl _
  | succ m ih => unfold cnt; split <;> omega
theorem cnt_all {p : Nat → Prop} [DecidablePred p] {m : Nat} (h : ∀ i, i < m → p i) : cnt p m = m := by
  induction m with
  | zero => rfl
  | succ m ih => unfold cnt; rw [ih (fun i hi => h i (by omega)), if_pos (h m (by omega))]
theorem cnt_none {p : Nat → Prop} [DecidablePred p] {m : Nat} (h : ∀ i, i < m → ¬ p i) : cnt p m = 0 := by
  induction m with
  | zero => rfl
  | succ m ih => unfold cnt; rw [ih (fun i hi => h i (by omega)), if_neg (h m (by omega))]
theorem cnt_grow {p : Nat → Prop} [DecidablePred p] {i m : Nat} (h : i ≤ m) : cnt p i ≤ cnt p m := by
  induction m with
  | zero => have : i = 0 := by omega
            subst this; exact Nat.le_refl _
  | succ m ih =>
    rcases Nat.lt_or_ge m i with h1 | h1
    · have : i = m + 1 := by omega
      subst this; exact Nat.le_refl _
    · have := ih h1
      show _ ≤ cnt p m + _
      omega
theorem cnt_lt {p : Nat → Prop} [DecidablePred p] {i m : Nat} (h : i < m) (hp : p i) : cnt p i < cnt p m := by
  have h1 : cnt p (i + 1) ≤ cnt p m := cnt_grow h
  have h2 : cnt p (i + 1) = cnt p i + 1 := by show cnt p i + _ = _; rw [if_pos hp]
  omega
section
variable {n m : Nat} {F T : Nat → Nat} {W : Nat → Int}
/-- How many edges begin at a vertex below v. -/
def begins (F : Nat → Nat) (m v : Nat) : Nat := cnt (fun i => F i < v) m
/-- How many of the first i edges begin at v. -/
def outs (F : Nat → Nat) (v i : Nat) : Nat := cnt (fun j => F j = v) i
theorem begins_succ (F : Nat → Nat) (m v : Nat) : begins F m (v + 1) = begins F m v + outs F v m := by
  unfold begins outs
  induction m with
  | zero => rfl
  | succ m ih =>
    show cnt _ m + _ = cnt _ m + _ + (cnt _ m + _)
    rw [ih]
    by_cases h : F m < v
    · rw [if_pos (by omega), if_pos h, if_neg (by omega)]; omega
    · by_cases h1 : F m = v
      · rw [if_pos (by omega), if_neg h, if_pos h1]; omega
      · rw [if_neg (by omega), if_neg h, if_neg h1]; omega
theorem begins_zero (F : Nat → Nat) (m : Nat) : begins F m 0 = 0 := cnt_none fun i _ => by omega
theorem begins_all (h : ∀ i, i < m → F i < n) : begins F m n = m := cnt_all h
theorem begins_mono {u v : Nat} (h : u ≤ v) : begins F m u ≤ begins F m v := by
  induction v with
  | zero => have : u = 0 := by omega
            subst this; exact Nat.le_refl _
  | succ v ih =>
    rcases Nat.lt_or_ge v u with h1 | h1
    · have : u = v + 1 := by omega
      subst this; exact Nat.le_refl _
    · have := ih h1
      rw [begins_succ]; omega
theorem outs_succ (F : Nat → Nat) (v i : Nat) : outs F v (i + 1) = outs F v i + (if F i = v then 1 else 0) := rfl
/-- Where the edge i is laid. -/
def place (F : Nat → Nat) (m i : Nat) : Nat := begins F m (F i) + outs F (F i) i
theorem place_row {i : Nat} (h : i < m) : begins F m (F i) ≤ place F m i ∧ place F m i < begins F m (F i + 1) := by
  have : outs F (F i) i < outs F (F i) m := cnt_lt (p := fun j => F j = F i) h rfl
  unfold place
  rw [begins_succ]
  omega
theorem place_lt {i : Nat} (h : i < m) : place F m i < m := Nat.lt_of_lt_of_le (place_row h).2 (cnt_le _ m)
theorem place_inj {i j : Nat} (hi : i < m) (hj : j < i) : place F m j ≠ place F m i := by
  intro e
  have h1 := place_row (F := F) hi
  have h2 := place_row (F := F) (m := m) (i := j) (by omega)
  rcases Nat.lt_trichotomy (F i) (F j) with h | h | h
  · have := begins_mono (F := F) (m := m) (u := F i + 1) (v := F j) h
    omega
  · have h3 : outs F (F i) j < outs F (F i) i := cnt_lt (p := fun l => F l = F i) hj h.symm
    unfold place at e
    rw [← h] at e
    omega
  · have := begins_mono (F := F) (m := m) (u := F j + 1) (v := F i) h
    omega
theorem at_put {l : List Int} {a i : Nat} {x : Int} (h : a < l.length) : at_ (l.set a x) i = if i = a then x else at_ l i := by
  unfold at_
  by_cases e : i = a
  · subst e; rw [if_pos rfl, List.getElem?_set_self h]; rfl
  · rw [if_neg e, List.getElem?_set_ne (fun q => e q.symm)]
/-- The first loop: how many of the first i begin at each vertex, a place further. -/
def Tally (n : Nat) (F : Nat → Nat) (i : Nat) (l : List Int) : Prop := l.length = n + 1 ∧ at_ l 0 = 0 ∧ ∀ v, v < n → at_ l (v + 1) = (outs F v i : Int)
theorem Tally.step {i : Nat} {l : List Int} (h : Tally n F i l) (hF : F i < n) : Tally n F (i + 1) (l.set (F i + 1) (at_ l (F i + 1) + 1)) := by
  obtain ⟨h1, h2, h3⟩ := h
  refine ⟨by rw [List.length_set]; exact h1, by rw [at_put (by omega), if_neg (by omega)]; exact h2, fun v hv => ?_⟩
  rw [at_put (by omega), outs_succ]
  by_cases e : v = F i
  · subst e; rw [if_pos rfl, if_pos rfl, h3 _ hv]; omega
  · rw [if_neg (by omega), if_neg (fun q => e q.symm), h3 _ hv]; omega
/-- The second loop: summed up to v. -/
def Summed (n m : Nat) (F : Nat → Nat) (v : Nat) (l : List Int) : Prop := l.length = n + 1 ∧ (∀ u, u ≤ v → at_ l u = (begins F m u : Int)) ∧ ∀ u, v ≤ u → u < n → at_ l (u + 1) = (outs F u m : Int)
theorem Tally.summed {l : List Int} (h : Tally n F m l) : Summed n m F 0 l :=
  ⟨h.1, fun u hu => by have : u = 0 := by omega
                       subst this; rw [begins_zero]; exact h.2.1, fun u _ hu => h.2.2 u hu⟩
theorem Summed.step {v : Nat} {l : List Int} (h : Summed n m F v l) (hv : v < n) : Summed n m F (v + 1) (l.set (v + 1) (at_ l (v + 1) + at_ l v)) := by
  obtain ⟨h1, h2, h3⟩ := h
  refine ⟨by rw [List.length_set]; exact h1, fun u hu => ?_, fun u h4 hu => ?_⟩
  · rw [at_put (by omega)]
    by_cases e : u = v + 1
    · subst e; rw [if_pos rfl, h3 v (Nat.le_refl _) hv, h2 v (Nat.le_refl _), begins_succ]; omega
    · rw [if_neg e]; exact h2 u (by omega)
  · rw [at_put (by omega), if_neg (by omega)]; exact h3 u (by omega) hu
/-- The third loop: the first i are laid. -/
structure Laying (n m : Nat) (F T : Nat → Nat) (W : Nat → Int) (i : Nat) (nx tl wt : List Int) : Prop where
  nlen : nx.length = n + 1
  nxa : ∀ v, v < n → at_ nx v = (begins F m v + outs F v i : Nat)
  tlen : tl.length = m
  wlen : wt.length = m
  tla : ∀ j, j < i → at_ tl (place F m j) = T j
  wta : ∀ j, j < i → at_ wt (place F m j) = W j
  tin : ∀ e, e < m → 0 ≤ at_ tl e ∧ at_ tl e < n
  win : ∀ e, e < m → 0 ≤ at_ wt e ∧ at_ wt e ≤ 4294967295
theorem Laying.at {i : Nat} {nx tl wt : List Int} (h : Laying n m F T W i nx tl wt) (hF : F i < n) : at_ nx (F i) = (place F m i : Int) := h.nxa _ hF
theorem Laying.step {i : Nat} {nx tl wt : List Int} (h : Laying n m F T W i nx tl wt) (hi : i < m) (hF : F i < n) (hT : T i < n) (hW : 0 ≤ W i ∧ W i ≤ 4294967295) :
    Laying n m F T W (i + 1) (nx.set (F i) (at_ nx (F i) + 1)) (tl.set (place F m i) (T i)) (wt.set (place F m i) (W i)) := by
  have hp := place_lt (F := F) hi
  have h1 := h.nlen
  have h2 := h.tlen
  have h3 := h.wlen
  refine ⟨by rw [List.length_set]; exact h1, fun v hv => ?_, by rw [List.length_set]; exact h2, by rw [List.length_set]; exact h3, fun j hj => ?_, fun j hj => ?_, fun e he => ?_, fun e he => ?_⟩
  · rw [at_put (by omega), outs_succ]
    by_cases e : v = F i
    · subst e; rw [if_pos rfl, if_pos rfl, h.nxa _ hv]; omega
    · rw [if_neg e, if_neg (fun q => e q.symm), h.nxa _ hv]; omega
  · rw [at_put (by omega)]
    by_cases e : j = i
    · subst e; rw [if_pos rfl]
    · rw [if_neg (place_inj hi (by omega))]; exact h.tla j (by omega)
  · rw [at_put (by omega)]
    by_cases e : j = i
    · subst e; rw [if_pos rfl]
    · rw [if_neg (place_inj hi (by omega))]; exact h.wta j (by omega)
  · rw [at_put (by omega)]
    split
    · omega
    · exact h.tin e he
  · rw [at_put (by omega)]
    split
    · exact hW
    · exact h.win e he
/-- What was laid is a graph, and each edge lies in it. -/
theorem Laying.good {st nx tl wt : List Int} (hs : Summed n m F n st) (h : Laying n m F T W m nx tl wt) (hF : ∀ i, i < m → F i < n) (hn : n ≤ 1048576) (hm : m ≤ 4194304) : Good n st tl wt where
  n_le := hn
  m_le := by rw [h.tlen]; exact hm
  s_len := hs.1
  w_len := by rw [h.wlen, h.tlen]
  rows i hi := by
    have h1 := hs.2.1 i (by omega)
    have h2 : begins F m i ≤ m := cnt_le _ m
    have h3 : ahead st i ≤ at_ st i := by
      unfold ahead
      by_cases e : i = 0
      · rw [if_pos e, h1]; omega
      · rw [if_neg e, h1, hs.2.1 (i - 1) (by omega)]
        have := begins_mono (F := F) (m := m) (u := i - 1) (v := i) (by omega)
        omega
    unfold BadRow
    rw [h.tlen]
    rintro (h4 | h4 | h4 | h4)
    · omega
    · omega
    · obtain ⟨e, h5⟩ := h4
      subst e; rw [h1, begins_zero] at h5; exact h5 rfl
    · obtain ⟨e, h5⟩ := h4
      subst e; rw [h1, begins_all hF] at h5; exact h5 rfl
  edges e he := by
    rw [h.tlen] at he
    unfold edgeNo
    rw [if_pos (show IsV n (at_ tl e) from h.tin e he), if_neg (by have := (h.win e he).2; omega)]
theorem Laying.edge {st nx tl wt : List Int} (hs : Summed n m F n st) (h : Laying n m F T W m nx tl wt) (hF : ∀ i, i < m → F i < n) (hn : n ≤ 1048576) (hm : m ≤ 4194304) {i : Nat} (hi : i < m) :
    place F m i < tl.length ∧ src st n (place F m i) = F i ∧ at_ tl (place F m i) = T i ∧ at_ wt (place F m i) = W i := by
  have hr := place_row (F := F) hi
  have hf := hF i hi
  refine ⟨by rw [h.tlen]; exact place_lt hi, src_eq (h.good hs hF hn hm) hf ?_ ?_, h.tla i hi, h.wta i hi⟩
  · rw [hs.2.1 _ (by omega)]; omega
  · rw [hs.2.1 _ (by omega)]; omega
end
end Go.Proofs.Ytmagigmcbegmiaa
namespace Go.Proofs.Ytmagigmcbegmiaa
open Go.RowKit Go.Lib
set_option linter.unusedVariables false
/-- A block of words. -/
def uCells (l : List Int) : Array Value := (l.map (Value.int .u64)).toArray
def ArrU (w : World) (g : Nat) (l : List Int) : Prop := w.heap[g]? = some (.cells (uCells l) 48 (0, 0))
theorem ArrU.cell {w : World} {g : Nat} {l : List Int} (h : ArrU w g l) (i : Nat) (hi : i < l.length) : w.cell? ⟨g, i, none⟩ = some (.int .u64 (at_ l i)) := by
  refine cell_of h ?_
  simp [uCells, at_, hi]
theorem ArrU.free {w : World} {g : Nat} {l : List Int} (h : ArrU w g l) (i : Nat) : w.frozen? ⟨g, i, none⟩ = false := free_of h i
theorem ArrU.put {w : World} {g : Nat} {l : List Int} (h : ArrU w g l) (i : Nat) (x : Int) : ArrU (w.setCell ⟨g, i, none⟩ (.int .u64 x)) g (l.set i x) := by
  have := heap_set (i := i) h (.int .u64 x)
  unfold ArrU
  rw [this]
  simp [uCells]
theorem ArrU.chg {w w' : World} {S : Nat → Prop} {g : Nat} {l : List Int} (h : ArrU w g l) (k : Chg S w w') (hb : ¬ S g) : ArrU w' g l := k.heap h hb
theorem ArrU.row {w : World} {g n : Nat} {l : List Int} (h : ArrU w g l) (hn : l.length = n) (h63 : n ≤ 9223372036854775807) : RowAt .u64 w (.slice (some ⟨g, 0, none⟩) n n) l := by
  subst hn
  refine ⟨_, _, rfl, Nat.le_refl _, h63, (fun e => by cases e), fun a ha i hi => ?_⟩
  cases ha
  rw [Addr.add_lit, Nat.zero_add, h.cell i hi]
  rfl

/-- A row of numbers in a block that may be longer. -/
def NX (w : World) (G : Nat) (s : List Int) : Prop := ∃ cur, w.heap[G]? = some (.cells cur 3 (0, 0)) ∧ cur.toList.take s.length = s.map (Value.int .i64)
theorem NX.at {w : World} {G : Nat} {s : List Int} (h : NX w G s) {i : Nat} (hi : i < s.length) : w.cell? ⟨G, i, none⟩ = some (.int .i64 (at_ s i)) := by
  obtain ⟨cur, h1, h2⟩ := h
  refine cell_of h1 ?_
  have h3 : (cur.toList.take s.length)[i]? = some (.int .i64 (at_ s i)) := by rw [h2]; simp [at_, hi]
  rw [List.getElem?_take_of_lt hi] at h3
  simpa using h3
theorem NX.free {w : World} {G : Nat} {s : List Int} (h : NX w G s) (i : Nat) : w.frozen? ⟨G, i, none⟩ = false := by
  obtain ⟨cur, h1, h2⟩ := h
  exact free_of h1 i
theorem NX.put {w : World} {G : Nat} {s : List Int} (h : NX w G s) (i : Nat) (x : Int) : NX (w.setCell ⟨G, i, none⟩ (.int .i64 x)) G (s.set i x) := by
  obtain ⟨cur, h1, h2⟩ := h
  refine ⟨_, heap_set h1 _, ?_⟩
  rw [List.length_set, Array.toList_setIfInBounds, List.take_set, h2, List.map_set]
theorem NX.other {w : World} {G b k : Nat} {v : Value} {s : List Int} (h : NX w G s) (hb : G ≠ b) : NX (w.setCell ⟨b, k, none⟩ v) G s := by
  obtain ⟨cur, h1, h2⟩ := h
  exact ⟨cur, (Below.heap_setCell _ _ _ _ (by show G ≠ b; exact hb)).trans h1, h2⟩
theorem arr_new {w : World} {g n : Nat} (h : w.heap[g]? = some (.cells (madeCells #[.int .i64 0] n) 3 (0, 0))) : Arr w g (tab n (fun _ => 0)) := by
  unfold Arr
  rw [h]
  have e : madeCells #[Value.int .i64 0] n = iCells (tab n (fun _ => 0)) := by
    apply Array.ext'
    apply List.ext_getElem
    · simp [madeCells, iCells, tab]
    · intro i h1 h2
      simp [madeCells, iCells, tab, Nat.mod_one]
  rw [e]
def encE (x : Int × Int × Int) : Array Value := #[.agg #[.int .i64 x.1, .int .i64 x.2.1, .int .u64 x.2.2]]
/-- As Gv, for iterators that make memory of their own: the rounds turn only blocks that were there ahead. -/
def Gw {α : Type} (T : Nat → Prop) (P : Program) (g : Nat) (lb : Array Value) (encs : α → Array Value) (S : List α) (w : World) : Prop :=
  ∀ (l : Nat) (J : List α → World → Prop) (W : World), Below w.heap.size w W → (∀ k, T k → k < W.heap.size) → OwnFrom W.heap.size J →
    (∀ pre x W1, J pre W1 → pre ++ [x] <+: S → YieldAt Fence.wide 0 P l (encs x) W1 fun e W' => e = .returned (.bool true) ∧ J (pre ++ [x]) W' ∧ Chg T W1 W') →
    J [] W → ∀ n, CallsIn Fence.wide n P g (#[.func (.yield l) #[] #[]] ++ lb) W fun e W' => (∃ v, e = .returned v) ∧ J S W'
theorem Gv.wide {α : Type} {T : Nat → Prop} {P : Program} {g : Nat} {lb : Array Value} {encs : α → Array Value} {S : List α} {w : World} (h : Gv T P g lb encs S w) : Gw T P g lb encs S w :=
  fun l J W hb _ hJ hy h0 n => h l J W hb hJ hy h0 n
theorem rfw_law {α : Type} {T : Nat → Prop} {P : Program} {n : Nat} {g : Operand} {ps : Array Tmp} {assign body : Code} {Q : Exit → Act → World → Prop} {a : Act} {w : World} {gf : Nat} {lb : Array Value}
    (hg : a.eval g = .func (.func gf) #[] lb) (eg : ∀ args w, (callFunc gf args).run P w = .ok (.enter gf args) w)
    {encs : α → Array Value} {S : List α} {w0 : World} (hseq : Gw T P gf lb encs S w0) (hb0 : Below w0.heap.size w0 w) (hT : ∀ k, T k → k < w.heap.size) (hps : ∀ x, (encs x).size = ps.size)
    (I : List α → World → Prop) (hI : OwnFrom w.heap.size I) (h0 : I [] w) (Ax : α → Act → World → Prop) (hAx : ∀ x a', OwnFrom w.heap.size (fun (_ : Unit) W => Ax x a' W))
    (hassign : ∀ (l : Nat) (pre : List α) (x : α) (W : World) (K : Act → World → Prop), I pre W → (∀ a' W', Chg T W W' → I pre W' → Ax x a' W' → K a' W') → assign.wpIn (Fence.wide.inRound l) 0 P (Exit.then K (fun _ _ _ => False)) { tmps := (ps.zip (encs x)).foldl (fun t (p, v) => t.setIfInBounds p v) a.tmps, defers := [] } W)
    (hbody : ∀ (l : Nat) (pre : List α) (x : α) (a' : Act) (W : World), I pre W → Ax x a' W → pre ++ [x] <+: S → body.wpIn (Fence.wide.inRound l) 0 P (fun e _ W' => e = .normal ∧ Chg T W W' ∧ I (pre ++ [x]) W') a' W)
    (hdone : ∀ (D : Nat) (W : World), w.heap.size ≤ D → I S W → W.heap[D]? = some (.deferred (some [])) → Q .normal { a with defers := { target := .collected D, args := #[] } :: a.defers } W) :
    (Code.rangeFunc g ps assign body).wpIn Fence.wide n P Q a w := by
  refine wpIn_rangeFunc fun fn hfn => ?_
  obtain ⟨D, hD⟩ : ∃ D, D = w.heap.size := ⟨_, rfl⟩
  obtain ⟨rd, hrd⟩ : ∃ rd : Loop, rd = { state := .ready, pending := none, fn, tmps := a.tmps, params := ps, assign, body, defers := D } := ⟨_, rfl⟩
  obtain ⟨W1, hW1⟩ : ∃ W1, W1 = (w.alloc (.deferred (some []))).alloc (.loop rd) := ⟨_, rfl⟩
  have s1 : W1.heap.size = D + 2 := by rw [hW1, hD]; simp
  have b1 : Below w.heap.size w W1 := by rw [hW1]; exact ((Below.refl _ w).alloc (Nat.le_refl _) _).alloc (by simp) _
  have l1 : W1.heap[D + 1]? = some (.loop rd) := by
    have := World.alloc_heap_new (w.alloc (.deferred (some []))) (.loop rd)
    rw [World.size_alloc, ← hW1, ← hD] at this
    exact this
  have d1 : W1.heap[D]? = some (.deferred (some [])) := by
    rw [hW1, hD]; exact (Below.heap_alloc _ _ _ (by simp)).trans (World.alloc_heap_new w _)
  have i1 : I [] W1 := by rw [hW1]; exact hI.alloc _ (hI.alloc _ h0)
  have nT : ∀ k, D ≤ k → ¬ T k := fun k hk ht => by have := hT k ht; omega
  have call := hseq (D + 1) (fun pre W => I pre W ∧ W.heap[D + 1]? = some (.loop rd) ∧ W.heap[D]? = some (.deferred (some []))) W1 (hb0.trans (b1.mono hb0.size)) (fun k hk => by have := hT k hk; omega)
    (fun s X Y row hs gr hr => by
      have far : ∀ k, k < D + 2 → row ≠ some k := fun k hk e => by have := (hr k e).1; omega
      refine ⟨hI s X Y row hs.1 gr (fun r e => ⟨by have := (hr r e).1; omega, (hr r e).2⟩), ?_, ?_⟩
      · exact (gr.block _ (Array.getElem?_eq_some_iff.1 hs.2.1).1 (fun e => far (D + 1) (by omega) e.symm)).trans hs.2.1
      · exact (gr.block _ (Array.getElem?_eq_some_iff.1 hs.2.2).1 (fun e => far D (by omega) e.symm)).trans hs.2.2)
    (fun pre x X ⟨hi, hl, hd⟩ hp => by
      have hy := run_yield (P := P) (args := encs x) hl (by rw [hrd]; exact hps x)
      rw [hrd] at hy
      refine ⟨fn, _, assign, body, hy, roundIn_of_wpIn (F := Fence.wide) hfn (hassign _ pre x X _ hi ?_)⟩
      clear hy
      intro a' Y cY iY xY
      have lY := cY.heap hl (nT _ (by omega))
      have dY := cY.heap hd (nT _ (by omega))
      have hlt : D + 1 < Y.heap.size := (Array.getElem?_eq_some_iff.1 lY).1
      refine ⟨_, run_beginRound lY (by rw [hrd]), ?_⟩
      obtain ⟨X2, hX2⟩ : ∃ X2, X2 = Y.putObj (D + 1) (.loop { rd with state := .busy }) := ⟨_, rfl⟩
      rw [← hX2]
      have l2 : X2.heap[D + 1]? = some (.loop { rd with state := .busy }) := by rw [hX2]; exact World.putObj_heap_same hlt
      have d2 : X2.heap[D]? = some (.deferred (some [])) := by rw [hX2]; exact (World.putObj_heap_other (by omega)).trans dY
      have i2 : I pre X2 := by rw [hX2]; exact hI.putObj _ iY (by omega) lY rfl
      have x2 : Ax x a' X2 := by rw [hX2]; exact (hAx x a').putObj (s := ()) _ xY (by omega) lY rfl
      have c2 : Chg (fun i => T i ∨ i = D + 1) X X2 := by
        rw [hX2]; exact (cY.mono fun i h => .inl h).trans chg_put
      refine wpIn_mono (hbody _ pre x a' X2 i2 x2 hp) ?_
      rintro e a3 X3 ⟨rfl, c3, i3⟩
      have l3 := c3.heap l2 (nT _ (by omega))
      have d3 := c3.heap d2 (nT _ (by omega))
      have hr := run_endRound (P := P) none l3
      have hlt3 := (Array.getElem?_eq_some_iff.1 l3).1
      have e1 : (X3.putObj (D + 1) (.loop { ({ rd with state := .busy } : Loop) with state := if (none : Option Code).isNone = true then .ready else .done, pending := none })).heap[D + 1]? = some (.loop rd) := by
        rw [World.putObj_heap_same hlt3, hrd]; rfl
      refine ⟨_, _, hr, rfl, ⟨hI.putObj _ i3 (by omega) l3 rfl, e1, (World.putObj_heap_other (by omega)).trans d3⟩, ?_⟩
      have c4 := c2.trans ((c3.mono fun i h => .inl h).trans (chg_put (k := D + 1) (o := .loop { ({ rd with state := .busy } : Loop) with state := if (none : Option Code).isNone = true then .ready else .done, pending := none })))
      exact ⟨c4.os, c4.tape, c4.output, c4.size, fun i hi ht => by
        by_cases ei : i = D + 1
        · subst ei
          exact e1.trans hl.symm
        · exact c4.block i hi (fun h => h.elim ht ei)⟩)
    ⟨i1, l1, d1⟩ (n - 1)
  have hin : (Instr.enterLoop fn a.tmps ps assign body Fence.wide.round).run P w = .ok (D + 1, [{ target := .collected D, args := #[] }]) W1 := by
    have := run_enterLoop_outer (P := P) (w := w) fn a.tmps ps assign body
    rw [hW1, hrd, hD]; exact this
  have hres : (resolve a.eval (rangeCall g (D + 1)) 0).run P W1 = .ok { target := .fn (.func gf) lb, args := #[.func (.yield (D + 1)) #[] #[]] } W1 := by
    simp only [resolve, hg]; simp [go_sem]
  have hinv : (invoke (Target.fn (.func gf) lb) #[.func (.yield (D + 1)) #[] #[]]).run P W1 = .ok (.enter gf (#[.func (.yield (D + 1)) #[] #[]] ++ lb)) W1 := by
    simp [invoke, go_sem, eg]
  have hfin : ∀ e W2, ((∃ v, e = Ending.returned v) ∧ I S W2 ∧ W2.heap[D + 1]? = some (.loop rd) ∧ W2.heap[D]? = some (.deferred (some []))) → rangePost Fence.wide n P (D + 1) Q { a with defers := [{ target := .collected D, args := #[] }] ++ a.defers } e W2 := by
    rintro e W2 ⟨⟨v, rfl⟩, hi, hl, hd⟩
    have hr := run_endLoop (P := P) hl (by rw [hrd]; simp)
    have hp : rd.pending = none := by rw [hrd]
    rw [hp] at hr
    exact ⟨none, _, hr, hdone D _ (by omega) (hI.putObj _ hi (by omega) hl rfl) ((World.putObj_heap_other (by omega)).trans hd)⟩
  exact ⟨D + 1, _, W1, _, W1, gf, _, W1, hin, hres, fun _ _ => trivial, hinv, fun h => by simp [Fence.wide] at h, call.mono hfin⟩
set_option maxRecDepth 100000 in
theorem cloneInts_any (g o c : Nat) (xs : List Int) (w : World) (hr : RowAt .i64 w (.slice (some ⟨g, o, none⟩) xs.length c) xs) (hl : xs.length ≤ 4194305) :
    Calls Try.prog 58 #[.slice (some ⟨g, o, none⟩) xs.length c] w fun e w' => ∃ v, e = .returned v ∧ w'.ownsRow w.heap.size 3 1 v xs.length (xs.map (Value.int .i64)) ∧ Below w.heap.size w w' := by
  obtain ⟨i0, hi, hz0, hz1, hz2⟩ := info_parts Try.info3
  have q22 : ∀ (w : World) (a : Option Addr) (n c n' c' : Nat), (binOp .eql 22 (.slice a n c) (.slice none n' c')).run Try.prog w = .ok (.bool a.isNone) w := fun w a n c n' c' => Lib.run_eql_slice_nil w _ _ a n c n' c' Try.underlying22
  have HR := hide hr
  clear hr
  go_enter Try.func58, Try.ntmps58
  go_wp2_with (at_builtin; refine wpList_fresh rfl _ _ 22 rfl .i64 3 i0 (.int .i64 0) 8 Try.underlying22 hi hz0 hz1 hz2 rfl w.heap.size _ (own_new _ 3 w.heap.size rfl) (by simp) _ xs rfl rfl (HR.out.below (below_alloc (Below.refl _ _) _)) (by omega) (by unfold maxLen; omega) ?_; intro v' w1 hown hbel; have HO := hide hown; have HB := hide hbel; clear hown hbel)
  go_ret
  exact ⟨_, rfl, HO.out, below_on (below_alloc (Below.refl _ _) _) HB.out⟩
end Go.Proofs.Ytmagigmcbegmiaa
