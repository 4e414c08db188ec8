/- The lists of handles and of rings under way; a copy of the cells with two marks. -/
import Derived.Test.YtajcoimeeohnoaaLa
import Derived.Test.YtajcoimeeohnoaaHa
import Derived.Maps.AppendAt
namespace Go.Proofs.Ytajcoimeeohnoaa
open Go.RowKit Go.Lib
set_option linter.unusedVariables false
set_option linter.unusedSimpArgs false
theorem Try.info50 : (Try.prog.info? 50).map (fun i => (i.zero, i.size, i.bytes)) = some (some (.pointer none), 1, 8) := by kernel_rfl
theorem Try.info47 : (Try.prog.info? 47).map (fun i => (i.zero, i.size, i.bytes)) = some (some (.agg #[.int .i64 0, .int .i64 0]), 2, 16) := by kernel_rfl
theorem anyO_snoc (b C : Int) (hs : List Hn) (x : Hn) : anyO b C (hs ++ [x]) = (anyO b C hs || hOth b C x) := by
  unfold anyO
  rw [List.length_append, List.length_singleton, List.range_succ, List.any_append]
  congr 1
  · rw [Bool.eq_iff_iff, List.any_eq_true, List.any_eq_true]
    constructor
    · rintro ⟨i, hi, h⟩
      refine ⟨i, hi, ?_⟩
      unfold hAt at h ⊢
      rwa [List.getElem?_append_left (List.mem_range.1 hi)] at h
    · rintro ⟨i, hi, h⟩
      refine ⟨i, hi, ?_⟩
      unfold hAt at h ⊢
      rwa [List.getElem?_append_left (List.mem_range.1 hi)]
  · simp [hAt]
theorem rOth_snoc (b C : Int) (rs : List (Int × Int)) (p : Int × Int) : rOth b C (rs ++ [p]) = (rOth b C rs || oth b C p.1 p.2) := by
  unfold rOth
  rw [List.length_append, List.length_singleton, List.range_succ, List.any_append]
  congr 1
  · rw [Bool.eq_iff_iff, List.any_eq_true, List.any_eq_true]
    constructor
    · rintro ⟨i, hi, h⟩
      refine ⟨i, hi, ?_⟩
      unfold rAt at h ⊢
      rwa [List.getElem?_append_left (List.mem_range.1 hi)] at h
    · rintro ⟨i, hi, h⟩
      refine ⟨i, hi, ?_⟩
      unfold rAt at h ⊢
      rwa [List.getElem?_append_left (List.mem_range.1 hi)]
  · simp [rAt]
def rCells (l : List (Int × Int)) : List Value := l.flatMap fun p => [.int .i64 p.1, .int .i64 p.2]
theorem rCells_length (l : List (Int × Int)) : (rCells l).length = l.length * 2 := by
  induction l with
  | nil => rfl
  | cons a l ih => simp [rCells] at ih ⊢; omega
theorem rCells_at (l : List (Int × Int)) (i : Nat) (h : i < l.length) : (rCells l)[i * 2]? = some (.int .i64 (rAt l i).1) ∧ (rCells l)[i * 2 + 1]? = some (.int .i64 (rAt l i).2) := by
  induction l generalizing i with
  | nil => simp at h
  | cons a l ih =>
    cases i with
    | zero => simp [rCells, rAt]
    | succ i =>
      have := ih i (by simpa using h)
      have e : rCells (a :: l) = [.int .i64 a.1, .int .i64 a.2] ++ rCells l := by simp [rCells]
      rw [e, show (i + 1) * 2 = i * 2 + 2 by omega]
      simp only [rAt, List.getElem?_cons_succ] at this ⊢
      constructor
      · rw [List.getElem?_append_right (by simp)]; simpa using this.1
      · rw [List.getElem?_append_right (by simp)]; simpa using this.2
theorem rCells_snoc (l : List (Int × Int)) (p : Int × Int) : rCells (l ++ [p]) = rCells l ++ [.int .i64 p.1, .int .i64 p.2] := by simp [rCells]
/-- A handle that lies in neither list's block. -/
def hFar (hv rv : Value) : Hn → Prop
  | none => True
  | some (H, _, _) => hv.ownBlock ≠ some H ∧ rv.ownBlock ≠ some H
/-- The two lists under way. -/
structure HRL (B : Nat) (hv rv : Value) (hs : List Hn) (rs : List (Int × Int)) (X : World) : Prop where
  ho : X.ownsRow B 50 1 hv hs.length (hs.map hPtr)
  ro : X.ownsRow B 47 2 rv rs.length (rCells rs)
  hi : ∀ i, i < hs.length → hIn X (hAt hs i) ∧ hFar hv rv (hAt hs i)
theorem HRL.nil (B : Nat) (X : World) : HRL B (.slice none 0 0) (.slice none 0 0) [] [] X := ⟨World.ownsRow_nil X _ _ _, World.ownsRow_nil X _ _ _, fun i hi => absurd hi (Nat.not_lt_zero _)⟩
theorem HRL.below {B : Nat} {hv rv : Value} {hs : List Hn} {rs : List (Int × Int)} {X Y : World} (h : HRL B hv rv hs rs X) (hb : Below X.heap.size X Y) : HRL B hv rv hs rs Y :=
  ⟨own_stay h.ho (fun g e => hb.block g (own_lt h.ho g e).2), own_stay h.ro (fun g e => hb.block g (own_lt h.ro g e).2), fun i hi => ⟨hIn_below _ (h.hi i hi).1 hb, (h.hi i hi).2⟩⟩
/-- A handle that was made behind the lists is in neither. -/
theorem HRL.far {B : Nat} {hv rv : Value} {hs : List Hn} {rs : List (Int × Int)} {X : World} (h : HRL B hv rv hs rs X) {H : Nat} {b C : Int} (hH : X.heap.size ≤ H) : hFar hv rv (some (H, b, C)) :=
  ⟨fun e => by have := (own_lt h.ho _ e).2; omega, fun e => by have := (own_lt h.ro _ e).2; omega⟩
theorem own_type {X : World} {S e e' size size' : Nat} {u v : Value} {n m : Nat} {xs ys : List Value} (h : X.ownsRow S e size u n xs) (k : X.ownsRow S e' size' v m ys) (hne : e ≠ e') : ∀ g, u.ownBlock = some g → v.ownBlock ≠ some g := by
  intro g e1 e2
  obtain ⟨_, ⟨rfl, _⟩ | ⟨g1, c1, cur1, rfl, _, hc1, _⟩⟩ := h
  · cases e1
  · obtain ⟨_, ⟨rfl, _⟩ | ⟨g2, c2, cur2, rfl, _, hc2, _⟩⟩ := k
    · cases e2
    · cases e1; cases e2
      rw [hc1] at hc2
      simp only [Option.some.injEq, Obj.cells.injEq] at hc2
      exact hne hc2.2.1
theorem hIn_grown {X Y : World} {row : Option Nat} (x : Hn) (h : hIn X x) (hg : X.grownBy Y row) (hf : ∀ H b C, x = some (H, b, C) → row ≠ some H) : hIn Y x := by
  match x, h with
  | none, _ => trivial
  | some (H, b', C'), h =>
    have hb : Y.heap[H]? = X.heap[H]? := hg.block H (block_of_cell h.c0) (fun e => hf H b' C' rfl e.symm)
    exact ⟨(World.cell?_of_block hb).trans h.c0, (World.cell?_of_block hb).trans h.c1, (World.cell?_of_block hb).trans h.c2⟩
theorem hIn_lt {X : World} {x : Hn} (h : hIn X x) : ∀ H b C, x = some (H, b, C) → H < X.heap.size := by
  rintro H b C rfl
  exact block_of_cell h.c0
theorem hAt_snoc (hs : List Hn) (x : Hn) (i : Nat) (hi : i < (hs ++ [x]).length) : (i < hs.length ∧ hAt (hs ++ [x]) i = hAt hs i) ∨ (i = hs.length ∧ hAt (hs ++ [x]) i = x) := by
  rw [List.length_append, List.length_singleton] at hi
  by_cases h : i < hs.length
  · exact .inl ⟨h, by unfold hAt; rw [List.getElem?_append_left h]⟩
  · obtain rfl : i = hs.length := by omega
    exact .inr ⟨rfl, by unfold hAt; simp⟩
theorem HRL.app_h {B : Nat} {hv rv hv' : Value} {hs : List Hn} {rs : List (Int × Int)} {X Y : World} {x : Hn} (h : HRL B hv rv hs rs X) (hx : hIn X x) (hf : hFar hv rv x)
    (h1 : Y.ownsRow B 50 1 hv' (hs.length + 1) (hs.map hPtr ++ [hPtr x])) (h2 : X.grownBy Y hv.ownBlock) (h3 : hv'.ownBlock = hv.ownBlock ∨ hv'.ownBlock = some X.heap.size) : HRL B hv' rv (hs ++ [x]) rs Y := by
  have far : ∀ z, hIn X z → hFar hv rv z → hIn Y z ∧ hFar hv' rv z := by
    intro z hz hzf
    refine ⟨hIn_grown z hz h2 (fun H b C e => ?_), ?_⟩
    · subst e; exact hzf.1
    · match z, hz, hzf with
      | none, _, _ => trivial
      | some (H, b', C'), hz, hzf =>
        refine ⟨fun e => ?_, hzf.2⟩
        rcases h3 with h3 | h3
        · exact hzf.1 (h3.symm.trans e)
        · rw [h3] at e; have := hIn_lt hz H b' C' rfl; simp only [Option.some.injEq] at e; omega
  refine ⟨by simpa using h1, own_stay h.ro (fun g e => h2.block g (own_lt h.ro g e).2 (fun e' => own_type h.ho h.ro (by decide) g e'.symm e)), fun i hi => ?_⟩
  rcases hAt_snoc hs x i hi with ⟨hl, e⟩ | ⟨_, e⟩
  · rw [e]; exact far _ (h.hi i hl).1 (h.hi i hl).2
  · rw [e]; exact far _ hx hf
theorem HRL.app_r {B : Nat} {hv rv rv' : Value} {hs : List Hn} {rs : List (Int × Int)} {X Y : World} {p : Int × Int} (h : HRL B hv rv hs rs X)
    (h1 : Y.ownsRow B 47 2 rv' (rs.length + 1) (rCells rs ++ [.int .i64 p.1, .int .i64 p.2])) (h2 : X.grownBy Y rv.ownBlock) (h3 : rv'.ownBlock = rv.ownBlock ∨ rv'.ownBlock = some X.heap.size) : HRL B hv rv' hs (rs ++ [p]) Y := by
  refine ⟨own_stay h.ho (fun g e => h2.block g (own_lt h.ho g e).2 (fun e' => own_type h.ro h.ho (by decide) g e'.symm e)), by rw [rCells_snoc]; simpa using h1, fun i hi => ?_⟩
  have hz := (h.hi i hi).1
  have hzf := (h.hi i hi).2
  refine ⟨hIn_grown _ hz h2 (fun H b C e => ?_), ?_⟩
  · rw [e] at hzf; exact hzf.2
  · generalize hAt hs i = z at hz hzf
    match z, hz, hzf with
    | none, _, _ => trivial
    | some (H, b', C'), hz, hzf =>
      refine ⟨hzf.1, fun e => ?_⟩
      rcases h3 with h3 | h3
      · exact hzf.2 (h3.symm.trans e)
      · rw [h3] at e; have := hIn_lt hz H b' C' rfl; simp only [Option.some.injEq] at e; omega
theorem HRL.hsAt {B : Nat} {hv rv : Value} {hs : List Hn} {rs : List (Int × Int)} {X : World} (h : HRL B hv rv hs rs X) : HsAt X hv hs := by
  obtain ⟨h0, ⟨rfl, hn⟩ | ⟨g, cap, cur, rfl, hg, hc, h1, h2, h3, h4⟩⟩ := id h.ho
  · obtain rfl : hs = [] := List.eq_nil_of_length_eq_zero hn
    exact ⟨none, 0, rfl, Nat.le_refl _, by decide, fun i hi => absurd hi (Nat.not_lt_zero _)⟩
  · refine ⟨_, cap, rfl, h1, h2, fun i hi => ⟨g, 0, rfl, ?_, (h.hi i hi).1⟩⟩
    have p : (hs.map hPtr)[i]? = some (hPtr (hAt hs i)) := by unfold hAt; simp [List.getElem?_eq_getElem hi]
    rw [← h4, List.getElem?_take_of_lt (by omega)] at p
    rw [Nat.zero_add]
    exact cell_of hc (by simpa using p)
theorem HRL.rsAt {B : Nat} {hv rv : Value} {hs : List Hn} {rs : List (Int × Int)} {X : World} (h : HRL B hv rv hs rs X) : RsAt X rv rs := by
  obtain ⟨h0, ⟨rfl, hn⟩ | ⟨g, cap, cur, rfl, hg, hc, h1, h2, h3, h4⟩⟩ := id h.ro
  · obtain rfl : rs = [] := List.eq_nil_of_length_eq_zero hn
    exact ⟨none, 0, rfl, Nat.le_refl _, by decide, fun i hi => absurd hi (Nat.not_lt_zero _)⟩
  · refine ⟨_, cap, rfl, h1, h2, fun i hi => ⟨g, 0, rfl, ?_⟩⟩
    obtain ⟨p, q⟩ := rCells_at rs i hi
    rw [← h4, List.getElem?_take_of_lt (by omega)] at p q
    rw [Nat.zero_add]
    exact ⟨cell_of hc (by simpa using p), cell_of hc (by simpa using q)⟩
/-- The copy of the cells with two marks behind it. -/
structure FU (g c n : Nat) (xs : List Int) (X : World) : Prop where
  row : RowAt .u64 X (.slice (some ⟨g, 0, none⟩) n c) xs
  c1 : X.cell? ⟨g, n, none⟩ = some (.int .u64 71)
  c2 : X.cell? ⟨g, n + 1, none⟩ = some (.int .u64 72)
theorem FU.below {g c n : Nat} {xs : List Int} {X Y : World} (h : FU g c n xs X) (hb : Below X.heap.size X Y) : FU g c n xs Y :=
  ⟨h.row.below hb, (below_cell hb (block_of_cell h.c1)).trans h.c1, (below_cell hb (block_of_cell h.c2)).trans h.c2⟩
theorem marksU_made {A w4 w5 : World} {v4 v5 : Value} {xs : List Int} {fr : Nat} (hfr : fr = A.heap.size) (h1 : w4.ownsRow fr 32 1 v4 xs.length (xs.map (Value.int .u64))) (hb : Below A.heap.size A w4)
    (h2 : w5.ownsRow fr 32 1 v5 (xs.length + 2) (xs.map (Value.int .u64) ++ [.int .u64 71, .int .u64 72])) (h3 : (w4.alloc (.cells #[.int .u64 71, .int .u64 72] 32)).grownBy w5 v4.ownBlock) :
    ∃ g c, v5 = .slice (some ⟨g, 0, none⟩) (xs.length + 2) c ∧ xs.length + 2 ≤ c ∧ c ≤ maxLen ∧ FU g c xs.length xs w5 ∧ Below A.heap.size A w5 := by
  subst hfr
  have hbel : Below A.heap.size A w5 := by
    have hb4 : Below A.heap.size A (w4.alloc (.cells #[.int .u64 71, .int .u64 72] 32)) := below_alloc hb _
    exact hb4.grown h3 hb4.size (fun j hj => (own_lt h1 j hj).1)
  obtain ⟨h0, ⟨rfl, hn⟩ | ⟨g, cap, cur, rfl, hg, hc, r1, r2, r3, r4⟩⟩ := h2
  · omega
  · have at5 : ∀ j u, (xs.map (Value.int .u64) ++ [.int .u64 71, .int .u64 72])[j]? = some u → j < xs.length + 2 → w5.cell? ⟨g, j, none⟩ = some u := by
      intro j u hj hl
      rw [← r4, List.getElem?_take_of_lt (by omega)] at hj
      exact cell_of hc (by simpa using hj)
    refine ⟨g, cap, rfl, r1, r2, ⟨⟨_, cap, rfl, by omega, r2, (fun e => by cases e), fun a ha i hi => ?_⟩, ?_, ?_⟩, hbel⟩
    · cases ha
      rw [Addr.add_lit, Nat.zero_add]
      refine at5 i _ ?_ (by omega)
      rw [List.getElem?_append_left (by simpa using hi)]
      simp [List.getD, List.getElem?_eq_getElem hi]
    · exact at5 xs.length _ (by rw [List.getElem?_append_right (by simp)]; simp) (by omega)
    · exact at5 (xs.length + 1) _ (by rw [List.getElem?_append_right (by simp)]; simp) (by omega)
/-- 'make([]T, n)' at a step of a region that draws its order. -/
theorem step_make_row {P : Program} {w : World} {ops : Array Oper} {o : Oper} {a : Act} {K : Act → World → Prop} {Q : Exit → Act → World → Prop} {E : Prop}
    (hg : o.guard = none) (l c : Operand) (t : TypeId) (hop : o.op = Op.makeSlice t l c)
    (e : TypeId) (i : TypeInfo) (z : Value) (ht : P.underlying t = some (.slice e)) (hi : P.info? e = some i) (hz : i.zero = some z) (hsize : i.size = 1) (hz1 : z.cells = #[z])
    (kl kc : IntKind) (n : Nat) (hl : a.eval l = .int kl (n : Int)) (hc : a.eval c = .int kc (n : Int)) (hbytes : i.bytes * n ≤ 281474976710656) (h63 : n ≤ 9223372036854775807)
    (hK : K (a.put o.dst (.slice (some ⟨w.heap.size, 0, none⟩) n n)) (w.alloc (.cells (madeCells #[z] n) e))) :
    if Region.wanted o (yielded ops a.tmps) = true then Oper.wp P o a w K Q else E := by
  have hw : Region.wanted o (yielded ops a.tmps) = true := by simp [Region.wanted, hg]
  rw [if_pos hw]
  have hrun := run_make_row (P := P) t e i z ht hi hz hsize hz1 kl kc n hbytes h63 w
  unfold Oper.wp
  simp [execOp, hop, hl, hc, hrun, Result.andThen]
  exact hK
theorem zeros_row (X : World) (n : Nat) (h63 : n ≤ 9223372036854775807) : RowAt .u64 (X.alloc (.cells (madeCells #[.int .u64 0] n) 32)) (.slice (some ⟨X.heap.size, 0, none⟩) n n) (tab n (fun _ => 0)) := by
  have hl : (tab n (fun _ => 0)).length = n := tab_length _ _
  have hA : ArrU (X.alloc (.cells (madeCells #[.int .u64 0] n) 32)) X.heap.size (tab n (fun _ => 0)) := by
    unfold ArrU
    rw [heap_new]
    have e : madeCells #[Value.int .u64 0] n = uCells (tab n (fun _ => 0)) := by
      apply Array.ext'
      apply List.ext_getElem
      · simp [madeCells, uCells, tab]
      · intro i h1 h2
        simp [madeCells, uCells, Nat.mod_one, tab]
    rw [e]
  exact hA.row hl h63
theorem QM.grown {w : World} {B : Nat} {ty : TypeId} {b C : Int} {X Y : World} {row : Option Nat} (h : QM w B ty b C X) (hg : X.grownBy Y row) (hr : ∀ k, row = some k → B < k) : QM w B ty b C Y :=
  ⟨(hg.block _ (lt_of_heap h.bx) (fun e => by have := hr _ e.symm; omega)).trans h.bx, h.bel.grown hg h.bel.size (fun j hj => by have := hr j hj; have := h.hB; omega), h.hB⟩
/-- What the law has, up to the lists of handles and rings. -/
structure FS (w : World) (b C b2 C2 : Int) (hv rv : Value) (hs : List Hn) (rs : List (Int × Int)) (X : World) : Prop where
  q1 : QM w w.heap.size 47 b C X
  q2 : QM w (w.heap.size + 1) 47 b2 C2 X
  fl : HRL (w.heap.size + 2) hv rv hs rs X
theorem FS.below {w : World} {b C b2 C2 : Int} {hv rv : Value} {hs : List Hn} {rs : List (Int × Int)} {X Y : World} (h : FS w b C b2 C2 hv rv hs rs X) (hb : Below X.heap.size X Y) : FS w b C b2 C2 hv rv hs rs Y := ⟨h.q1.below hb, h.q2.below hb, h.fl.below hb⟩
theorem FS.app_h {w : World} {b C b2 C2 : Int} {hv rv hv' : Value} {hs : List Hn} {rs : List (Int × Int)} {X Y : World} {x : Hn} (h : FS w b C b2 C2 hv rv hs rs X) (hx : hIn X x) (hf : hFar hv rv x)
    (h1 : Y.ownsRow (w.heap.size + 2) 50 1 hv' (hs.length + 1) (hs.map hPtr ++ [hPtr x])) (h2 : X.grownBy Y hv.ownBlock) (h3 : hv'.ownBlock = hv.ownBlock ∨ hv'.ownBlock = some X.heap.size) : FS w b C b2 C2 hv' rv (hs ++ [x]) rs Y :=
  ⟨h.q1.grown h2 (fun k e => by have := (own_lt h.fl.ho k e).1; omega), h.q2.grown h2 (fun k e => by have := (own_lt h.fl.ho k e).1; omega), h.fl.app_h hx hf h1 h2 h3⟩
theorem FS.app_r {w : World} {b C b2 C2 : Int} {hv rv rv' : Value} {hs : List Hn} {rs : List (Int × Int)} {X Y : World} {p : Int × Int} (h : FS w b C b2 C2 hv rv hs rs X)
    (h1 : Y.ownsRow (w.heap.size + 2) 47 2 rv' (rs.length + 1) (rCells rs ++ [.int .i64 p.1, .int .i64 p.2])) (h2 : X.grownBy Y rv.ownBlock) (h3 : rv'.ownBlock = rv.ownBlock ∨ rv'.ownBlock = some X.heap.size) : FS w b C b2 C2 hv rv' hs (rs ++ [p]) Y :=
  ⟨h.q1.grown h2 (fun k e => by have := (own_lt h.fl.ro k e).1; omega), h.q2.grown h2 (fun k e => by have := (own_lt h.fl.ro k e).1; omega), h.fl.app_r h1 h2 h3⟩
/-- 'append(hs, h)'. -/
theorem wpList_append_h {X : World} {ops : Array Oper} {rest : List Oper} {o : Oper} {a : Act} {Q : Exit → Act → World → Prop} (hgd : o.guard = none) (s x : Operand)
    (ho : o.op = .call { callee := .builtin .append, args := #[s, x], argTypes := #[48, 48] }) (i : TypeInfo) (hi : Try.prog.info? 50 = some i) (hz : i.zero = some (.pointer none)) (hsize : i.size = 1) (hby : i.bytes = 8)
    (w : World) (b C b2 C2 : Int) (hv rv : Value) (hs : List Hn) (rs : List (Int × Int)) (y : Hn) (hsv : a.eval s = hv) (hst : FS w b C b2 C2 hv rv hs rs X) (hy : hIn X y) (hf : hFar hv rv y) (hm : hs.length ≤ 300000) (hx : a.eval x = .slice (some ⟨X.heap.size, 0, none⟩) 1 1)
    (h : ∀ v' w', FS w b C b2 C2 v' rv (hs ++ [y]) rs w' → wpList Try.prog ops Q rest (a.put o.dst v') w') : wpList Try.prog ops Q (o :: rest) a (X.alloc (.cells #[hPtr y] 50)) := by
  have hb : Below X.heap.size X (X.alloc (.cells #[hPtr y] 50)) := below_alloc (Below.refl _ _) _
  have hst1 := hst.below hb
  have h1c : (hPtr y).oneCell' = true := by
    match y with
    | none => rfl
    | some (H, b', C') => rfl
  have hsz : w.heap.size + 2 ≤ X.heap.size := lt_of_heap hst.q2.bx
  refine wpList_append_own_at _ hgd s x 48 ho (w.heap.size + 2) 50 i (.pointer none) 1 8 Try.underlying48 hi hz hsize hby rfl (by decide) hv hs.length _ hsv hst1.fl.ho ⟨X.heap.size, 0, none⟩ 1 1 [hPtr y] hx rfl (cell_one_new X _ _) (by simpa using h1c) (by unfold maxLen; omega) (by omega) (by simp; omega) ?_
  intro v' w' p1 p2 _ p4
  exact h v' w' (hst1.app_h (hIn_below _ hy hb) hf p1 p2 p4)
/-- 'append(rings, r)'. -/
theorem wpList_append_r {X : World} {ops : Array Oper} {rest : List Oper} {o : Oper} {a : Act} {Q : Exit → Act → World → Prop} (hgd : o.guard = none) (s x : Operand)
    (ho : o.op = .call { callee := .builtin .append, args := #[s, x], argTypes := #[49, 49] }) (i : TypeInfo) (hi : Try.prog.info? 47 = some i) (hz : i.zero = some (.agg #[.int .i64 0, .int .i64 0])) (hsize : i.size = 2) (hby : i.bytes = 16)
    (w : World) (b C b2 C2 : Int) (hv rv : Value) (hs : List Hn) (rs : List (Int × Int)) (y0 y1 : Int) (hsv : a.eval s = rv) (hst : FS w b C b2 C2 hv rv hs rs X) (hm : rs.length ≤ 300000) (hx : a.eval x = .slice (some ⟨X.heap.size, 0, none⟩) 1 1)
    (h : ∀ v' w', FS w b C b2 C2 hv v' hs (rs ++ [(y0, y1)]) w' → wpList Try.prog ops Q rest (a.put o.dst v') w') : wpList Try.prog ops Q (o :: rest) a (X.alloc (.cells #[.int .i64 y0, .int .i64 y1] 47)) := by
  have hb : Below X.heap.size X (X.alloc (.cells #[.int .i64 y0, .int .i64 y1] 47)) := below_alloc (Below.refl _ _) _
  have hst1 := hst.below hb
  have hsz : w.heap.size + 2 ≤ X.heap.size := lt_of_heap hst.q2.bx
  refine wpList_append_own_at _ hgd s x 49 ho (w.heap.size + 2) 47 i (.agg #[.int .i64 0, .int .i64 0]) 2 16 Try.underlying49 hi hz hsize hby rfl (by decide) rv rs.length _ hsv hst1.fl.ro ⟨X.heap.size, 0, none⟩ 1 1 [.int .i64 y0, .int .i64 y1] hx rfl (two_at X _ _ _) (by simp [Value.oneCell']) (by unfold maxLen; omega) (by omega) (by simp; omega) ?_
  intro v' w' p1 p2 _ p4
  exact h v' w' (hst1.app_r (p := (y0, y1)) p1 p2 p4)
end Go.Proofs.Ytajcoimeeohnoaa
