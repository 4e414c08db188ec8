/- What the law RingHelds has in memory behind its lists; Held as the law calls it. -/
import Derived.Test.YtajcoimeeohnoaaLb
namespace Go.Proofs.Ytajcoimeeohnoaa
open Go.RowKit Go.Lib
set_option linter.unusedVariables false
set_option linter.unusedSimpArgs false
theorem fs_start (w : World) (b C b2 C2 : Int) : FS w b C b2 C2 (.slice none 0 0) (.slice none 0 0) [] [] ((w.alloc (.cells #[.int .i64 b, .int .i64 C] 47)).alloc (.cells #[.int .i64 b2, .int .i64 C2] 47)) :=
  ⟨(qm_one w 47 b C).below (below_alloc (Below.refl _ _) _), qm_two w 47 _ b2 C2, HRL.nil _ _⟩
/-- The lists as they stand: no longer than m, alike. -/
structure FV (w : World) (b C b2 C2 : Int) (m : Nat) (hv rv : Value) (X : World) : Prop where
  ex : ∃ hs rs, FS w b C b2 C2 hv rv hs rs X ∧ hs.length ≤ m ∧ rs.length ≤ m ∧ (OkR b C → anyO b C hs = rOth b C rs)
theorem oth_neg {b C : Int} (h : OkR b C) : oth b C (-1) 0 = true := by
  have := h.2.1
  unfold oth
  simp
  omega
theorem errH_alike {b C : Int} {n : Nat} {hs : List Hn} {rs : List (Int × Int)} (h : OkR b C → anyO b C hs = rOth b C rs) : errH b C n (rOth b C rs) = errH b C n (anyO b C hs) := by
  unfold errH
  by_cases hk : OkR b C
  · rw [h hk]
  · rw [if_neg hk, if_neg hk]
theorem ansH_len (b C : Int) (xs : List Int) (A : Bool) : (ansH b C xs A).length ≤ 65536 := by
  unfold ansH
  by_cases h : errH b C xs.length A = 0
  · rw [if_pos h, srt_length]
    have h1 := fil_length b.toNat C.toNat xs C.toNat
    unfold errH at h
    by_cases hk : OkR b C
    · have := hk.1.2; omega
    · rw [if_neg hk] at h; simp at h
  · rw [if_neg h]; simp
theorem ansH_bad {b C : Int} {xs : List Int} {A : Bool} (h : ¬ errH b C xs.length A = 0) : (ansH b C xs A).length = 0 := by
  unfold ansH; rw [if_neg h]; rfl
theorem ansH_zero (b C : Int) (n : Nat) (A : Bool) : ansH b C (tab n (fun _ => 0)) A = [] := by
  unfold ansH
  by_cases h : errH b C (tab n (fun _ => 0)).length A = 0
  · rw [if_pos h, fil_zero _ _ _ _ (fun i => ?_)]
    · exact srt_small (by simp)
    · unfold at_ tab
      by_cases hi : i < n
      · simp [hi]
      · simp [hi]
  · rw [if_neg h]
theorem wds_zero (n : Nat) : Wds (tab n (fun _ => 0)) := by
  intro i hi
  rw [tab_length] at hi
  rw [tab_at _ _ _ hi]
  decide
/-- The box of r, the handles, the copy. -/
structure MS (w : World) (b C : Int) (hv : Value) (hs : List Hn) (g c n : Nat) (xs : List Int) (X : World) : Prop where
  q : QM w w.heap.size 47 b C X
  hs : HsAt X hv hs
  fu : FU g c n xs X
theorem MS.below {w : World} {b C : Int} {hv : Value} {hs : List Hn} {g c n : Nat} {xs : List Int} {X Y : World} (h : MS w b C hv hs g c n xs X) (hb : Below X.heap.size X Y) : MS w b C hv hs g c n xs Y := ⟨h.q.below hb, h.hs.below hb, h.fu.below hb⟩
theorem FU.at {g c n : Nat} {xs : List Int} {X : World} (h : FU g c n xs X) (i : Nat) (hi : i < n) (hn : n = xs.length) : X.cell? ⟨g, i, none⟩ = some (.int .u64 (at_ xs i)) := by
  obtain ⟨g', o', c', e, _, p⟩ := h.row.cellAt i (by omega)
  simp only [Value.slice.injEq, Option.some.injEq, Addr.mk.injEq, and_true] at e
  obtain ⟨⟨rfl, rfl⟩, _⟩ := e
  simpa using p
/-- A list of tasks in a block from S on and below T. -/
structure LT (S T : Nat) (u : Value) (A : List Tk) (X : World) : Prop where
  o : TOwn X S u A
  lt : ∀ g, u.ownBlock = some g → g < T
theorem LT.below {S T : Nat} {u : Value} {A : List Tk} {X Y : World} (h : LT S T u A X) (hb : Below X.heap.size X Y) : LT S T u A Y := ⟨h.o.below hb, h.lt⟩
theorem LT.mk' {S T : Nat} {u : Value} {A : List Tk} {X : World} (h : LT S T u A X) (mk : Int) : MkT X S T u A.length 0 mk := ⟨_, h.o, fun i hi => absurd hi (Nat.not_lt_zero _), h.lt⟩
theorem LT.tat {S T : Nat} {u : Value} {A : List Tk} {X : World} (h : LT S T u A X) : TAt X u A := h.o.tat
theorem LT.wide {S T S' T' : Nat} {u : Value} {A : List Tk} {X : World} (h : LT S T u A X) (h1 : S' ≤ S) (h2 : T ≤ T') : LT S' T' u A X := ⟨own_base h.o h1, fun g e => Nat.lt_of_lt_of_le (h.lt g e) h2⟩
theorem TOwn.shape {X : World} {S : Nat} {u : Value} {A : List Tk} (h : TOwn X S u A) : ∃ ao k, u = .slice ao A.length k := by
  obtain ⟨ao, k, e, _⟩ := h.tat
  exact ⟨ao, k, e⟩
theorem held_of (b C : Int) (xs : List Int) (v hv : Value) (hs : List Hn) (w : World) (E : Int) (A : List Tk) (N : Nat) (h : RowAt .u64 w v xs) (hw : Wds xs) (h63 : (xs.length : Int) ≤ 9223372036854775807) (hh : HsAt w hv hs)
    (hE : errH b C xs.length (anyO b C hs) = E) (hA : ansH b C xs (anyO b C hs) = A) (hN : N = A.length) :
    Calls Try.prog 15 #[.agg #[.int .i64 b, .int .i64 C], v, hv] w fun e w' => ∃ ao k, e = .returned (.tuple #[.slice ao N k, .int .i64 E]) ∧ LT w.heap.size w'.heap.size (.slice ao N k) A w' ∧ Below w.heap.size w w' := by
  refine (held_any b C xs v hv hs w h hw h63 hh).mono ?_
  rintro e w' ⟨u, rfl, ho, hb⟩
  rw [hA] at ho
  obtain ⟨ao, k, rfl⟩ := ho.shape
  subst hN
  exact ⟨ao, k, by rw [hE], ⟨ho, fun g e => (own_lt ho g e).2⟩, hb⟩
theorem own_new1 (X : World) (e : TypeId) (B : Nat) (hB : B = X.heap.size) : (X.alloc (.cells #[] e)).ownsRow X.heap.size e 1 (.slice (some ⟨B, 0, none⟩) 0 0) 0 [] := by
  subst hB
  exact World.ownsRow_made X #[] 0 (Nat.le_refl _) (Nat.zero_le _) rfl
/-- All that the law has behind the four calls. -/
structure HD (w : World) (b C : Int) (hv : Value) (hs : List Hn) (g c n : Nat) (xs : List Int) (S1 S2 S3 S4 S5 : Nat) (u1 u2 u4 : Value) (A : List Tk) (X : World) : Prop where
  m : MS w b C hv hs g c n xs X
  t1 : LT S1 S2 u1 A X
  t2 : LT S2 S3 u2 A X
  t4 : LT S4 S5 u4 A X
theorem HD.below {w : World} {b C : Int} {hv : Value} {hs : List Hn} {g c n : Nat} {xs : List Int} {S1 S2 S3 S4 S5 : Nat} {u1 u2 u4 : Value} {A : List Tk} {X Y : World} (h : HD w b C hv hs g c n xs S1 S2 S3 S4 S5 u1 u2 u4 A X) (hb : Below X.heap.size X Y) : HD w b C hv hs g c n xs S1 S2 S3 S4 S5 u1 u2 u4 A Y := ⟨h.m.below hb, h.t1.below hb, h.t2.below hb, h.t4.below hb⟩
theorem mkT_here {X : World} {S T : Nat} {n c cap g : Nat} {mk : Int} (h : MkT X S T (.slice (some ⟨g, 0, none⟩) n cap) n c mk) (i : Nat) (hi : i < n) : (∃ v, X.cell? ⟨g, i * 2, none⟩ = some v) ∧ X.frozen? ⟨g, i * 2, none⟩ = false ∧ S ≤ g ∧ g < T ∧ (i < c → X.cell? ⟨g, i * 2, none⟩ = some (.int .u64 mk)) := by
  obtain ⟨e, _⟩ | ⟨g', cap', e, x1, x2, x3, x4, x5, x6, x7, x8⟩ := h.spot
  · simp at e
  · simp only [Value.slice.injEq, Option.some.injEq, Addr.mk.injEq, true_and, and_true] at e
    obtain ⟨rfl, rfl⟩ := e
    exact ⟨x6 i hi, x7 _, x3, x4, fun hc => x8 i hc hi⟩
theorem mkT_blk {X : World} {S T : Nat} {n c cap : Nat} {ao : Option Addr} {mk : Int} (h : MkT X S T (.slice ao n cap) n c mk) (hn : 0 < n) : ∃ g, ao = some ⟨g, 0, none⟩ ∧ n ≤ cap := by
  obtain ⟨e, h0⟩ | ⟨g', cap', e, x1, x2, x3, x4, x5, x6, x7, x8⟩ := h.spot
  · omega
  · simp only [Value.slice.injEq, true_and] at e
    obtain ⟨rfl, rfl⟩ := e
    exact ⟨g', rfl, x1⟩
/-- The three lists being marked: of each the first c1, c2, c4 keys. -/
structure M3 (w : World) (S1 S2 S3 S4 S5 : Nat) (u1 u2 u4 : Value) (N c1 c2 c4 : Nat) (X : World) : Prop where
  m1 : MkT X S1 S2 u1 N c1 1001
  m2 : MkT X S2 S3 u2 N c2 1002
  m4 : MkT X S4 S5 u4 N c4 1003
  bel : Below w.heap.size w X
  sz : S5 ≤ X.heap.size
theorem set_other {X : World} {g k : Nat} {u : Value} {j : Nat} (h : j ≠ g) : (X.setCell ⟨g, k, none⟩ u).heap[j]? = X.heap[j]? := Below.heap_setCell X ⟨g, k, none⟩ u j h
theorem M3.put1 {w : World} {S1 S2 S3 S4 S5 : Nat} {u2 u4 : Value} {N c c2 c4 g cap : Nat} {X : World} (h : M3 w S1 S2 S3 S4 S5 (.slice (some ⟨g, 0, none⟩) N cap) u2 u4 N c c2 c4 X) (hc : c < N) (e1 : S1 ≤ g) (e2 : g < S2) (o2 : S2 ≤ S4) (o0 : w.heap.size ≤ S1) :
    M3 w S1 S2 S3 S4 S5 (.slice (some ⟨g, 0, none⟩) N cap) u2 u4 N (c + 1) c2 c4 (X.setCell ⟨g, c * 2, none⟩ (.int .u64 1001)) :=
  ⟨h.m1.put hc, h.m2.stay (fun j h1 h2 _ => set_other (by omega)), h.m4.stay (fun j h1 h2 _ => set_other (by omega)), h.bel.trans ⟨rfl, rfl, rfl, by simp [World.setCell], fun k hk => set_other (by omega)⟩, by simpa [World.setCell] using h.sz⟩
theorem M3.put2 {w : World} {S1 S2 S3 S4 S5 : Nat} {u1 u4 : Value} {N c c1 c4 g cap : Nat} {X : World} (h : M3 w S1 S2 S3 S4 S5 u1 (.slice (some ⟨g, 0, none⟩) N cap) u4 N c1 c c4 X) (hc : c < N) (e1 : S2 ≤ g) (e2 : g < S3) (o2 : S3 ≤ S4) (o0 : w.heap.size ≤ S2) :
    M3 w S1 S2 S3 S4 S5 u1 (.slice (some ⟨g, 0, none⟩) N cap) u4 N c1 (c + 1) c4 (X.setCell ⟨g, c * 2, none⟩ (.int .u64 1002)) :=
  ⟨h.m1.stay (fun j h1 h2 _ => set_other (by omega)), h.m2.put hc, h.m4.stay (fun j h1 h2 _ => set_other (by omega)), h.bel.trans ⟨rfl, rfl, rfl, by simp [World.setCell], fun k hk => set_other (by omega)⟩, by simpa [World.setCell] using h.sz⟩
theorem M3.put4 {w : World} {S1 S2 S3 S4 S5 : Nat} {u1 u2 : Value} {N c c1 c2 g cap : Nat} {X : World} (h : M3 w S1 S2 S3 S4 S5 u1 u2 (.slice (some ⟨g, 0, none⟩) N cap) N c1 c2 c X) (hc : c < N) (e1 : S4 ≤ g) (e2 : g < S5) (o1 : S2 ≤ S4) (o2 : S3 ≤ S4) (o0 : w.heap.size ≤ S4) :
    M3 w S1 S2 S3 S4 S5 u1 u2 (.slice (some ⟨g, 0, none⟩) N cap) N c1 c2 (c + 1) (X.setCell ⟨g, c * 2, none⟩ (.int .u64 1003)) :=
  ⟨h.m1.stay (fun j h1 h2 _ => set_other (by omega)), h.m2.stay (fun j h1 h2 _ => set_other (by omega)), h.m4.put hc, h.bel.trans ⟨rfl, rfl, rfl, by simp [World.setCell], fun k hk => set_other (by omega)⟩, by simpa [World.setCell] using h.sz⟩
/-- The three lists being put behind. -/
structure A3 (w : World) (S1 S2 S3 S4 S5 : Nat) (u1 u2 u4 x1 x2 x4 : Value) (N k1 k2 k4 : Nat) (X : World) : Prop where
  m1 : ST X S1 S2 S5 u1 x1 N k1 1001
  m2 : ST X S2 S3 S5 u2 x2 N k2 1002
  m4 : ST X S4 S5 S5 u4 x4 N k4 1003
  bel : Below w.heap.size w X
  sz : S5 ≤ X.heap.size
theorem A3.start {w : World} {S1 S2 S3 S4 S5 : Nat} {u1 u2 u4 : Value} {N : Nat} {X : World} (h : M3 w S1 S2 S3 S4 S5 u1 u2 u4 N N N N X) : A3 w S1 S2 S3 S4 S5 u1 u2 u4 u1 u2 u4 N N N N X := ⟨ST.start h.m1, ST.start h.m2, ST.start h.m4, h.bel, h.sz⟩
theorem A3.marks {w : World} {S1 S2 S3 S4 S5 : Nat} {u1 u2 u4 x1 x2 x4 : Value} {N k1 k2 k4 : Nat} {X : World} (h : A3 w S1 S2 S3 S4 S5 u1 u2 u4 x1 x2 x4 N k1 k2 k4 X) : M3 w S1 S2 S3 S4 S5 u1 u2 u4 N N N N X := ⟨h.m1.marks, h.m2.marks, h.m4.marks, h.bel, h.sz⟩
theorem A3.app1 {w : World} {S1 S2 S3 S4 S5 : Nat} {u1 u2 u4 x1 x2 x4 v : Value} {N k1 k2 k4 k : Nat} {X Y : World} (h : A3 w S1 S2 S3 S4 S5 u1 u2 u4 x1 x2 x4 N k1 k2 k4 X) (p : ST Y S1 S2 S5 u1 v N k 1001) (t : Tch S1 S2 S5 X Y) (o1 : w.heap.size ≤ S1) (o2 : S1 ≤ S2) (o3 : S2 ≤ S3) (o4 : S3 ≤ S4) (o5 : S4 ≤ S5) : A3 w S1 S2 S3 S4 S5 u1 u2 u4 v x2 x4 N k k2 k4 Y :=
  ⟨p, h.m2.tch t (.inr (Nat.le_refl _)) (by omega), h.m4.tch t (.inr (by omega)) (Nat.le_refl _), Tch.below h.bel t o1 (by omega) (by have := h.sz; omega), Nat.le_trans h.sz t.size⟩
theorem A3.app2 {w : World} {S1 S2 S3 S4 S5 : Nat} {u1 u2 u4 x1 x2 x4 v : Value} {N k1 k2 k4 k : Nat} {X Y : World} (h : A3 w S1 S2 S3 S4 S5 u1 u2 u4 x1 x2 x4 N k1 k2 k4 X) (p : ST Y S2 S3 S5 u2 v N k 1002) (t : Tch S2 S3 S5 X Y) (o1 : w.heap.size ≤ S1) (o2 : S1 ≤ S2) (o3 : S2 ≤ S3) (o4 : S3 ≤ S4) (o5 : S4 ≤ S5) : A3 w S1 S2 S3 S4 S5 u1 u2 u4 x1 v x4 N k1 k k4 Y :=
  ⟨h.m1.tch t (.inl (Nat.le_refl _)) (by omega), p, h.m4.tch t (.inr o4) (Nat.le_refl _), Tch.below h.bel t (by omega) (by omega) (by have := h.sz; omega), Nat.le_trans h.sz t.size⟩
theorem A3.app4 {w : World} {S1 S2 S3 S4 S5 : Nat} {u1 u2 u4 x1 x2 x4 v : Value} {N k1 k2 k4 k : Nat} {X Y : World} (h : A3 w S1 S2 S3 S4 S5 u1 u2 u4 x1 x2 x4 N k1 k2 k4 X) (p : ST Y S4 S5 S5 u4 v N k 1003) (t : Tch S4 S5 S5 X Y) (o1 : w.heap.size ≤ S1) (o2 : S1 ≤ S2) (o3 : S2 ≤ S3) (o4 : S3 ≤ S4) (o5 : S4 ≤ S5) : A3 w S1 S2 S3 S4 S5 u1 u2 u4 x1 x2 v N k1 k2 k Y :=
  ⟨h.m1.tch t (.inl (by omega)) (by omega), h.m2.tch t (.inl o4) (by omega), p, Tch.below h.bel t (by omega) (by omega) (by have := h.sz; omega), Nat.le_trans h.sz t.size⟩
end Go.Proofs.Ytajcoimeeohnoaa
