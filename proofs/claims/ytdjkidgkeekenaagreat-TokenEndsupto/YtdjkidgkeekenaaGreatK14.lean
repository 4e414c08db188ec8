/- The law of Check, Cells, New. -/
import Derived.Test.YtdjkidgkeekenaaGreatK13
import Derived.Test.YtdjkidgkeekenaaGreatK6
import Derived.Test.YtdjkidgkeekenaaGreatK10
import Derived.Test.YtdjkidgkeekenaaGreatK9
namespace Go.Proofs.YtdjkidgkeekenaaGreat
open Go.RowKit Go.Lib
set_option linter.unusedVariables false
set_option linter.unusedSimpArgs false
/-- A list of words: nothing, or a block of its own in [S, T). -/
def CLr (S T : Nat) (w : World) (v : Value) (L : List Int) : Prop := (v = .slice none 0 0 ∧ L = []) ∨ ∃ g, S ≤ g ∧ g < T ∧ v = .slice (some ⟨g, 0, none⟩) L.length L.length ∧ 0 < L.length ∧ ArrU w g L
theorem CL.rng {lo : Nat} {w : World} {v : Value} {L : List Int} (h : CL lo w v L) : CLr lo w.heap.size w v L := by
  rcases h with h | ⟨g, h1, h2, h3, h4⟩
  · exact .inl h
  · exact .inr ⟨g, h1, lt_of_heap h4, h2, h3, h4⟩
theorem CLr.below {S T : Nat} {w w' : World} {v : Value} {L : List Int} (h : CLr S T w v L) (hb : Below w.heap.size w w') : CLr S T w' v L := by
  rcases h with h | ⟨g, h1, h2, h3, h4, h5⟩
  · exact .inl h
  · exact .inr ⟨g, h1, h2, h3, h4, h5.below hb (lt_of_heap h5)⟩
theorem CLr.row {S T : Nat} {w : World} {v : Value} {L : List Int} (h : CLr S T w v L) (hl : L.length ≤ 2000000) : RowAt .u64 w v L := by
  rcases h with ⟨rfl, rfl⟩ | ⟨g, h1, h2, rfl, h3, h4⟩
  · exact ⟨none, 0, rfl, Nat.le_refl _, by omega, fun _ => rfl, fun a ha => by cases ha⟩
  · exact h4.row rfl (by omega)
theorem CLr.shape {S T : Nat} {w : World} {v : Value} {L : List Int} (h : CLr S T w v L) : ∃ ao, v = .slice ao L.length L.length := by
  rcases h with ⟨rfl, rfl⟩ | ⟨g, _, _, rfl, _⟩
  · exact ⟨_, rfl⟩
  · exact ⟨_, rfl⟩
def vs4 (v0 v1 v2 v3 : Value) (i : Nat) : Value := if i = 0 then v0 else if i = 1 then v1 else if i = 2 then v2 else v3
def ls4 (v0 v1 v2 v3 : List Int) (i : Nat) : List Int := if i = 0 then v0 else if i = 1 then v1 else if i = 2 then v2 else v3
def ns4 (v0 v1 v2 v3 : Nat) (i : Nat) : Nat := if i = 0 then v0 else if i = 1 then v1 else if i = 2 then v2 else v3
theorem ow_made {X : World} {vs : Nat → Value} {Ls : Nat → List Int} {S T : Nat → Nat} (h : ∀ i, i < 4 → CLr (S i) (T i) X (vs i) (Ls i)) (hd : ∀ i j, i < j → j < 4 → T i ≤ S j) (hT : ∀ i, i < 4 → T i ≤ X.heap.size) (hl : ∀ i, i < 4 → (Ls i).length ≤ 200000) :
    ∃ gs, OW X.heap.size vs (fun i => (Ls i).length) gs (fun _ => 0) (X.alloc (.cells #[vs 0, vs 1, vs 2, vs 3] 48)) ∧ ∀ k, Own4 (fun i => (Ls i).length) gs k → (∃ i, i < 4 ∧ S i ≤ k) ∧ ∃ L, ArrU X k L := by
  have each : ∀ i, ∃ g, i < 4 → 0 < (Ls i).length → S i ≤ g ∧ g < T i ∧ vs i = .slice (some ⟨g, 0, none⟩) (Ls i).length (Ls i).length ∧ ArrU X g (Ls i) := fun i => by
    by_cases hi : i < 4
    · rcases h i hi with ⟨_, e⟩ | ⟨g, a, b, c, d, e⟩
      · exact ⟨0, fun _ hp => by rw [e] at hp; simp at hp⟩
      · exact ⟨g, fun _ _ => ⟨a, b, c, e⟩⟩
    · exact ⟨0, fun q => (hi q).elim⟩
  let gs : Nat → Nat := fun i => (each i).choose
  have hg : ∀ i, i < 4 → 0 < (Ls i).length → S i ≤ gs i ∧ gs i < T i ∧ vs i = .slice (some ⟨gs i, 0, none⟩) (Ls i).length (Ls i).length ∧ ArrU X (gs i) (Ls i) := fun i => (each i).choose_spec
  have hbX : Below X.heap.size X (X.alloc (.cells #[vs 0, vs 1, vs 2, vs 3] 48)) := below_alloc (Below.refl _ _) _
  refine ⟨gs, ⟨fun i hi => ?_, fun i hi => ?_, fun i j hi hj hij h0 h1 => ?_, hl⟩, fun k hk => ?_⟩
  · refine cell_of (heap_new X _) ?_
    match i, hi with
    | 0, _ => rfl
    | 1, _ => rfl
    | 2, _ => rfl
    | 3, _ => rfl
  · by_cases h0 : 0 < (Ls i).length
    · obtain ⟨a, b, c, d⟩ := hg i hi h0
      exact .inr ⟨c, h0, by have := hT i hi; omega, _, d.below hbX (lt_of_heap d), rfl, fun t ht => absurd ht (Nat.not_lt_zero _)⟩
    · refine .inl ⟨?_, by omega⟩
      rcases h i hi with ⟨e, _⟩ | ⟨g, a, b, c, d, e⟩
      · exact e
      · omega
  · obtain ⟨a, b, _⟩ := hg i hi h0
    obtain ⟨a', b', _⟩ := hg j hj h1
    rcases Nat.lt_or_ge i j with q | q
    · have := hd i j q hj; omega
    · have := hd j i (by omega) hi; omega
  · obtain ⟨i, hi, h0, rfl⟩ := hk
    obtain ⟨a, b, c, d⟩ := hg i hi h0
    exact ⟨⟨i, hi, a⟩, _, d⟩
theorem RowAt.nil0 (w : World) : RowAt .i64 w (.slice none 0 0) [] := ⟨none, 0, rfl, Nat.le_refl _, by omega, fun _ => rfl, fun a ha => by cases ha⟩
theorem bad_one : Bnd [[0], [1]] [] := ⟨by simp, fun i => by
  match i with
  | 0 => simp [rowL]
  | 1 => simp [rowL]
  | k + 2 => simp [rowL], by simp⟩
theorem ck_two {r : Int} (h : CkA [[0], [1]] [] 0 r) : r = 0 := by
  refine h.one (.inr ⟨by simp, by simp, .inr ⟨fun i hi k hk => ?_, .inr ⟨by decide, .inr ⟨fun k hk => by simp at hk, .inr ⟨by decide, rfl⟩⟩⟩⟩⟩)
  match i, hi with
  | 0, _ => simp [rowL] at hk; subst hk; decide
  | 1, _ => simp [rowL] at hk; subst hk; decide
theorem cl_two : cl0 2 = [0, 0, 0, 1, 0, 0] := by decide
/-- Both circuits in memory: the one that came in, and its twin. -/
structure TK (w X : World) (T : Nat) (v0 v1 : Value) (G C g d : Nat) (ls : List (List Int)) (aw : List Int) (b : Int) : Prop where
  bel : Below w.heap.size w X
  a : X.heap[w.heap.size]? = some (.cells #[v0, v1, .int .i64 b] 25 (0, 0))
  t : X.heap[T]? = some (.cells #[.slice (some ⟨G, 0, none⟩) ls.length C, .slice (some ⟨g, 0, none⟩) aw.length d, .int .i64 b] 25 (0, 0))
  m : TwM X G C g d ls aw
theorem TK.below {w X Y : World} {T : Nat} {v0 v1 : Value} {G C g d : Nat} {ls : List (List Int)} {aw : List Int} {b : Int} (h : TK w X T v0 v1 G C g d ls aw b) (hb : Below X.heap.size X Y) : TK w Y T v0 v1 G C g d ls aw b :=
  ⟨below_on h.bel hb, (hb.block _ (lt_of_heap h.a)).trans h.a, (hb.block _ (lt_of_heap h.t)).trans h.t, h.m.below hb⟩
theorem TK.at {w X : World} {T : Nat} {v0 v1 : Value} {G C g d : Nat} {ls : List (List Int)} {aw : List Int} {b : Int} (h : TK w X T v0 v1 G C g d ls aw b) :
    (X.cell? ⟨T, 0, none⟩ = some (.slice (some ⟨G, 0, none⟩) ls.length C) ∧ X.cell? ⟨T, 1, none⟩ = some (.slice (some ⟨g, 0, none⟩) aw.length d) ∧ X.cell? ⟨T, 2, none⟩ = some (.int .i64 b)) ∧
    (X.cell? ⟨w.heap.size, 0, none⟩ = some v0 ∧ X.cell? ⟨w.heap.size, 1, none⟩ = some v1 ∧ X.cell? ⟨w.heap.size, 2, none⟩ = some (.int .i64 b)) :=
  ⟨⟨cell_of h.t rfl, cell_of h.t rfl, cell_of h.t rfl⟩, ⟨cell_of h.a rfl, cell_of h.a rfl, cell_of h.a rfl⟩⟩
theorem two_made (W : World) : RwsI (((W.alloc (.cells #[.int .i64 0] 3)).alloc (.cells #[.int .i64 1] 3)).alloc (.cells #[.slice (some ⟨W.heap.size, 0, none⟩) 1 1, .slice (some ⟨W.heap.size + 1, 0, none⟩) 1 1] 23)) (.slice (some ⟨W.heap.size + 1 + 1, 0, none⟩) 2 2) [[0], [1]] := by
  obtain ⟨X, hX⟩ : ∃ X, X = (W.alloc (.cells #[.int .i64 0] 3)).alloc (.cells #[.int .i64 1] 3) := ⟨_, rfl⟩
  have hs : X.heap.size = W.heap.size + 1 + 1 := by rw [hX]; simp
  have h0 : X.heap[W.heap.size]? = some (.cells #[.int .i64 0] 3 (0, 0)) := by
    rw [hX]
    exact ((below_alloc (Below.refl (W.alloc (.cells #[.int .i64 0] 3)).heap.size _) _).block _ (by simp)).trans (heap_new W _)
  have h1 : X.heap[W.heap.size + 1]? = some (.cells #[.int .i64 1] 3 (0, 0)) := by
    rw [hX]
    have := heap_new (W.alloc (.cells #[.int .i64 0] 3)) (.cells #[.int .i64 1] 3)
    simpa using this
  rw [← hX, ← hs]
  have hb : Below X.heap.size X (X.alloc (.cells #[.slice (some ⟨W.heap.size, 0, none⟩) 1 1, .slice (some ⟨W.heap.size + 1, 0, none⟩) 1 1] 23)) := below_alloc (Below.refl _ _) _
  have hn := heap_new X (.cells #[.slice (some ⟨W.heap.size, 0, none⟩) 1 1, .slice (some ⟨W.heap.size + 1, 0, none⟩) 1 1] 23)
  generalize X.alloc (.cells #[.slice (some ⟨W.heap.size, 0, none⟩) 1 1, .slice (some ⟨W.heap.size + 1, 0, none⟩) 1 1] 23) = Y at hb hn ⊢
  have g0 := (hb.block _ (lt_of_heap h0)).trans h0
  have g1 := (hb.block _ (lt_of_heap h1)).trans h1
  have one : ∀ g (x : Int), Y.heap[g]? = some (.cells #[.int .i64 x] 3 (0, 0)) → RowAt .i64 Y (.slice (some ⟨g, 0, none⟩) 1 1) [x] := fun g x hg => by
    have : Arr Y g [x] := hg
    exact this.row rfl (by omega)
  refine ⟨_, 2, rfl, by simp, by omega, fun i hi => ?_⟩
  match i, hi with
  | 0, _ => exact ⟨_, 0, _, rfl, lt_of_heap hn, cell_of hn rfl, one _ _ g0⟩
  | 1, _ => exact ⟨_, 0, _, rfl, lt_of_heap hn, cell_of hn rfl, one _ _ g1⟩
theorem node_on {W W' : World} {pr : Value} {h x : Int} {aw : List Int} (hb : Below W.heap.size W W') (q : h = 0 → ∃ B a, pr = Value.pointer (some { block := B, off := 0 }) ∧ NodeT W B a ∧ (a = true ↔ x ∈ aw)) : h = 0 → ∃ B a, pr = Value.pointer (some { block := B, off := 0 }) ∧ NodeT W' B a ∧ (a = true ↔ x ∈ aw) := fun e => by
  obtain ⟨B, a, e1, ⟨k, i, n, b, v, y1, y2, y3, e2⟩, e3⟩ := q e
  exact ⟨B, a, e1, ⟨k, i, n, b, v, y1, y2, y3, (hb.block _ (lt_of_heap e2)).trans e2⟩, e3⟩
theorem reft_on {W W' : World} {pr : Value} {h x : Int} {aw : List Int} (hb : Below W.heap.size W W') (q : h = 0 → ∃ B a, pr = Value.pointer (some { block := B, off := 0 }) ∧ RefT W B a ∧ (a = true ↔ x ∈ aw)) : h = 0 → ∃ B a, pr = Value.pointer (some { block := B, off := 0 }) ∧ RefT W' B a ∧ (a = true ↔ x ∈ aw) := fun e => by
  obtain ⟨B, a, e1, ⟨p0, p1, p2, p3, k, y1, y2, y3, e2⟩, e3⟩ := q e
  exact ⟨B, a, e1, ⟨p0, p1, p2, p3, k, y1, y2, y3, (hb.block _ (lt_of_heap e2)).trans e2⟩, e3⟩
theorem own_all (X : World) (v0 v1 v2 v3 : Value) (l0 l1 l2 l3 : List Int) (s0 t0 s1 t1 s2 t2 s3 t3 : Nat) (h0 : CLr s0 t0 X v0 l0) (h1 : CLr s1 t1 X v1 l1) (h2 : CLr s2 t2 X v2 l2) (h3 : CLr s3 t3 X v3 l3)
    (e0 : s0 ≤ t0 ∧ t0 ≤ s1 ∧ s1 ≤ t1 ∧ t1 ≤ s2 ∧ s2 ≤ t2 ∧ t2 ≤ s3 ∧ s3 ≤ t3 ∧ t3 ≤ X.heap.size) (m0 : l0.length ≤ 200000) (m1 : l1.length ≤ 200000) (m2 : l2.length ≤ 200000) (m3 : l3.length ≤ 200000) :
    Calls Tryz.prog 31 #[.slice (some ⟨X.heap.size, 0, none⟩) 4 4] (X.alloc (.cells #[v0, v1, v2, v3] 48)) fun e w' => e = .returned (.bool true) ∧ Chg (fun k => s0 ≤ k ∧ ∃ L, ArrU X k L) X w' := by
  obtain ⟨gs, how, hs⟩ := ow_made (X := X) (vs := vs4 v0 v1 v2 v3) (Ls := ls4 l0 l1 l2 l3) (S := ns4 s0 s1 s2 s3) (T := ns4 t0 t1 t2 t3)
    (fun i hi => by
      match i, hi with
      | 0, _ => exact h0
      | 1, _ => exact h1
      | 2, _ => exact h2
      | 3, _ => exact h3)
    (fun i j hij hj => by
      unfold ns4
      match j, hj with
      | 1, _ => obtain rfl : i = 0 := by omega
                simp; omega
      | 2, _ => rcases (show i = 0 ∨ i = 1 by omega) with rfl | rfl <;> simp <;> omega
      | 3, _ => rcases (show i = 0 ∨ i = 1 ∨ i = 2 by omega) with rfl | rfl | rfl <;> simp <;> omega)
    (fun i hi => by
      unfold ns4
      match i, hi with
      | 0, _ => simp; omega
      | 1, _ => simp; omega
      | 2, _ => simp; omega
      | 3, _ => simp; omega)
    (fun i hi => by
      unfold ls4
      match i, hi with
      | 0, _ => exact m0
      | 1, _ => exact m1
      | 2, _ => exact m2
      | 3, _ => exact m3)
  refine (own_any _ _ _ _ _ how).mono ?_
  rintro e w' ⟨rfl, hc⟩
  refine ⟨rfl, ((Chg.refl _ X).alloc _).trans (hc.old fun k hk hk' => ?_)⟩
  obtain ⟨⟨i, hi, hle⟩, hL⟩ := hs k hk'
  refine ⟨?_, hL⟩
  match i, hi with
  | 0, _ => exact hle
  | 1, _ => have : s1 ≤ k := hle
            omega
  | 2, _ => have : s2 ≤ k := hle
            omega
  | 3, _ => have : s3 ≤ k := hle
            omega
set_option maxRecDepth 100000 in
theorem told_eql (a : Bool) (w : World) : (binOp .eql 51 (told a) (told a)).run Tryz.prog w = .ok (.bool true) w := by cases a <;> rfl
set_option maxRecDepth 100000 in
set_option maxHeartbeats 4000000 in
theorem checks_law (v0 v1 : Value) (b x : Int) (ls : List (List Int)) (aw : List Int) (w : World) (hr : RwsI w v0 ls) (ha : RowAt .i64 w v1 aw) (hN : Bnd ls aw) :
    Calls Tryz.prog 7 #[.agg #[v0, v1, .int .i64 b], .int .i64 x] w fun e w' => e = .returned (.bool true) ∧ Below w.heap.size w w' := by
  obtain ⟨so, sc, rfl, hsc⟩ := hr.shape
  obtain ⟨bo, bc, rfl⟩ := ha.shape
  have HC4 := hide (fun W (hb : Below w.heap.size w W) => refCheck_any _ _ b ls aw W (hr.below hb) (ha.below hb) hN)
  have HC5 := hide (fun W (hb : Below w.heap.size w W) => refCells_any _ _ b ls aw W (hr.below hb) (ha.below hb) hN)
  have HC6 := hide (fun W (hb : Below w.heap.size w W) => open_any _ _ b x ls aw W (hr.below hb) (ha.below hb) hN)
  have HC7 := hide (fun W (hb : Below w.heap.size w W) => twin_any _ _ ls aw b W (hr.below hb) (ha.below hb) hN)
  have HC8 := hide (fun W G C g d (ht : TwM W G C g d ls aw) => check_any _ _ b ls aw W ht.f.inc ht.a.row hN)
  have HC9 := hide (fun W G C g d (ht : TwM W G C g d ls aw) => cells_any _ _ b ls aw W ht.f.inc ht.a.row hN)
  have HC10 := hide (fun W G C g d (ht : TwM W G C g d ls aw) => nodeNew_any _ _ b x ls aw W ht.f.inc ht.a.row hN)
  have HC12 := hide (fun W G C g d (hb : Below w.heap.size w W) (ht : TwM W G C g d ls aw) => twinKept_any G C g d _ _ ls aw b W ht (hr.below hb) (ha.below hb) hN)
  obtain ⟨n, hn⟩ : ∃ n, n = ls.length := ⟨_, rfl⟩
  obtain ⟨m, hm⟩ : ∃ m, m = aw.length := ⟨_, rfl⟩
  have HNN := hide hn; have HMM := hide hm
  have HLS := hide hN
  obtain ⟨X, hX⟩ : ∃ X, X = w.alloc (.cells #[.slice so ls.length sc, .slice bo aw.length bc, .int .i64 b] 25) := ⟨_, rfl⟩
  have HB := hide (show Below w.heap.size w X by rw [hX]; exact below_alloc (Below.refl _ _) _)
  have HA := hide (show X.heap[w.heap.size]? = some (.cells #[.slice so ls.length sc, .slice bo aw.length bc, .int .i64 b] 25 (0, 0)) by rw [hX]; exact heap_new _ _)
  have a0 := cell_of HA.out (i := 0) rfl; have a1 := cell_of HA.out (i := 1) rfl; have a2 := cell_of HA.out (i := 2) rfl
  clear hr ha hN hn hm
  rw [hX] at a0 a1 a2
  go_enter Tryz.func7, Tryz.ntmps7
  go_wp2_with fail
  rw [← hX]
  clear hX a0 a1 a2
  refine (HC4.out X HB.out).mono ?_
  rintro e w4 ⟨hb4, r, rfl, hr4⟩
  have HR := hide hr4
  replace HA := hide ((hb4.block _ (lt_of_heap HA.out)).trans HA.out)
  replace HB := hide (below_on HB.out hb4)
  have a0 := cell_of HA.out (i := 0) rfl; have a1 := cell_of HA.out (i := 1) rfl; have a2 := cell_of HA.out (i := 2) rfl
  clear hb4 hr4 HC4
  go_wp2_with fail
  clear a0 a1 a2
  refine (HC5.out w4 HB.out).mono ?_
  rintro e w5 ⟨hb5, vr, L, r', rfl, hcl, hla⟩
  obtain rfl := hla.1.one HR.out
  have HL := hide hla
  have HV := hide hcl.rng
  obtain ⟨ar, rfl⟩ := HV.out.shape
  replace HA := hide ((hb5.block _ (lt_of_heap HA.out)).trans HA.out)
  replace HB := hide (below_on HB.out hb5)
  have a0 := cell_of HA.out (i := 0) rfl; have a1 := cell_of HA.out (i := 1) rfl; have a2 := cell_of HA.out (i := 2) rfl
  clear hb5 hcl hla HC5
  go_wp2_with fail
  clear a0 a1 a2
  refine (HC6.out w5 HB.out).mono ?_
  rintro e w6 ⟨hb6, pr, h, rfl, hop, hrt⟩
  have HO := hide hop; have HRT := hide hrt
  replace HA := hide ((hb6.block _ (lt_of_heap HA.out)).trans HA.out)
  replace HB := hide (below_on HB.out hb6)
  replace HV := hide (HV.out.below hb6)
  have a0 := cell_of HA.out (i := 0) rfl; have a1 := cell_of HA.out (i := 1) rfl; have a2 := cell_of HA.out (i := 2) rfl
  clear hb6 hop hrt HC6
  go_wp2_with fail
  clear a0 a1 a2
  refine (HC7.out w6 HB.out).mono ?_
  rintro e wt ⟨G, C, g, d, rfl, htw, hbt⟩
  obtain ⟨w7, hw7⟩ : ∃ w7, w7 = wt.alloc (.cells #[.slice (some ⟨G, 0, none⟩) ls.length C, .slice (some ⟨g, 0, none⟩) aw.length d, .int .i64 b] 25) := ⟨_, rfl⟩
  have hb7 : Below wt.heap.size wt w7 := by rw [hw7]; exact below_alloc (Below.refl _ _) _
  have hb67 := below_on hbt hb7
  have HK := hide (show TK w w7 wt.heap.size (.slice so ls.length sc) (.slice bo aw.length bc) G C g d ls aw b from ⟨below_on HB.out hb67, (hb67.block _ (lt_of_heap HA.out)).trans HA.out, by rw [hw7]; exact heap_new _ _, htw.below hb7⟩)
  replace HV := hide (HV.out.below hb67)
  have HRT7 : Hid (h = 0 → ∃ B a, pr = Value.pointer (some { block := B, off := 0 }) ∧ RefT w7 B a ∧ (a = true ↔ x ∈ aw)) := fun q => by
    obtain ⟨B, a, e1, ⟨p0, p1, p2, p3, k, y1, y2, y3, e2⟩, e3⟩ := HRT.out q
    exact ⟨B, a, e1, ⟨p0, p1, p2, p3, k, y1, y2, y3, (hb67.block _ (lt_of_heap e2)).trans e2⟩, e3⟩
  obtain ⟨⟨t0, t1, t2⟩, _⟩ := HK.out.at
  rw [hw7] at t0 t1 t2
  clear htw hbt hb7 hb67 HA HB HRT HC7
  go_wp2_with fail
  rw [← hw7]
  clear hw7 t0 t1 t2
  refine (HC8.out w7 _ _ _ _ HK.out.m).mono ?_
  rintro e w8 ⟨hb8, r8, rfl, hr8⟩
  obtain rfl := hr8.one HR.out
  replace HK := hide (HK.out.below hb8)
  have HKs : Hid (w.heap.size ≤ w8.heap.size) := hide HK.out.bel.size
  replace HV := hide (HV.out.below hb8)
  replace HRT7 : Hid (h = 0 → ∃ B a, pr = Value.pointer (some { block := B, off := 0 }) ∧ RefT w8 B a ∧ (a = true ↔ x ∈ aw)) := hide (reft_on hb8 HRT7.out)
  obtain ⟨⟨t0, t1, t2⟩, _⟩ := HK.out.at
  clear hb8 hr8 HC8
  go_wp2_with fail
  clear t0 t1 t2
  refine (HC9.out w8 _ _ _ _ HK.out.m).mono ?_
  rintro e w9 ⟨hbn, u1, L1, r1, rfl, hcl, hla⟩
  obtain ⟨rfl, rfl⟩ := hla.one HL.out
  have HV1 := hide hcl.rng
  obtain ⟨a1, rfl⟩ := HV1.out.shape
  have HSz1 := hide hbn.size
  replace HK := hide (HK.out.below hbn)
  replace HV := hide (HV.out.below hbn)
  replace HRT7 : Hid (h = 0 → ∃ B a, pr = Value.pointer (some { block := B, off := 0 }) ∧ RefT w9 B a ∧ (a = true ↔ x ∈ aw)) := hide (reft_on hbn HRT7.out)
  obtain ⟨⟨t0, t1, t2⟩, _⟩ := HK.out.at
  clear hbn hcl hla
  go_wp2_with fail
  clear t0 t1 t2
  refine (HC9.out w9 _ _ _ _ HK.out.m).mono ?_
  rintro e wa ⟨hbn, u2, L2, r2, rfl, hcl, hla⟩
  obtain ⟨rfl, rfl⟩ := hla.one HL.out
  have HV2 := hide hcl.rng
  obtain ⟨a2, rfl⟩ := HV2.out.shape
  have HSz2 := hide hbn.size
  replace HK := hide (HK.out.below hbn)
  replace HV := hide (HV.out.below hbn)
  replace HV1 := hide (HV1.out.below hbn)
  replace HRT7 : Hid (h = 0 → ∃ B a, pr = Value.pointer (some { block := B, off := 0 }) ∧ RefT wa B a ∧ (a = true ↔ x ∈ aw)) := hide (reft_on hbn HRT7.out)
  clear hbn hcl hla
  go_wp2_with fail
  refine (cells_any _ _ 0 [[0], [1]] [] _ (two_made wa) (RowAt.nil0 _) bad_one).mono ?_
  rintro e wb ⟨hb', u3, L3, r3, rfl, hcl, hla⟩
  obtain rfl := ck_two hla.1
  obtain rfl : L3 = [0, 0, 0, 1, 0, 0] := by
    rcases hla.2 with ⟨q, _⟩ | ⟨_, q⟩
    · exact (q rfl).elim
    · rw [q]; exact cl_two
  have hbn : Below wa.heap.size wa wb := below_on (below_alloc (below_alloc (below_alloc (Below.refl _ _) _) _) _) hb'
  have HV3 : Hid (CLr wa.heap.size wb.heap.size wb u3 [0, 0, 0, 1, 0, 0]) := hide (by
    rcases hcl.rng with q | ⟨g, q1, q2, q3⟩
    · exact .inl q
    · exact .inr ⟨g, by simp at q1; omega, q2, q3⟩)
  obtain ⟨a3, rfl⟩ := HV3.out.shape
  have HSz3 := hide hbn.size
  replace HK := hide (HK.out.below hbn)
  replace HV := hide (HV.out.below hbn)
  replace HV1 := hide (HV1.out.below hbn)
  replace HV2 := hide (HV2.out.below hbn)
  replace HRT7 : Hid (h = 0 → ∃ B a, pr = Value.pointer (some { block := B, off := 0 }) ∧ RefT wb B a ∧ (a = true ↔ x ∈ aw)) := hide (reft_on hbn HRT7.out)
  obtain ⟨⟨t0, t1, t2⟩, _⟩ := HK.out.at
  clear hbn hcl hla hb'
  simp only [List.length_cons, List.length_nil] at *
  go_wp2_with fail
  clear t0 t1 t2
  refine (HC9.out wb _ _ _ _ HK.out.m).mono ?_
  rintro e wc ⟨hbn, u4, L4, r4, rfl, hcl, hla⟩
  obtain ⟨rfl, rfl⟩ := hla.one HL.out
  have HV4 := hide hcl.rng
  obtain ⟨a4, rfl⟩ := HV4.out.shape
  have HSz4 := hide hbn.size
  have HZ := hide (Nat.le_refl wc.heap.size)
  replace HK := hide (HK.out.below hbn)
  replace HV := hide (HV.out.below hbn)
  replace HV1 := hide (HV1.out.below hbn)
  replace HV2 := hide (HV2.out.below hbn)
  replace HV3 := hide (HV3.out.below hbn)
  replace HRT7 : Hid (h = 0 → ∃ B a, pr = Value.pointer (some { block := B, off := 0 }) ∧ RefT wc B a ∧ (a = true ↔ x ∈ aw)) := hide (reft_on hbn HRT7.out)
  obtain ⟨⟨t0, t1, t2⟩, _⟩ := HK.out.at
  clear hbn hcl hla
  go_wp2_with fail
  clear t0 t1 t2
  refine (HC10.out wc _ _ _ _ HK.out.m).mono ?_
  rintro e wd ⟨hbn, pp, h', rfl, hop, hp1, hp2⟩
  obtain rfl := hop.one HO.out
  have HP1 := hide hp1; have HP2 := hide hp2
  replace HK := hide (HK.out.below hbn)
  replace HZ := hide (Nat.le_trans HZ.out hbn.size)
  replace HV := hide (HV.out.below hbn)
  replace HV1 := hide (HV1.out.below hbn)
  replace HV2 := hide (HV2.out.below hbn)
  replace HV3 := hide (HV3.out.below hbn)
  replace HV4 := hide (HV4.out.below hbn)
  replace HRT7 : Hid (h' = 0 → ∃ B a, pr = Value.pointer (some { block := B, off := 0 }) ∧ RefT wd B a ∧ (a = true ↔ x ∈ aw)) := hide (reft_on hbn HRT7.out)
  clear hbn hop hp1 hp2 HC9 HC10
  have hLl : Hid (L4.length ≤ 2000000) := hide (by have := HL.out.len; omega)
  go_wp2_with fail
  refine (sameWords_any _ _ L4 wd (HV1.out.row hLl.out) (HV.out.row hLl.out)).mono ?_
  rintro e we1 ⟨rfl, hbn⟩
  replace HK := hide (HK.out.below hbn)
  replace HZ := hide (Nat.le_trans HZ.out hbn.size)
  replace HV := hide (HV.out.below hbn)
  replace HV1 := hide (HV1.out.below hbn)
  replace HV2 := hide (HV2.out.below hbn)
  replace HV3 := hide (HV3.out.below hbn)
  replace HV4 := hide (HV4.out.below hbn)
  replace HRT7 : Hid (h' = 0 → ∃ B a, pr = Value.pointer (some { block := B, off := 0 }) ∧ RefT we1 B a ∧ (a = true ↔ x ∈ aw)) := hide (reft_on hbn HRT7.out)
  replace HP2 : Hid (h' = 0 → ∃ B a, pp = .pointer (some ⟨B, 0, none⟩) ∧ NodeT we1 B a ∧ (a = true ↔ x ∈ aw)) := hide (node_on hbn HP2.out)
  clear hbn
  go_wp2_with fail
  refine (sameWords_any _ _ L4 we1 (HV2.out.row hLl.out) (HV.out.row hLl.out)).mono ?_
  rintro e we2 ⟨rfl, hbn⟩
  replace HK := hide (HK.out.below hbn)
  replace HZ := hide (Nat.le_trans HZ.out hbn.size)
  replace HV := hide (HV.out.below hbn)
  replace HV1 := hide (HV1.out.below hbn)
  replace HV2 := hide (HV2.out.below hbn)
  replace HV3 := hide (HV3.out.below hbn)
  replace HV4 := hide (HV4.out.below hbn)
  replace HRT7 : Hid (h' = 0 → ∃ B a, pr = Value.pointer (some { block := B, off := 0 }) ∧ RefT we2 B a ∧ (a = true ↔ x ∈ aw)) := hide (reft_on hbn HRT7.out)
  replace HP2 : Hid (h' = 0 → ∃ B a, pp = .pointer (some ⟨B, 0, none⟩) ∧ NodeT we2 B a ∧ (a = true ↔ x ∈ aw)) := hide (node_on hbn HP2.out)
  clear hbn
  go_wp2_with fail
  refine (sameWords_any _ _ L4 we2 (HV4.out.row hLl.out) (HV.out.row hLl.out)).mono ?_
  rintro e we4 ⟨rfl, hbn⟩
  replace HK := hide (HK.out.below hbn)
  replace HZ := hide (Nat.le_trans HZ.out hbn.size)
  replace HV := hide (HV.out.below hbn)
  replace HV1 := hide (HV1.out.below hbn)
  replace HV2 := hide (HV2.out.below hbn)
  replace HV3 := hide (HV3.out.below hbn)
  replace HV4 := hide (HV4.out.below hbn)
  replace HRT7 : Hid (h' = 0 → ∃ B a, pr = Value.pointer (some { block := B, off := 0 }) ∧ RefT we4 B a ∧ (a = true ↔ x ∈ aw)) := hide (reft_on hbn HRT7.out)
  replace HP2 : Hid (h' = 0 → ∃ B a, pp = .pointer (some ⟨B, 0, none⟩) ∧ NodeT we4 B a ∧ (a = true ↔ x ∈ aw)) := hide (node_on hbn HP2.out)
  clear hbn
  go_wp2_with fail
  obtain ⟨wf, hwf⟩ : ∃ wf, wf = we4.alloc (.cells #[.int .u64 0, .int .u64 0, .int .u64 0, .int .u64 1, .int .u64 0, .int .u64 0] 36) := ⟨_, rfl⟩
  have hbf : Below we4.heap.size we4 wf := by rw [hwf]; exact below_alloc (Below.refl _ _) _
  have hrf : RowAt .u64 wf (.slice (some ⟨we4.heap.size, 0, none⟩) 6 6) [0, 0, 0, 1, 0, 0] := by
    have : ArrU wf we4.heap.size [0, 0, 0, 1, 0, 0] := by rw [hwf]; exact heap_new _ _
    exact this.row rfl (by omega)
  rw [← hwf]
  clear hwf HV
  refine (sameWords_any _ _ [0, 0, 0, 1, 0, 0] wf ((HV3.out.below hbf).row (by simp)) hrf).mono ?_
  rintro e wg ⟨rfl, hbg⟩
  have hbn := below_on hbf hbg
  replace HK := hide (HK.out.below hbn)
  replace HZ := hide (Nat.le_trans HZ.out hbn.size)
  replace HV1 := hide (HV1.out.below hbn)
  replace HV2 := hide (HV2.out.below hbn)
  replace HV3 := hide (HV3.out.below hbn)
  replace HV4 := hide (HV4.out.below hbn)
  replace HRT7 : Hid (h' = 0 → ∃ B a, pr = Value.pointer (some { block := B, off := 0 }) ∧ RefT wg B a ∧ (a = true ↔ x ∈ aw)) := hide (reft_on hbn HRT7.out)
  replace HP2 : Hid (h' = 0 → ∃ B a, pp = .pointer (some ⟨B, 0, none⟩) ∧ NodeT wg B a ∧ (a = true ↔ x ∈ aw)) := hide (node_on hbn HP2.out)
  obtain ⟨⟨t0, t1, t2⟩, ⟨a0, a1', a2'⟩⟩ := HK.out.at
  clear hbf hrf hbg hbn
  go_wp2_with fail
  clear t0 t1 t2 a0 a1' a2'
  refine (HC12.out wg _ _ _ _ HK.out.bel HK.out.m).mono ?_
  rintro e wh ⟨rfl, hbn⟩
  replace HK := hide (HK.out.below hbn)
  replace HZ := hide (Nat.le_trans HZ.out hbn.size)
  replace HV1 := hide (HV1.out.below hbn)
  replace HV2 := hide (HV2.out.below hbn)
  replace HV3 := hide (HV3.out.below hbn)
  replace HV4 := hide (HV4.out.below hbn)
  replace HRT7 : Hid (h' = 0 → ∃ B a, pr = Value.pointer (some { block := B, off := 0 }) ∧ RefT wh B a ∧ (a = true ↔ x ∈ aw)) := hide (reft_on hbn HRT7.out)
  replace HP2 : Hid (h' = 0 → ∃ B a, pp = .pointer (some ⟨B, 0, none⟩) ∧ NodeT wh B a ∧ (a = true ↔ x ∈ aw)) := hide (node_on hbn HP2.out)
  clear hbn
  have HL2 : Hid (L4.length ≤ 200000) := hide (by have := HL.out.len; omega)
  have HOWN := hide (own_all wh _ _ _ _ L4 L4 [0, 0, 0, 1, 0, 0] L4 _ _ _ _ _ _ _ _ HV1.out HV2.out HV3.out HV4.out ⟨HSz1.out, Nat.le_refl _, HSz2.out, Nat.le_refl _, HSz3.out, Nat.le_refl _, HSz4.out, HZ.out⟩ HL2.out HL2.out (by simp) HL2.out)
  have HBL : Hid (∀ w', Chg (fun k => w8.heap.size ≤ k ∧ ∃ L, ArrU wh k L) wh w' → Below w.heap.size w w') := hide (fun w' hc => Chg.below HK.out.bel hc (fun i hi => Nat.le_trans HKs.out hi.1) HK.out.bel.size)
  clear HV1 HV2 HV3 HV4 HSz1 HSz2 HSz3 HSz4 HL2 hLl HC12 HK HKs HZ
  by_cases hh : h' = 0
  · obtain ⟨B, a, rfl, ⟨p0, p1, p2, p3, k, y1, y2, y3, hrt⟩, hia⟩ := HRT7.out hh
    obtain ⟨B', a', rfl, ⟨k', i', n', b', v', z1, z2, z3, hnt⟩, hia'⟩ := HP2.out hh
    obtain rfl : a = a' := by cases a <;> cases a' <;> simp_all
    subst hh
    have HT : Hid (∀ w', Chg (fun k => w8.heap.size ≤ k ∧ ∃ L, ArrU wh k L) wh w' → RefT' w' B a ∧ NodeT w' B' a) := hide (fun w' hc => ⟨⟨p0, p1, p2, p3, k, y1, y2, y3, hc.heap hrt (fun q => by
      obtain ⟨_, L, hL⟩ := q
      unfold ArrU at hL
      rw [hrt] at hL; exact absurd (Obj.cells.inj (Option.some.inj hL)).2.1 (by decide))⟩, ⟨k', i', n', b', v', z1, z2, z3, hc.heap hnt (fun q => by
      obtain ⟨_, L, hL⟩ := q
      unfold ArrU at hL
      rw [hnt] at hL; exact absurd (Obj.cells.inj (Option.some.inj hL)).2.1 (by decide))⟩⟩)
    have hpn : ∀ w, (binOp .eql 52 (.pointer (some ⟨B', 0, none⟩)) (.pointer none)).run Tryz.prog w = .ok (.bool false) w := fun w => rfl
    have hte : ∀ w, (binOp .eql 51 (.agg #[.int .i64 0, .bool a, .bool false, .int .i64 0, .bool false]) (.agg #[.int .i64 0, .bool a, .bool false, .int .i64 0, .bool false])).run Tryz.prog w = .ok (.bool true) w := told_eql a
    clear hrt hnt hia hia' HRT7 HP2 HP1 HO
    go_wp2_with fail
    refine HOWN.out.mono ?_
    rintro e wi ⟨rfl, hc⟩
    have HE := hide (HBL.out _ hc)
    have HTR := hide (HT.out _ hc).1; have HTN := hide (HT.out _ hc).2
    clear hc HOWN HBL HT
    go_wp2_with fail
    refine (tell_any B' a wi HTN.out).mono ?_
    rintro e wj ⟨rfl, hbn⟩
    have HE2 := hide (below_on HE.out hbn)
    have HTR2 : Hid (RefT' wj B a) := hide (by obtain ⟨p0, p1, p2, p3, k, y1, y2, y3, q⟩ := HTR.out; exact ⟨p0, p1, p2, p3, k, y1, y2, y3, (hbn.block _ (lt_of_heap q)).trans q⟩)
    have HTN2 : Hid (NodeT wj B' a) := hide (by obtain ⟨k, i, n, b, v, z1, z2, z3, q⟩ := HTN.out; exact ⟨k, i, n, b, v, z1, z2, z3, (hbn.block _ (lt_of_heap q)).trans q⟩)
    clear hbn HE HTR HTN
    go_wp2_with fail
    refine (refTell_any B a wj HTR2.out).mono ?_
    rintro e wk ⟨rfl, hbn⟩
    have HE3 := hide (below_on HE2.out hbn)
    have HTN3 : Hid (NodeT wk B' a) := hide (by obtain ⟨k, i, n, b, v, z1, z2, z3, q⟩ := HTN2.out; exact ⟨k, i, n, b, v, z1, z2, z3, (hbn.block _ (lt_of_heap q)).trans q⟩)
    clear hbn HE2 HTR2 HTN2
    unfold told
    go_wp2_with fail
    refine (over_any B' a wk HTN3.out).mono ?_
    rintro e wl ⟨rfl, hbn⟩
    have HE4 := hide (below_on HE3.out hbn)
    clear hbn
    go_wp2_with fail
    go_ret
    exact ⟨rfl, HE4.out⟩
  · obtain rfl := HP1.out hh
    have hh2 : (h' != 0) = true := by simp [hh]
    have hh3 : (h' == 0) = false := by simp [hh]
    have hpn : ∀ w, (binOp .eql 52 (.pointer none) (.pointer none)).run Tryz.prog w = .ok (.bool true) w := fun w => rfl
    clear HRT7 HP2 HP1 HO
    go_wp2_with fail
    refine HOWN.out.mono ?_
    rintro e wi ⟨rfl, hc⟩
    have HE := hide (HBL.out _ hc)
    clear hc HOWN HBL
    go_wp2_with fail
    go_ret
    exact ⟨rfl, HE.out⟩
end Go.Proofs.YtdjkidgkeekenaaGreat
