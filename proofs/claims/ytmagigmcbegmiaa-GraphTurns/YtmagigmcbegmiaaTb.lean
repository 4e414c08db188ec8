import Derived.Test.YtmagigmcbegmiaaEg
import Derived.Test.YtmagigmcbegmiaaKept
import Derived.Test.YtmagigmcbegmiaaBjM
import Derived.BigQuiet
import Derived.Test.YtmagigmcbegmiaaGEd
import Derived.Test.YtmagigmcbegmiaaTy
/- The document's sorted: edges by From, To, Weight. -/
namespace Go.Proofs.Ytmagigmcbegmiaa
open Go.RowKit Go.Lib
set_option linter.unusedVariables false
set_option linter.unusedSimpArgs false
/-- By From, then by To, then by Weight. -/
def e3lt (a b : Ed3) : Bool := decide (a.1 < b.1 ∨ (a.1 = b.1 ∧ (a.2.1 < b.2.1 ∨ (a.2.1 = b.2.1 ∧ a.2.2 < b.2.2))))
def e3le (a b : Ed3) : Bool := !e3lt b a
def e3s (l : List Ed3) : List Ed3 := l.mergeSort e3le
theorem e3le_iff (a b : Ed3) : e3le a b = true ↔ (a.1 < b.1 ∨ (a.1 = b.1 ∧ (a.2.1 < b.2.1 ∨ (a.2.1 = b.2.1 ∧ a.2.2 ≤ b.2.2)))) := by
  simp only [e3le, e3lt, Bool.not_eq_true', decide_eq_false_iff_not]; omega
theorem e3lt_iff (a b : Ed3) : e3lt a b = true ↔ (a.1 < b.1 ∨ (a.1 = b.1 ∧ (a.2.1 < b.2.1 ∨ (a.2.1 = b.2.1 ∧ a.2.2 < b.2.2)))) := by simp [e3lt]
theorem e3lt_niff (a b : Ed3) : e3lt a b = false ↔ ¬ (a.1 < b.1 ∨ (a.1 = b.1 ∧ (a.2.1 < b.2.1 ∨ (a.2.1 = b.2.1 ∧ a.2.2 < b.2.2)))) := by simp [e3lt]
theorem e3le_trans (a b c : Ed3) (h1 : e3le a b = true) (h2 : e3le b c = true) : e3le a c = true := by rw [e3le_iff] at *; omega
theorem e3le_total (a b : Ed3) : (e3le a b || e3le b a) = true := by rw [Bool.or_eq_true, e3le_iff, e3le_iff]; omega
theorem e3s_perm (l : List Ed3) : (e3s l).Perm l := List.mergeSort_perm _ _
theorem e3s_length (l : List Ed3) : (e3s l).length = l.length := (e3s_perm l).length_eq
theorem e3s_pair (l : List Ed3) : (e3s l).Pairwise (fun a b => e3le a b = true) := List.pairwise_mergeSort e3le_trans e3le_total l
theorem e3s_unique {l m : List Ed3} (hp : m.Perm l) (hs : m.Pairwise (fun a b => e3le a b = true)) : m = e3s l := by
  refine List.Perm.eq_of_pairwise (le := fun a b => e3le a b = true) ?_ hs (e3s_pair l) (hp.trans (e3s_perm l).symm)
  intro a b _ _ h1 h2
  rw [e3le_iff] at h1 h2
  exact Prod.ext (by omega) (Prod.ext (by omega) (by omega))
theorem e3s_congr {l m : List Ed3} (hp : m.Perm l) : e3s m = e3s l := e3s_unique ((e3s_perm m).trans hp) (e3s_pair m)
/-- Two halves, sorted and merged. -/
theorem e3s_halves (l : List Ed3) (k : Nat) : (e3s (l.take k)).merge (e3s (l.drop k)) e3le = e3s l := by
  refine e3s_unique ?_ (List.pairwise_merge e3le_trans e3le_total _ _ (e3s_pair _) (e3s_pair _))
  refine (List.merge_perm_append e3le).trans (((e3s_perm _).append (e3s_perm _)).trans ?_)
  rw [List.take_append_drop]
theorem e3s_small {l : List Ed3} (h : l.length < 2) : e3s l = l := by
  match l, h with
  | [], _ => simp [e3s]
  | [a], _ => simp [e3s]
theorem e3s_e3s (l : List Ed3) : e3s (e3s l) = e3s l := e3s_congr (e3s_perm l)
/-- One step of the merging. -/
theorem merge_left {a b : List Ed3} {i j : Nat} (hi : i < a.length) (h : b.length ≤ j ∨ e3lt (eAt b j) (eAt a i) = false) :
    (a.drop i).merge (b.drop j) e3le = eAt a i :: (a.drop (i + 1)).merge (b.drop j) e3le := by
  have e1 : a.drop i = eAt a i :: a.drop (i + 1) := by rw [List.drop_eq_getElem_cons hi]; simp [eAt, List.getElem?_eq_getElem hi]
  rw [e1]
  rcases Nat.lt_or_ge j b.length with hj | hj
  · have e2 : b.drop j = eAt b j :: b.drop (j + 1) := by rw [List.drop_eq_getElem_cons hj]; simp [eAt, List.getElem?_eq_getElem hj]
    rw [e2, List.merge, if_pos]
    rcases h with h | h
    · omega
    · simp [e3le, h]
  · rw [List.drop_of_length_le hj]; simp
theorem merge_right {a b : List Ed3} {i j : Nat} (hj : j < b.length) (h : a.length ≤ i ∨ e3lt (eAt b j) (eAt a i) = true) :
    (a.drop i).merge (b.drop j) e3le = eAt b j :: (a.drop i).merge (b.drop (j + 1)) e3le := by
  have e2 : b.drop j = eAt b j :: b.drop (j + 1) := by rw [List.drop_eq_getElem_cons hj]; simp [eAt, List.getElem?_eq_getElem hj]
  rw [e2]
  rcases Nat.lt_or_ge i a.length with hi | hi
  · have e1 : a.drop i = eAt a i :: a.drop (i + 1) := by rw [List.drop_eq_getElem_cons hi]; simp [eAt, List.getElem?_eq_getElem hi]
    rw [e1, List.merge, if_neg]
    rcases h with h | h
    · omega
    · simp [e3le, h]
  · rw [List.drop_of_length_le hi]; simp
theorem merge_done {a b : List Ed3} {i j : Nat} (hi : a.length ≤ i) (hj : b.length ≤ j) : (a.drop i).merge (b.drop j) e3le = [] := by
  rw [List.drop_of_length_le hi, List.drop_of_length_le hj]; simp
set_option maxRecDepth 100000 in
set_option maxHeartbeats 1000000 in
theorem ahead_any (x y : Ed3) (W : World) : Calls Try.prog 110 #[.agg #[.int .i64 x.1, .int .i64 x.2.1, .int .u64 x.2.2], .agg #[.int .i64 y.1, .int .i64 y.2.1, .int .u64 y.2.2]] W fun e w' => e = .returned (.bool (e3lt x y)) ∧ Below W.heap.size W w' := by
  obtain ⟨x0, x1, x2⟩ := x
  obtain ⟨y0, y1, y2⟩ := y
  simp only
  obtain ⟨W2, hW2⟩ : ∃ W2, W2 = (W.alloc (.cells #[.int .i64 x0, .int .i64 x1, .int .u64 x2] 50)).alloc (.cells #[.int .i64 y0, .int .i64 y1, .int .u64 y2] 50) := ⟨_, rfl⟩
  have hA2 : W2.heap[W.heap.size]? = some (.cells #[.int .i64 x0, .int .i64 x1, .int .u64 x2] 50 (0, 0)) := by rw [hW2]; exact (Below.heap_alloc _ _ _ (by simp)).trans (heap_new W _)
  have hB2 : W2.heap[W.heap.size + 1]? = some (.cells #[.int .i64 y0, .int .i64 y1, .int .u64 y2] 50 (0, 0)) := by
    have := heap_new (W.alloc (.cells #[.int .i64 x0, .int .i64 x1, .int .u64 x2] 50)) (.cells #[.int .i64 y0, .int .i64 y1, .int .u64 y2] 50)
    rw [hW2]; simpa using this
  have HBel : Hid (Below W.heap.size W W2) := by rw [hW2]; exact below_alloc (below_alloc (Below.refl _ _) _) _
  have c0 := cell_of (i := 0) hA2 rfl; have c1 := cell_of (i := 1) hA2 rfl; have c2 := cell_of (i := 2) hA2 rfl
  have d0 := cell_of (i := 0) hB2 rfl; have d1 := cell_of (i := 1) hB2 rfl; have d2 := cell_of (i := 2) hB2 rfl
  clear hA2 hB2
  rw [hW2] at c0 c1 c2 d0 d1 d2
  by_cases h1 : x0 = y0
  · by_cases h2 : x1 = y1
    · have ht : e3lt (x0, x1, x2) (y0, y1, y2) = decide (x2 < y2) := by unfold e3lt; simp [h1, h2]
      rw [ht]
      subst h1 h2
      clear ht
      go_enter Try.func110, Try.ntmps110
      go_wp2
      rw [← hW2]
      go_ret
      exact ⟨rfl, HBel.out⟩
    · have ht : e3lt (x0, x1, x2) (y0, y1, y2) = decide (x1 < y1) := by unfold e3lt; simp [h1, h2]
      rw [ht]
      subst h1
      clear ht
      go_enter Try.func110, Try.ntmps110
      go_wp2
      rw [← hW2]
      go_ret
      exact ⟨rfl, HBel.out⟩
  · have ht : e3lt (x0, x1, x2) (y0, y1, y2) = decide (x0 < y0) := by unfold e3lt; simp [h1]
    rw [ht]
    clear ht
    go_enter Try.func110, Try.ntmps110
    go_wp2
    rw [← hW2]
    go_ret
    exact ⟨rfl, HBel.out⟩
theorem lt_of_cellS {w : World} {b i : Nat} {v : Value} (h : w.cell? ⟨b, i, none⟩ = some v) : b < w.heap.size := World.block_lt_of_cell? w _ h
theorem gw_cellS {w : World} {b i : Nat} {v : Value} (h : w.cell? ⟨b, i, none⟩ = some v) (x : GW w) : x.world.cell? ⟨b, i, none⟩ = some v := (below_cell x.bel (lt_of_cellS h)).trans h
/-- Edges in a row of one's own. -/
def EOwn (w : World) (base : Nat) (v : Value) (l : List Ed3) : Prop := w.ownsRow base 50 3 v l.length (eCells l)
theorem EOwn.below {w w' : World} {base : Nat} {v : Value} {l : List Ed3} (h : EOwn w base v l) (hb : Below w.heap.size w w') : EOwn w' base v l := ownA_stay h (fun g hg => hb.block g (World.ownsRow.lt h g hg).2)
theorem ownE_new2 (X : World) (B : Nat) (hB : B = X.heap.size) : (X.alloc (.cells #[] 50)).ownsRow X.heap.size 50 3 (.slice (some ⟨B, 0, none⟩) 0 0) 0 [] := by
  subst hB; exact World.ownsRow_made X #[] 0 (Nat.le_refl _) (by unfold maxLen; omega) rfl
theorem EAt.shp {w : World} {v : Value} {l : List Ed3} (h : EAt w v l) : ∃ ao c, v = .slice ao l.length c ∧ l.length ≤ c ∧ c ≤ 9223372036854775807 := by
  obtain ⟨ao, c, h1, h2, h3, _⟩ := h
  exact ⟨ao, c, h1, h2, h3⟩
theorem EAt.cl {w : World} {ao : Option Addr} {n c : Nat} {l : List Ed3} (h : EAt w (.slice ao n c) l) {i : Nat} (hi : i < l.length) : ∃ g o, ao = some ⟨g, o, none⟩ ∧ w.cell? ⟨g, o + i * 3, none⟩ = some (.int .i64 (eAt l i).1) ∧ w.cell? ⟨g, o + i * 3 + 1, none⟩ = some (.int .i64 (eAt l i).2.1) ∧ w.cell? ⟨g, o + i * 3 + 2, none⟩ = some (.int .u64 (eAt l i).2.2) := by
  obtain ⟨ao', c', he, _, _, h3⟩ := h
  simp only [Value.slice.injEq] at he
  obtain ⟨rfl, _, _⟩ := he
  exact h3 i hi
theorem EAt.takeK {w : World} {ao : Option Addr} {n c : Nat} {l : List Ed3} (h : EAt w (.slice ao n c) l) (k : Nat) (hk : k ≤ l.length) : EAt w (.slice ao k c) (l.take k) := by
  have hl : (l.take k).length = k := by simp; omega
  obtain ⟨ao', c', he, h1, h2, h3⟩ := h
  simp only [Value.slice.injEq] at he
  obtain ⟨rfl, _, rfl⟩ := he
  refine ⟨ao, c, by rw [hl], by omega, h2, fun i hi => ?_⟩
  have := h3 i (by omega)
  rwa [show eAt (l.take k) i = eAt l i by unfold eAt; rw [List.getElem?_take_of_lt (by omega)]]
theorem EAt.dropK {w : World} {g o n c : Nat} {l : List Ed3} (h : EAt w (.slice (some ⟨g, o, none⟩) n c) l) (k : Nat) (hk : k ≤ l.length) : EAt w (.slice (some ⟨g, o + k * 3, none⟩) (n - k) (c - k)) (l.drop k) := by
  have hl : (l.drop k).length = l.length - k := by simp
  obtain ⟨ao', c', he, h1, h2, h3⟩ := h
  simp only [Value.slice.injEq] at he
  obtain ⟨rfl, rfl, rfl⟩ := he
  refine ⟨_, c - k, by rw [hl], by omega, by omega, fun i hi => ?_⟩
  obtain ⟨g', o', e, p, q, r⟩ := h3 (k + i) (by omega)
  simp only [Option.some.injEq, Addr.mk.injEq, and_true] at e
  obtain ⟨rfl, rfl⟩ := e
  rw [show eAt (l.drop k) i = eAt l (k + i) by unfold eAt; rw [List.getElem?_drop]]
  refine ⟨g, o + k * 3, rfl, ?_, ?_, ?_⟩
  · rw [show o + k * 3 + i * 3 = o + (k + i) * 3 by omega]; exact p
  · rw [show o + k * 3 + i * 3 + 1 = o + (k + i) * 3 + 1 by omega]; exact q
  · rw [show o + k * 3 + i * 3 + 2 = o + (k + i) * 3 + 2 by omega]; exact r
/-- The merging under way. -/
def MG (wB : World) (a b l : List Ed3) (v : Value) (i j : Nat) (X : World) : Prop := ∃ d, EOwn X wB.heap.size v d ∧ d ++ (a.drop i).merge (b.drop j) e3le = e3s l ∧ Below wB.heap.size wB X
theorem sortedE_small (l : List Ed3) (v : Value) (w : World) (h : EAt w v l) (hl : l.length < 2) :
    Calls Try.prog 96 #[v] w fun e w' => ∃ u, e = .returned u ∧ EOwn w' w.heap.size u (e3s l) ∧ Below w.heap.size w w' := by
  obtain ⟨ao, c, rfl, hc, hm⟩ := EAt.shp h
  rw [e3s_small hl]
  obtain ⟨i0, hi, hz0, hz1, hz2⟩ := info_parts3 Try.info50'
  have HL := hide h
  have hl' : ((l.length : Nat) : Int) < 2 := by omega
  clear h
  obtain ⟨n, hn⟩ : ∃ n, n = l.length := ⟨_, rfl⟩
  rw [← hn] at hc hl' HL ⊢
  have HN := hide hn
  clear hn
  go_enter Try.func96, Try.ntmps96
  go_wp2_with (at_builtin; refine wpList_freshE rfl (.tmp 11) (.tmp 12) rfl w.heap.size w.heap.size (ownE_new2 _ w.heap.size rfl) (by simp) _ l rfl rfl (HL.out.below (below_alloc (Below.refl _ _) _)) (by rw [← HN.out]; omega) ?_; intro v4 w4 hownA hbelA)
  have hb := below_on (below_alloc (Below.refl _ _) _) hbelA
  go_ret
  exact ⟨_, rfl, hownA, hb⟩
theorem mg_step {wB X w' : World} {a b l : List Ed3} {v v' : Value} {i' j' : Nat} {d : List Ed3} {p : Ed3} {o : Obj}
    (hd : EOwn X wB.heap.size v d) (hb : Below wB.heap.size wB X) (hown : w'.ownsRow wB.heap.size 50 3 v' (d.length + 1) (eCells d ++ [.int .i64 p.1, .int .i64 p.2.1, .int .u64 p.2.2])) (hgrow : (X.alloc o).grownBy w' v.ownBlock)
    (he : d ++ p :: (a.drop i').merge (b.drop j') e3le = e3s l) : MG wB a b l v' i' j' w' := by
  refine ⟨d ++ [p], ?_, by simpa using he, ?_⟩
  · unfold EOwn; rw [eCells_snoc]; simpa using hown
  · exact (below_alloc hb o).grown hgrow (by have := hb.size; simp; omega) (fun k e => (World.ownsRow.lt hd k e).1)
theorem ownE_lower {w : World} {a b : Nat} {v : Value} {l : List Ed3} (h : EOwn w a v l) (hb : b ≤ a) : EOwn w b v l :=
  ⟨h.1, h.2.imp id fun ⟨g, cap, cur, he, hg, r⟩ => ⟨g, cap, cur, he, Nat.le_trans hb hg, r⟩⟩
set_option maxRecDepth 100000 in
set_option maxHeartbeats 8000000 in
theorem sortedE_any : ∀ (N : Nat) (l : List Ed3), l.length ≤ N → l.length * 24 ≤ 140737488355328 → ∀ (v : Value) (w : World), EAt w v l →
    Calls Try.prog 96 #[v] w fun e w' => ∃ u, e = .returned u ∧ EOwn w' w.heap.size u (e3s l) ∧ Below w.heap.size w w' := by
  intro N
  induction N with
  | zero => intro l hN hB v w h; exact sortedE_small l v w h (by omega)
  | succ N ih =>
    intro l hN hB v w h
    by_cases hl : l.length < 2
    · exact sortedE_small l v w h hl
    obtain ⟨ao, c, rfl, hc, hm⟩ := EAt.shp h
    obtain ⟨g, o, rfl, _⟩ := EAt.cl h (i := 0) (by omega)
    obtain ⟨i0, hi, hz0, hz1, hz2⟩ := info_parts3 Try.info50'
    obtain ⟨K, hK⟩ : ∃ K, K = l.length / 2 := ⟨_, rfl⟩
    have l1 : (l.take K).length = K := by simp; omega
    have l2 : (l.drop K).length = l.length - K := by simp
    have H1 := hide (fun X (hX : Below w.heap.size w X) => ih (l.take K) (by omega) (by omega) _ X ((h.below hX).takeK K (by omega)))
    have H2 := hide (fun X (hX : Below w.heap.size w X) => ih (l.drop K) (by omega) (by omega) _ X ((h.below hX).dropK K (by omega)))
    obtain ⟨A, hA⟩ : ∃ A, A = e3s (l.take K) := ⟨_, rfl⟩
    obtain ⟨B, hBd⟩ : ∃ B, B = e3s (l.drop K) := ⟨_, rfl⟩
    have LA : A.length = K := by rw [hA, e3s_length, l1]
    have LB : B.length = l.length - K := by rw [hBd, e3s_length, l2]
    have HME : Hid (A.merge B e3le = e3s l) := hide (by rw [hA, hBd]; exact e3s_halves l K)
    rw [← hA] at H1
    rw [← hBd] at H2
    have HS := hide (e3s_length l)
    obtain ⟨n, hn⟩ : ∃ n, n = l.length := ⟨_, rfl⟩
    rw [← hn] at hN hB hl hc hK LB l2 HS H2 ⊢
    have hq : (n : Int) / 2 = (K : Int) := by omega
    have hnl : ¬ (n : Int) < 2 := by omega
    have k1 : (K : Int) ≤ (n : Int) := by omega
    have k2 : (n : Int) ≤ (c : Int) := by omega
    have k3 : (K : Int) ≤ (c : Int) := by omega
    have hwr : IntKind.i64.wrap (K : Int) = (K : Int) := IntWalk.i64_in _ (by omega)
    have HK := hide hK
    have HLA := hide LA
    have HLB := hide LB
    have HB := hide hB
    have hm' : (c : Int) ≤ 9223372036854775807 := by omega
    clear h ih hA hBd l1 l2 hn hK LA LB hB hN
    rename_i hx0
    clear hx0
    go_enter Try.func96, Try.ntmps96
    go_wp2_with fail
    refine (H1.out _ (Below.refl _ _)).mono ?_
    rintro e w1 ⟨u1, rfl, ht1, hb1⟩
    obtain ⟨a1, c1, rfl, _, _⟩ := EAt.shp (EAt.of_owns ht1)
    rw [HLA.out]
    have HA1 := hide (EAt.of_owns ht1)
    have HB1 := hide hb1
    clear ht1 hb1
    go_wp2_with fail
    refine (H2.out _ HB1.out).mono ?_
    rintro e w2 ⟨u2, rfl, ht2, hb2⟩
    obtain ⟨a2, c2, rfl, _, _⟩ := EAt.shp (EAt.of_owns ht2)
    rw [HLB.out]
    have HA2 := hide (HA1.out.below hb2)
    have HA3 := hide (EAt.of_owns ht2)
    have HB2 := hide (below_on HB1.out hb2)
    clear ht2 hb2 HA1 HB1 H1 H2
    obtain ⟨P, hP⟩ : ∃ P, P = n - K := ⟨_, rfl⟩
    rw [← hP] at HLB ⊢
    have HP := hide hP
    have HG0 : Hid (MG w2 A B l (.slice (some ⟨w2.heap.size, 0, none⟩) 0 0) 0 0 (w2.alloc (.cells #[] 50))) := hide ⟨[], ownE_new2 _ w2.heap.size rfl, by simpa using HME.out, below_alloc (Below.refl _ _) _⟩
    clear hP hq hnl k1 k2 k3 hwr hl hc hm hm'
    go_wp2_with fail
    generalize (w2.alloc (.cells #[] 50)) = w3 at HG0 ⊢
    have kb : K ≤ 5864062014806 := by have := HB.out; have := HK.out; omega
    have pb : P ≤ 5864062014806 := by have := HB.out; have := HP.out; omega
    rw [HLA.out] at HA2
    rw [HLB.out] at HA3
    go_loopw [5, 6, 7] (fun v ti tj wr => ∃ i j : Nat, i ≤ K ∧ j ≤ P ∧ ti = .int .i64 i ∧ tj = .int .i64 j ∧ MG w2 A B l v i j wr) (fun _ ti tj _ => (K - (RowKit.intOf ti).toNat) + (P - (RowKit.intOf tj).toNat))
    case atStart => exact ⟨0, 0, by omega, by omega, rfl, rfl, HG0.out⟩
    case round =>
      obtain ⟨i, j, hiK, hjP, rfl, rfl, d, hd, he, hb⟩ := hrel
      clear HG0
      have HKn : Hid (K ≤ n) := hide (by have := HK.out; omega)
      have HD := hide hd
      have HBX := hide hb
      have HCA : Hid (i < K → ∃ g o, a1 = some ⟨g, o, none⟩ ∧ wr.cell? ⟨g, o + i * 3, none⟩ = some (.int .i64 (eAt A i).1) ∧ wr.cell? ⟨g, o + i * 3 + 1, none⟩ = some (.int .i64 (eAt A i).2.1) ∧ wr.cell? ⟨g, o + i * 3 + 2, none⟩ = some (.int .u64 (eAt A i).2.2)) := fun h => EAt.cl (HA2.out.below hb) (i := i) (by have := HLA.out; omega)
      have HCB : Hid (j < P → ∃ g o, a2 = some ⟨g, o, none⟩ ∧ wr.cell? ⟨g, o + j * 3, none⟩ = some (.int .i64 (eAt B j).1) ∧ wr.cell? ⟨g, o + j * 3 + 1, none⟩ = some (.int .i64 (eAt B j).2.1) ∧ wr.cell? ⟨g, o + j * 3 + 2, none⟩ = some (.int .u64 (eAt B j).2.2)) := fun h => EAt.cl (HA3.out.below hb) (i := j) (by have := HLB.out; omega)
      have HE := hide he
      have HLE : Hid (d.length + ((A.drop i).merge (B.drop j) e3le).length = n) := hide (by rw [← List.length_append, he]; exact HS.out)
      clear hd he hb
      obtain ⟨x, hx⟩ : ∃ x, x = eAt A i := ⟨_, rfl⟩
      obtain ⟨y, hy⟩ : ∃ y, y = eAt B j := ⟨_, rfl⟩
      have eA : eAt A i = x := hx.symm
      have eB : eAt B j = y := hy.symm
      rw [← hx] at HCA
      rw [← hy] at HCB
      have HLm : Hid (i < K → (B.length ≤ j ∨ e3lt y x = false) → d ++ x :: (A.drop (i + 1)).merge (B.drop j) e3le = e3s l ∧ d.length + 1 ≤ n) := fun h1 h2 => by
        have e := merge_left (a := A) (b := B) (i := i) (j := j) (by have := HLA.out; omega) (by rw [eA, eB]; exact h2)
        have e2 := HE.out
        have e3 := HLE.out
        rw [e] at e2 e3
        rw [eA] at e2
        exact ⟨e2, by simp at e3; omega⟩
      have HRm : Hid (j < P → (A.length ≤ i ∨ e3lt y x = true) → d ++ y :: (A.drop i).merge (B.drop (j + 1)) e3le = e3s l ∧ d.length + 1 ≤ n) := fun h1 h2 => by
        have e := merge_right (a := A) (b := B) (i := i) (j := j) (by have := HLB.out; omega) (by rw [eA, eB]; exact h2)
        have e2 := HE.out
        have e3 := HLE.out
        rw [e] at e2 e3
        rw [eB] at e2
        exact ⟨e2, by simp at e3; omega⟩
      have hwi : IntKind.i64.wrap ((i : Int) + 1) = (i : Int) + 1 := IntWalk.i64_in _ (by omega)
      have hwj : IntKind.i64.wrap ((j : Int) + 1) = (j : Int) + 1 := IntWalk.i64_in _ (by omega)
      have HBF := hide (fun W => ahead_any y x W)
      clear hx hy eA eB
      by_cases hia : i < K
      · obtain ⟨ga, oa, rfl, p0, p1, p2⟩ := HCA.out hia
        have q0 := gw_cellS p0
        have q1 := gw_cellS p1
        have q2 := gw_cellS p2
        have i1 : (i : Int) < (K : Int) := by omega
        by_cases hjb : j < P
        · obtain ⟨gb, ob, rfl, r0, r1, r2⟩ := HCB.out hjb
          have s0 := gw_cellS r0
          have s1 := gw_cellS r1
          have s2 := gw_cellS r2
          have j1 : (j : Int) < (P : Int) := by omega
          have j2 : ¬ (P : Int) ≤ (j : Int) := by omega
          have j3 : ¬ P ≤ j := by omega
          have j4 : decide (P ≤ j) = false := by simp; omega
          by_cases ht : e3lt y x = true
          · rw [ht] at HBF
            obtain ⟨hEQ, hdn⟩ := HRm.out hjb (Or.inr ht)
            have HEQ := hide hEQ
            clear hEQ ht
            go_wp2_with fail
            refine wp_region_gw (by kernel_rfl) (by kernel_rfl) ?_
            repeat (go_big_quiet_step (first
              | (go_at_call 110; exact gw_of (HBF.out _))
              | rfl))
            refine wpQuiet_nil ?_
            intro _ hw'
            obtain ⟨x', hw''⟩ := hw'
            subst hw''
            have HD4 := hide (HD.out.below x'.bel)
            have HB4 := hide (below_on HBX.out x'.bel)
            have m0 := (below_cell x'.bel (lt_of_cellS r0)).trans r0
            have m1 := (below_cell x'.bel (lt_of_cellS r1)).trans r1; have m2 := (below_cell x'.bel (lt_of_cellS r2)).trans r2
            generalize x'.world = W4 at HD4 HB4 m0 m1 m2 ⊢
            clear x'
            clear q0 q1 q2 s0 s1 s2 p0 p1 p2 r0 r1 r2
            go_wp2_with (at_builtin; refine wpList_append_own _ rfl (.tmp 68) (.tmp 73) 45 rfl _ 50 i0 (.agg #[.int .i64 0, .int .i64 0, .int .u64 0]) 3 24 Try.underlying45 hi hz0 hz1 hz2 rfl (by decide) _ _ _ rfl (World.ownsRow.alloc (show W4.ownsRow w2.heap.size 50 3 u5 d.length (eCells d) from HD4.out) _) ⟨W4.heap.size, 0, none⟩ 1 1 [.int .i64 y.1, .int .i64 y.2.1, .int .u64 y.2.2] rfl rfl (three_at W4 _ _ _ _) (by simp [Value.oneCell']) (by have := HB.out; unfold maxLen; omega) (by have := HB.out; omega) (by have := HB4.out.size; simp; omega) ?_; intro v5 w5 hownB hgrowB hqB; have HR5 := hide (mg_step HD4.out HB4.out hownB hgrowB HEQ.out); clear hownB hgrowB hqB)
            go_roundw
            case rel => exact ⟨i, j + 1, by omega, by omega, rfl, by simp, HR5.out⟩
            case measure => simp [RowKit.intOf]; omega
          · have ht' : e3lt y x = false := by simpa using ht
            rw [ht'] at HBF
            obtain ⟨hEQ, hdn⟩ := HLm.out hia (Or.inr ht')
            have HEQ := hide hEQ
            clear hEQ ht ht'
            go_wp2_with fail
            refine wp_region_gw (by kernel_rfl) (by kernel_rfl) ?_
            repeat (go_big_quiet_step (first
              | (go_at_call 110; exact gw_of (HBF.out _))
              | rfl))
            refine wpQuiet_nil ?_
            intro _ hw'
            obtain ⟨x', hw''⟩ := hw'
            subst hw''
            have HD4 := hide (HD.out.below x'.bel)
            have HB4 := hide (below_on HBX.out x'.bel)
            have m0 := (below_cell x'.bel (lt_of_cellS p0)).trans p0
            have m1 := (below_cell x'.bel (lt_of_cellS p1)).trans p1; have m2 := (below_cell x'.bel (lt_of_cellS p2)).trans p2
            generalize x'.world = W4 at HD4 HB4 m0 m1 m2 ⊢
            clear x'
            clear q0 q1 q2 s0 s1 s2 p0 p1 p2 r0 r1 r2
            go_wp2_with (at_builtin; refine wpList_append_own _ rfl (.tmp 59) (.tmp 64) 45 rfl _ 50 i0 (.agg #[.int .i64 0, .int .i64 0, .int .u64 0]) 3 24 Try.underlying45 hi hz0 hz1 hz2 rfl (by decide) _ _ _ rfl (World.ownsRow.alloc (show W4.ownsRow w2.heap.size 50 3 u5 d.length (eCells d) from HD4.out) _) ⟨W4.heap.size, 0, none⟩ 1 1 [.int .i64 x.1, .int .i64 x.2.1, .int .u64 x.2.2] rfl rfl (three_at W4 _ _ _ _) (by simp [Value.oneCell']) (by have := HB.out; unfold maxLen; omega) (by have := HB.out; omega) (by have := HB4.out.size; simp; omega) ?_; intro v5 w5 hownB hgrowB hqB; have HR5 := hide (mg_step HD4.out HB4.out hownB hgrowB HEQ.out); clear hownB hgrowB hqB)
            go_roundw
            case rel => exact ⟨i + 1, j, by omega, by omega, by simp, rfl, HR5.out⟩
            case measure => simp [RowKit.intOf]; omega
        · have j2 : (P : Int) ≤ (j : Int) := by omega
          obtain ⟨hEQ, hdn⟩ := HLm.out hia (Or.inl (by have := HLB.out; omega))
          have HEQ := hide hEQ
          clear hEQ
          go_wp2_with fail
          refine wp_region_gw (by kernel_rfl) (by kernel_rfl) ?_
          repeat (go_big_quiet_step (first
            | (go_at_call 110; exact gw_of (HBF.out _))
            | rfl))
          refine wpQuiet_nil ?_
          intro _ hw'
          obtain ⟨x', hw''⟩ := hw'
          subst hw''
          have HD4 := hide (HD.out.below x'.bel)
          have HB4 := hide (below_on HBX.out x'.bel)
          have m0 := (below_cell x'.bel (lt_of_cellS p0)).trans p0
          have m1 := (below_cell x'.bel (lt_of_cellS p1)).trans p1; have m2 := (below_cell x'.bel (lt_of_cellS p2)).trans p2
          generalize x'.world = W4 at HD4 HB4 m0 m1 m2 ⊢
          clear x'
          clear q0 q1 q2 p0 p1 p2
          go_wp2_with (at_builtin; refine wpList_append_own _ rfl (.tmp 59) (.tmp 64) 45 rfl _ 50 i0 (.agg #[.int .i64 0, .int .i64 0, .int .u64 0]) 3 24 Try.underlying45 hi hz0 hz1 hz2 rfl (by decide) _ _ _ rfl (World.ownsRow.alloc (show W4.ownsRow w2.heap.size 50 3 u5 d.length (eCells d) from HD4.out) _) ⟨W4.heap.size, 0, none⟩ 1 1 [.int .i64 x.1, .int .i64 x.2.1, .int .u64 x.2.2] rfl rfl (three_at W4 _ _ _ _) (by simp [Value.oneCell']) (by have := HB.out; unfold maxLen; omega) (by have := HB.out; omega) (by have := HB4.out.size; simp; omega) ?_; intro v5 w5 hownB hgrowB hqB; have HR5 := hide (mg_step HD4.out HB4.out hownB hgrowB HEQ.out); clear hownB hgrowB hqB)
          go_roundw
          case rel => exact ⟨i + 1, j, by omega, by omega, by simp, rfl, HR5.out⟩
          case measure => simp [RowKit.intOf]; omega
      · have i2 : (K : Int) ≤ (i : Int) := by omega
        by_cases hjb : j < P
        · obtain ⟨gb, ob, rfl, r0, r1, r2⟩ := HCB.out hjb
          have s0 := gw_cellS r0
          have s1 := gw_cellS r1
          have s2 := gw_cellS r2
          have j1 : (j : Int) < (P : Int) := by omega
          have j3 : ¬ P ≤ j := by omega
          have j4 : decide (P ≤ j) = false := by simp; omega
          obtain ⟨hEQ, hdn⟩ := HRm.out hjb (Or.inl (by have := HLA.out; omega))
          have HEQ := hide hEQ
          clear hEQ
          go_wp2_with fail
          refine wp_region_gw (by kernel_rfl) (by kernel_rfl) ?_
          repeat (go_big_quiet_step (first
            | (go_at_call 110; exact gw_of (HBF.out _))
            | rfl))
          refine wpQuiet_nil ?_
          intro _ hw'
          obtain ⟨x', hw''⟩ := hw'
          subst hw''
          have HD4 := hide (HD.out.below x'.bel)
          have HB4 := hide (below_on HBX.out x'.bel)
          have m0 := (below_cell x'.bel (lt_of_cellS r0)).trans r0
          have m1 := (below_cell x'.bel (lt_of_cellS r1)).trans r1; have m2 := (below_cell x'.bel (lt_of_cellS r2)).trans r2
          generalize x'.world = W4 at HD4 HB4 m0 m1 m2 ⊢
          clear x'
          clear s0 s1 s2 r0 r1 r2
          go_wp2_with (at_builtin; refine wpList_append_own _ rfl (.tmp 68) (.tmp 73) 45 rfl _ 50 i0 (.agg #[.int .i64 0, .int .i64 0, .int .u64 0]) 3 24 Try.underlying45 hi hz0 hz1 hz2 rfl (by decide) _ _ _ rfl (World.ownsRow.alloc (show W4.ownsRow w2.heap.size 50 3 u5 d.length (eCells d) from HD4.out) _) ⟨W4.heap.size, 0, none⟩ 1 1 [.int .i64 y.1, .int .i64 y.2.1, .int .u64 y.2.2] rfl rfl (three_at W4 _ _ _ _) (by simp [Value.oneCell']) (by have := HB.out; unfold maxLen; omega) (by have := HB.out; omega) (by have := HB4.out.size; simp; omega) ?_; intro v5 w5 hownB hgrowB hqB; have HR5 := hide (mg_step HD4.out HB4.out hownB hgrowB HEQ.out); clear hownB hgrowB hqB)
          go_roundw
          case rel => exact ⟨i, j + 1, by omega, by omega, rfl, by simp, HR5.out⟩
          case measure => simp [RowKit.intOf]; omega
        · have j2 : (P : Int) ≤ (j : Int) := by omega
          have HF : Hid (EOwn wr w2.heap.size u5 (e3s l)) := hide (by
            have e := HE.out
            rw [merge_done (by have := HLA.out; omega) (by have := HLB.out; omega), List.append_nil] at e
            rw [← e]; exact HD.out)
          go_wp2
          go_ret
          exact ⟨_, rfl, ownE_lower HF.out HB2.out.size, HB2.out.trans (HBX.out.mono HB2.out.size)⟩
end Go.Proofs.Ytmagigmcbegmiaa

/- Edges, Turn, Sort, Merge of what is no graph; the document's Sort. -/
namespace Go.Proofs.Ytmagigmcbegmiaa
open Go.RowKit Go.Lib
set_option linter.unusedVariables false
set_option linter.unusedSimpArgs false
/-- What comes of a graph that is none: nothing, and the error. -/
def NoneG (w : World) (r : Int) (e : Ending) (w' : World) : Prop := e = .returned (.tuple #[.agg #[.int .i64 0, .slice none 0 0, .slice none 0 0, .slice none 0 0], .int .i64 r]) ∧ Below w.heap.size w w'
def NoneR (w : World) (r : Int) (e : Ending) (w' : World) : Prop := e = .returned (.tuple #[.agg #[.int .i64 0, .slice none 0 0], .int .i64 r]) ∧ Below w.heap.size w w'
theorem Try.results80 : Try.f80.results = #[.cell 2 25, .tmp 3] := by kernel_rfl
theorem Try.results81 : Try.f81.results = #[.cell 2 25, .tmp 3] := by kernel_rfl
theorem Try.results78 : Try.f78.results = #[.cell 2 47, .tmp 3] := by kernel_rfl
set_option maxRecDepth 100000 in
set_option maxHeartbeats 4000000 in
theorem turnR_bad (N : Int) (va vb vc : Value) (st tl wt : List Int) (w : World) (hg : GIs w N va vb vc st tl wt) (hst : st.length ≤ 17592186044416) (hto : tl.length ≤ 17592186044416) (hwt : wt.length ≤ 17592186044416) (hchk : (chk N st tl wt).1 ≠ 0) :
    Calls Try.prog 79 #[gAgg N va vb vc] w (NoneG w (chk N st tl wt).1) := by
  have HCK := hide (fun W h => refCheck_all N va vb vc st tl wt W h hst hto hwt)
  unfold ChkPost at HCK
  obtain ⟨⟨r1, r2⟩, hrr⟩ : ∃ r, chk N st tl wt = r := ⟨_, rfl⟩
  rw [hrr] at hchk HCK ⊢
  simp only at hchk HCK ⊢
  have HK1 := hide (MT.start w N va vb vc)
  have HG := hide hg
  have c0 := cell_of HK1.out.bg (i := 0) rfl
  have c1 := cell_of HK1.out.bg (i := 1) rfl
  have c2 := cell_of HK1.out.bg (i := 2) rfl
  have c3 := cell_of HK1.out.bg (i := 3) rfl
  unfold gAgg at HCK ⊢
  clear hg hrr hst hto hwt
  go_enter Try.func79, Try.ntmps79
  go_upto_region 1 with fail
  generalize ((w.alloc (.cells #[.int .i64 N, va, vb, vc] 25)).alloc (.cells #[.int .i64 0, .slice none 0 0, .slice none 0 0, .slice none 0 0] 25)) = w1 at c0 c1 c2 c3 HK1 ⊢
  go_wp2_with fail
  refine (HCK.out w1 (HG.out.below HK1.out.bel)).mono ?_
  rintro e w2 ⟨rfl, hb2⟩
  have HK2 := hide (HK1.out.below hb2)
  have q0 := cell_of HK2.out.rs (i := 0) rfl
  have z0 := free_of HK2.out.rs 0
  have q1 := cell_of HK2.out.rs (i := 1) rfl
  have z1 := free_of HK2.out.rs 1
  have q2 := cell_of HK2.out.rs (i := 2) rfl
  have z2 := free_of HK2.out.rs 2
  have q3 := cell_of HK2.out.rs (i := 3) rfl
  have z3 := free_of HK2.out.rs 3
  have HPU := hide (HK2.out.put (.int .i64 0) (.slice none 0 0) (.slice none 0 0) (.slice none 0 0))
  clear c0 c1 c2 c3 HK1 hb2 HCK HG HK2
  go_wp2_with fail
  exact bodyPost_ret (results_cell2 Try.results79 _ _ (w.heap.size + 1) 25 _ (0, 0) _ rfl HPU.out.1 Try.underlying25 rfl (by kernel_rfl) (.int .i64 r1) rfl) rfl ⟨rfl, HPU.out.2.1⟩
set_option maxRecDepth 100000 in
set_option maxHeartbeats 4000000 in
theorem sortR_bad (N : Int) (va vb vc : Value) (st tl wt : List Int) (w : World) (hg : GIs w N va vb vc st tl wt) (hst : st.length ≤ 17592186044416) (hto : tl.length ≤ 17592186044416) (hwt : wt.length ≤ 17592186044416) (hchk : (chk N st tl wt).1 ≠ 0) :
    Calls Try.prog 80 #[gAgg N va vb vc] w (NoneG w (chk N st tl wt).1) := by
  have HCK := hide (fun W h => refCheck_all N va vb vc st tl wt W h hst hto hwt)
  unfold ChkPost at HCK
  obtain ⟨⟨r1, r2⟩, hrr⟩ : ∃ r, chk N st tl wt = r := ⟨_, rfl⟩
  rw [hrr] at hchk HCK ⊢
  simp only at hchk HCK ⊢
  have HK1 := hide (MT.start w N va vb vc)
  have HG := hide hg
  have c0 := cell_of HK1.out.bg (i := 0) rfl
  have c1 := cell_of HK1.out.bg (i := 1) rfl
  have c2 := cell_of HK1.out.bg (i := 2) rfl
  have c3 := cell_of HK1.out.bg (i := 3) rfl
  unfold gAgg at HCK ⊢
  clear hg hrr hst hto hwt
  go_enter Try.func80, Try.ntmps80
  go_upto_region 1 with fail
  generalize ((w.alloc (.cells #[.int .i64 N, va, vb, vc] 25)).alloc (.cells #[.int .i64 0, .slice none 0 0, .slice none 0 0, .slice none 0 0] 25)) = w1 at c0 c1 c2 c3 HK1 ⊢
  go_wp2_with fail
  refine (HCK.out w1 (HG.out.below HK1.out.bel)).mono ?_
  rintro e w2 ⟨rfl, hb2⟩
  have HK2 := hide (HK1.out.below hb2)
  have q0 := cell_of HK2.out.rs (i := 0) rfl
  have z0 := free_of HK2.out.rs 0
  have q1 := cell_of HK2.out.rs (i := 1) rfl
  have z1 := free_of HK2.out.rs 1
  have q2 := cell_of HK2.out.rs (i := 2) rfl
  have z2 := free_of HK2.out.rs 2
  have q3 := cell_of HK2.out.rs (i := 3) rfl
  have z3 := free_of HK2.out.rs 3
  have HPU := hide (HK2.out.put (.int .i64 0) (.slice none 0 0) (.slice none 0 0) (.slice none 0 0))
  clear c0 c1 c2 c3 HK1 hb2 HCK HG HK2
  go_wp2_with fail
  exact bodyPost_ret (results_cell2 Try.results80 _ _ (w.heap.size + 1) 25 _ (0, 0) _ rfl HPU.out.1 Try.underlying25 rfl (by kernel_rfl) (.int .i64 r1) rfl) rfl ⟨rfl, HPU.out.2.1⟩
set_option maxRecDepth 100000 in
set_option maxHeartbeats 4000000 in
theorem mergeR_bad (N : Int) (va vb vc : Value) (st tl wt : List Int) (w : World) (hg : GIs w N va vb vc st tl wt) (hst : st.length ≤ 17592186044416) (hto : tl.length ≤ 17592186044416) (hwt : wt.length ≤ 17592186044416) (hchk : (chk N st tl wt).1 ≠ 0) :
    Calls Try.prog 81 #[gAgg N va vb vc] w (NoneG w (chk N st tl wt).1) := by
  have HCK := hide (fun W h => refCheck_all N va vb vc st tl wt W h hst hto hwt)
  unfold ChkPost at HCK
  obtain ⟨⟨r1, r2⟩, hrr⟩ : ∃ r, chk N st tl wt = r := ⟨_, rfl⟩
  rw [hrr] at hchk HCK ⊢
  simp only at hchk HCK ⊢
  have HK1 := hide (MT.start w N va vb vc)
  have HG := hide hg
  have c0 := cell_of HK1.out.bg (i := 0) rfl
  have c1 := cell_of HK1.out.bg (i := 1) rfl
  have c2 := cell_of HK1.out.bg (i := 2) rfl
  have c3 := cell_of HK1.out.bg (i := 3) rfl
  unfold gAgg at HCK ⊢
  clear hg hrr hst hto hwt
  go_enter Try.func81, Try.ntmps81
  go_upto_region 1 with fail
  generalize ((w.alloc (.cells #[.int .i64 N, va, vb, vc] 25)).alloc (.cells #[.int .i64 0, .slice none 0 0, .slice none 0 0, .slice none 0 0] 25)) = w1 at c0 c1 c2 c3 HK1 ⊢
  go_wp2_with fail
  refine (HCK.out w1 (HG.out.below HK1.out.bel)).mono ?_
  rintro e w2 ⟨rfl, hb2⟩
  have HK2 := hide (HK1.out.below hb2)
  have q0 := cell_of HK2.out.rs (i := 0) rfl
  have z0 := free_of HK2.out.rs 0
  have q1 := cell_of HK2.out.rs (i := 1) rfl
  have z1 := free_of HK2.out.rs 1
  have q2 := cell_of HK2.out.rs (i := 2) rfl
  have z2 := free_of HK2.out.rs 2
  have q3 := cell_of HK2.out.rs (i := 3) rfl
  have z3 := free_of HK2.out.rs 3
  have HPU := hide (HK2.out.put (.int .i64 0) (.slice none 0 0) (.slice none 0 0) (.slice none 0 0))
  clear c0 c1 c2 c3 HK1 hb2 HCK HG HK2
  go_wp2_with fail
  exact bodyPost_ret (results_cell2 Try.results81 _ _ (w.heap.size + 1) 25 _ (0, 0) _ rfl HPU.out.1 Try.underlying25 rfl (by kernel_rfl) (.int .i64 r1) rfl) rfl ⟨rfl, HPU.out.2.1⟩
set_option maxRecDepth 100000 in
set_option maxHeartbeats 4000000 in
theorem edgesR_bad (N : Int) (va vb vc : Value) (st tl wt : List Int) (w : World) (hg : GIs w N va vb vc st tl wt) (hst : st.length ≤ 17592186044416) (hto : tl.length ≤ 17592186044416) (hwt : wt.length ≤ 17592186044416) (hchk : (chk N st tl wt).1 ≠ 0) :
    Calls Try.prog 78 #[gAgg N va vb vc] w (NoneR w (chk N st tl wt).1) := by
  have HCK := hide (fun W h => refCheck_all N va vb vc st tl wt W h hst hto hwt)
  unfold ChkPost at HCK
  obtain ⟨⟨r1, r2⟩, hrr⟩ : ∃ r, chk N st tl wt = r := ⟨_, rfl⟩
  rw [hrr] at hchk HCK ⊢
  simp only at hchk HCK ⊢
  have HK1 := hide (ME.start w N va vb vc)
  have HG := hide hg
  have c0 := cell_of HK1.out.bg (i := 0) rfl
  have c1 := cell_of HK1.out.bg (i := 1) rfl
  have c2 := cell_of HK1.out.bg (i := 2) rfl
  have c3 := cell_of HK1.out.bg (i := 3) rfl
  unfold gAgg at HCK ⊢
  clear hg hrr hst hto hwt
  go_enter Try.func78, Try.ntmps78
  go_upto_region 1 with fail
  generalize ((w.alloc (.cells #[.int .i64 N, va, vb, vc] 25)).alloc (.cells #[.int .i64 0, .slice none 0 0] 47)) = w1 at c0 c1 c2 c3 HK1 ⊢
  go_wp2_with fail
  refine (HCK.out w1 (HG.out.below HK1.out.bel)).mono ?_
  rintro e w2 ⟨rfl, hb2⟩
  have HK2 := hide (HK1.out.below hb2)
  have q0 := cell_of HK2.out.rs (i := 0) rfl
  have z0 := free_of HK2.out.rs 0
  have q1 := cell_of HK2.out.rs (i := 1) rfl
  have z1 := free_of HK2.out.rs 1
  have HPU := hide (HK2.out.put (.int .i64 0) (.slice none 0 0))
  clear c0 c1 c2 c3 HK1 hb2 HCK HG HK2
  go_wp2_with fail
  exact bodyPost_ret (results_cell2 Try.results78 _ _ (w.heap.size + 1) 47 _ (0, 0) _ rfl HPU.out.1 Try.underlying47 rfl (by kernel_rfl) (.int .i64 r1) rfl) rfl ⟨rfl, HPU.out.2.1⟩
set_option maxRecDepth 100000 in
set_option maxHeartbeats 4000000 in
theorem turn_bad (N : Int) (va vb vc : Value) (st tl wt : List Int) (w : World) (hg : GIs w N va vb vc st tl wt) (hst : st.length ≤ 17592186044416) (hto : tl.length ≤ 17592186044416) (hwt : wt.length ≤ 17592186044416) (hchk : (chk N st tl wt).1 ≠ 0) :
    Calls Try.prog 33 #[gAgg N va vb vc] w (NoneG w (chk N st tl wt).1) := by
  have HCK := hide (fun W h => check_all N va vb vc st tl wt W h hst hto hwt)
  unfold ChkPost at HCK
  obtain ⟨⟨r1, r2⟩, hrr⟩ : ∃ r, chk N st tl wt = r := ⟨_, rfl⟩
  rw [hrr] at hchk HCK ⊢
  simp only at hchk HCK ⊢
  have HK1 := hide (MT.start w N va vb vc)
  have HG := hide hg
  have c0 := cell_of HK1.out.bg (i := 0) rfl
  have c1 := cell_of HK1.out.bg (i := 1) rfl
  have c2 := cell_of HK1.out.bg (i := 2) rfl
  have c3 := cell_of HK1.out.bg (i := 3) rfl
  unfold gAgg at HCK ⊢
  clear hg hrr hst hto hwt
  go_enter Try.func33, Try.ntmps33
  go_upto_region 1 with fail
  generalize ((w.alloc (.cells #[.int .i64 N, va, vb, vc] 25)).alloc (.cells #[.int .i64 0, .slice none 0 0, .slice none 0 0, .slice none 0 0] 25)) = w1 at c0 c1 c2 c3 HK1 ⊢
  go_wp2_with fail
  refine (HCK.out w1 (HG.out.below HK1.out.bel)).mono ?_
  rintro e w2 ⟨rfl, hb2⟩
  have HK2 := hide (HK1.out.below hb2)
  have q0 := cell_of HK2.out.rs (i := 0) rfl
  have z0 := free_of HK2.out.rs 0
  have q1 := cell_of HK2.out.rs (i := 1) rfl
  have z1 := free_of HK2.out.rs 1
  have q2 := cell_of HK2.out.rs (i := 2) rfl
  have z2 := free_of HK2.out.rs 2
  have q3 := cell_of HK2.out.rs (i := 3) rfl
  have z3 := free_of HK2.out.rs 3
  have HPU := hide (HK2.out.put (.int .i64 0) (.slice none 0 0) (.slice none 0 0) (.slice none 0 0))
  clear c0 c1 c2 c3 HK1 hb2 HCK HG HK2
  go_wp2_with fail
  exact bodyPost_ret (results_cell2 Try.results33 _ _ (w.heap.size + 1) 25 _ (0, 0) _ rfl HPU.out.1 Try.underlying25 rfl (by kernel_rfl) (.int .i64 r1) rfl) rfl ⟨rfl, HPU.out.2.1⟩
set_option maxRecDepth 100000 in
set_option maxHeartbeats 4000000 in
theorem sort_bad (N : Int) (va vb vc : Value) (st tl wt : List Int) (w : World) (hg : GIs w N va vb vc st tl wt) (hst : st.length ≤ 17592186044416) (hto : tl.length ≤ 17592186044416) (hwt : wt.length ≤ 17592186044416) (hchk : (chk N st tl wt).1 ≠ 0) :
    Calls Try.prog 35 #[gAgg N va vb vc] w (NoneG w (chk N st tl wt).1) := by
  have HCK := hide (fun W h => check_all N va vb vc st tl wt W h hst hto hwt)
  unfold ChkPost at HCK
  obtain ⟨⟨r1, r2⟩, hrr⟩ : ∃ r, chk N st tl wt = r := ⟨_, rfl⟩
  rw [hrr] at hchk HCK ⊢
  simp only at hchk HCK ⊢
  have HK1 := hide (MT.start w N va vb vc)
  have HG := hide hg
  have c0 := cell_of HK1.out.bg (i := 0) rfl
  have c1 := cell_of HK1.out.bg (i := 1) rfl
  have c2 := cell_of HK1.out.bg (i := 2) rfl
  have c3 := cell_of HK1.out.bg (i := 3) rfl
  unfold gAgg at HCK ⊢
  clear hg hrr hst hto hwt
  go_enter Try.func35, Try.ntmps35
  go_upto_region 1 with fail
  generalize ((w.alloc (.cells #[.int .i64 N, va, vb, vc] 25)).alloc (.cells #[.int .i64 0, .slice none 0 0, .slice none 0 0, .slice none 0 0] 25)) = w1 at c0 c1 c2 c3 HK1 ⊢
  go_wp2_with fail
  refine (HCK.out w1 (HG.out.below HK1.out.bel)).mono ?_
  rintro e w2 ⟨rfl, hb2⟩
  have HK2 := hide (HK1.out.below hb2)
  have q0 := cell_of HK2.out.rs (i := 0) rfl
  have z0 := free_of HK2.out.rs 0
  have q1 := cell_of HK2.out.rs (i := 1) rfl
  have z1 := free_of HK2.out.rs 1
  have q2 := cell_of HK2.out.rs (i := 2) rfl
  have z2 := free_of HK2.out.rs 2
  have q3 := cell_of HK2.out.rs (i := 3) rfl
  have z3 := free_of HK2.out.rs 3
  have HPU := hide (HK2.out.put (.int .i64 0) (.slice none 0 0) (.slice none 0 0) (.slice none 0 0))
  clear c0 c1 c2 c3 HK1 hb2 HCK HG HK2
  go_wp2_with fail
  exact bodyPost_ret (results_cell2 Try.results35 _ _ (w.heap.size + 1) 25 _ (0, 0) _ rfl HPU.out.1 Try.underlying25 rfl (by kernel_rfl) (.int .i64 r1) rfl) rfl ⟨rfl, HPU.out.2.1⟩
set_option maxRecDepth 100000 in
set_option maxHeartbeats 4000000 in
theorem merge_bad (N : Int) (va vb vc : Value) (st tl wt : List Int) (w : World) (hg : GIs w N va vb vc st tl wt) (hst : st.length ≤ 17592186044416) (hto : tl.length ≤ 17592186044416) (hwt : wt.length ≤ 17592186044416) (hchk : (chk N st tl wt).1 ≠ 0) :
    Calls Try.prog 36 #[gAgg N va vb vc] w (NoneG w (chk N st tl wt).1) := by
  have HCK := hide (fun W h => check_all N va vb vc st tl wt W h hst hto hwt)
  unfold ChkPost at HCK
  obtain ⟨⟨r1, r2⟩, hrr⟩ : ∃ r, chk N st tl wt = r := ⟨_, rfl⟩
  rw [hrr] at hchk HCK ⊢
  simp only at hchk HCK ⊢
  have HK1 := hide (MT.start w N va vb vc)
  have HG := hide hg
  have c0 := cell_of HK1.out.bg (i := 0) rfl
  have c1 := cell_of HK1.out.bg (i := 1) rfl
  have c2 := cell_of HK1.out.bg (i := 2) rfl
  have c3 := cell_of HK1.out.bg (i := 3) rfl
  unfold gAgg at HCK ⊢
  clear hg hrr hst hto hwt
  go_enter Try.func36, Try.ntmps36
  go_upto_region 1 with fail
  generalize ((w.alloc (.cells #[.int .i64 N, va, vb, vc] 25)).alloc (.cells #[.int .i64 0, .slice none 0 0, .slice none 0 0, .slice none 0 0] 25)) = w1 at c0 c1 c2 c3 HK1 ⊢
  go_wp2_with fail
  refine (HCK.out w1 (HG.out.below HK1.out.bel)).mono ?_
  rintro e w2 ⟨rfl, hb2⟩
  have HK2 := hide (HK1.out.below hb2)
  have q0 := cell_of HK2.out.rs (i := 0) rfl
  have z0 := free_of HK2.out.rs 0
  have q1 := cell_of HK2.out.rs (i := 1) rfl
  have z1 := free_of HK2.out.rs 1
  have q2 := cell_of HK2.out.rs (i := 2) rfl
  have z2 := free_of HK2.out.rs 2
  have q3 := cell_of HK2.out.rs (i := 3) rfl
  have z3 := free_of HK2.out.rs 3
  have HPU := hide (HK2.out.put (.int .i64 0) (.slice none 0 0) (.slice none 0 0) (.slice none 0 0))
  clear c0 c1 c2 c3 HK1 hb2 HCK HG HK2
  go_wp2_with fail
  exact bodyPost_ret (results_cell2 Try.results36 _ _ (w.heap.size + 1) 25 _ (0, 0) _ rfl HPU.out.1 Try.underlying25 rfl (by kernel_rfl) (.int .i64 r1) rfl) rfl ⟨rfl, HPU.out.2.1⟩
set_option maxRecDepth 100000 in
set_option maxHeartbeats 4000000 in
theorem edges_bad (N : Int) (va vb vc : Value) (st tl wt : List Int) (w : World) (hg : GIs w N va vb vc st tl wt) (hst : st.length ≤ 17592186044416) (hto : tl.length ≤ 17592186044416) (hwt : wt.length ≤ 17592186044416) (hchk : (chk N st tl wt).1 ≠ 0) :
    Calls Try.prog 29 #[gAgg N va vb vc] w (NoneR w (chk N st tl wt).1) := by
  have HCK := hide (fun W h => check_all N va vb vc st tl wt W h hst hto hwt)
  unfold ChkPost at HCK
  obtain ⟨⟨r1, r2⟩, hrr⟩ : ∃ r, chk N st tl wt = r := ⟨_, rfl⟩
  rw [hrr] at hchk HCK ⊢
  simp only at hchk HCK ⊢
  have HK1 := hide (ME.start w N va vb vc)
  have HG := hide hg
  have c0 := cell_of HK1.out.bg (i := 0) rfl
  have c1 := cell_of HK1.out.bg (i := 1) rfl
  have c2 := cell_of HK1.out.bg (i := 2) rfl
  have c3 := cell_of HK1.out.bg (i := 3) rfl
  unfold gAgg at HCK ⊢
  clear hg hrr hst hto hwt
  go_enter Try.func29, Try.ntmps29
  go_upto_region 1 with fail
  generalize ((w.alloc (.cells #[.int .i64 N, va, vb, vc] 25)).alloc (.cells #[.int .i64 0, .slice none 0 0] 47)) = w1 at c0 c1 c2 c3 HK1 ⊢
  go_wp2_with fail
  refine (HCK.out w1 (HG.out.below HK1.out.bel)).mono ?_
  rintro e w2 ⟨rfl, hb2⟩
  have HK2 := hide (HK1.out.below hb2)
  have q0 := cell_of HK2.out.rs (i := 0) rfl
  have z0 := free_of HK2.out.rs 0
  have q1 := cell_of HK2.out.rs (i := 1) rfl
  have z1 := free_of HK2.out.rs 1
  have HPU := hide (HK2.out.put (.int .i64 0) (.slice none 0 0))
  clear c0 c1 c2 c3 HK1 hb2 HCK HG HK2
  go_wp2_with fail
  exact bodyPost_ret (results_cell2 Try.results29 _ _ (w.heap.size + 1) 47 _ (0, 0) _ rfl HPU.out.1 Try.underlying47 rfl (by kernel_rfl) (.int .i64 r1) rfl) rfl ⟨rfl, HPU.out.2.1⟩
theorem EOwn.eat' {w : World} {base : Nat} {v : Value} {l : List Ed3} (h : EOwn w base v l) : EAt w v l := ER.eat (ER.of_owns h)
theorem gEdges_takes {n : Nat} {st tl wt : List Int} (hg : Good n st tl wt) (hw : ∀ e, 0 ≤ at_ wt e) : Takes n (gEdges n st tl wt tl.length) := by
  refine ⟨hg.n_le, by rw [gEdges_length]; exact hg.m_le, fun i hi => ?_, fun i hi => ?_, fun i hi => ?_⟩
  · rw [gEdges_length] at hi; rw [gEdges_at hi]; have := src_lt hg hi; exact ⟨by simp, by simp; omega⟩
  · rw [gEdges_length] at hi; rw [gEdges_at hi]; have := hg.vtx i hi; exact ⟨this.1, this.2.1⟩
  · rw [gEdges_length] at hi; rw [gEdges_at hi]; have := hg.vtx i hi; exact ⟨hw i, this.2.2⟩
theorem Takes.iff {n : Nat} {l : List Ed3} : Takes n l ↔ (n ≤ 1048576 ∧ l.length ≤ 4194304 ∧ ∀ x ∈ l, (0 ≤ x.1 ∧ x.1 < n) ∧ (0 ≤ x.2.1 ∧ x.2.1 < n) ∧ 0 ≤ x.2.2 ∧ x.2.2 ≤ 4294967295) := by
  constructor
  · rintro ⟨h1, h2, h3, h4, h5⟩
    refine ⟨h1, h2, fun x hx => ?_⟩
    obtain ⟨i, hi, rfl⟩ := List.getElem_of_mem hx
    have e : eAt l i = l[i] := by simp [eAt, hi]
    rw [← e]
    exact ⟨h3 i hi, h4 i hi, h5 i hi⟩
  · rintro ⟨h1, h2, h3⟩
    have q : ∀ i, i < l.length → eAt l i ∈ l := fun i hi => by
      have e : eAt l i = l[i] := by simp [eAt, hi]
      rw [e]; exact List.getElem_mem hi
    exact ⟨h1, h2, fun i hi => (h3 _ (q i hi)).1, fun i hi => (h3 _ (q i hi)).2.1, fun i hi => (h3 _ (q i hi)).2.2⟩
theorem Takes.perm {n : Nat} {l l' : List Ed3} (h : Takes n l) (hp : l'.Perm l) : Takes n l' := by
  obtain ⟨h1, h2, h3⟩ := Takes.iff.1 h
  exact Takes.iff.2 ⟨h1, by rw [hp.length_eq]; exact h2, fun x hx => h3 x (hp.mem_iff.1 hx)⟩
/-- The result is written: the new lists stay. -/
theorem gis_put {x : World} {B g1 n1 k1 g2 n2 k2 g3 n3 k3 : Nat} {N : Int} {st tl wt : List Int} (h1 : B < g1) (h2 : B < g2) (h3 : B < g3) (h : GIs x N (.slice (some ⟨g1, 0, none⟩) n1 k1) (.slice (some ⟨g2, 0, none⟩) n2 k2) (.slice (some ⟨g3, 0, none⟩) n3 k3) st tl wt) (y0 y1 y2 y3 : Value) :
    GIs ((((x.setCell ⟨B, 0, none⟩ y0).setCell ⟨B, 1, none⟩ y1).setCell ⟨B, 2, none⟩ y2).setCell ⟨B, 3, none⟩ y3) N (.slice (some ⟨g1, 0, none⟩) n1 k1) (.slice (some ⟨g2, 0, none⟩) n2 k2) (.slice (some ⟨g3, 0, none⟩) n3 k3) st tl wt := by
  have q : ∀ (k : IntKind) (g nn c : Nat) (xs : List Int), B < g → RowAt k x (.slice (some ⟨g, 0, none⟩) nn c) xs → RowAt k ((((x.setCell ⟨B, 0, none⟩ y0).setCell ⟨B, 1, none⟩ y1).setCell ⟨B, 2, none⟩ y2).setCell ⟨B, 3, none⟩ y3) (.slice (some ⟨g, 0, none⟩) nn c) xs := fun k g nn c xs hg h => by
    have hne : ∀ a, some (⟨g, 0, none⟩ : Addr) = some a → ¬ a.block = B := fun a ha => by cases ha; show ¬ g = _; omega
    exact (((h.setOther _ _ _ hne).setOther _ _ _ hne).setOther _ _ _ hne).setOther _ _ _ hne
  exact ⟨q _ _ _ _ _ h1 h.s, q _ _ _ _ _ h2 h.t, q _ _ _ _ _ h3 h.u⟩
/-- The edges row by row, sorted. -/
theorem sortedR (n : Nat) (va vb vc : Value) (st tl wt : List Int) (w X : World) (hgi : GIs w n va vb vc st tl wt) (hg : Good n st tl wt) (u : Value) (B : Nat) (ho : X.ownsRow B 50 3 u tl.length (eCells (gEdges n st tl wt tl.length))) :
    Calls Try.prog 96 #[u] X fun e w' => ∃ u', e = .returned u' ∧ EOwn w' X.heap.size u' (e3s (gEdges n st tl wt tl.length)) ∧ Below X.heap.size X w' := by
  have hl : (gEdges n st tl wt tl.length).length = tl.length := gEdges_length ..
  refine sortedE_any tl.length _ (by rw [hl]; exact Nat.le_refl _) (by rw [hl]; have := hg.m_le; omega) u X (EOwn.eat' (base := B) (by unfold EOwn; rw [hl]; exact ho))
theorem sort_same {n : Nat} {st tl wt : List Int} (hg : Good n st tl wt) : sortE n st tl wt = e3s (gEdges n st tl wt tl.length) := by
  refine e3s_unique ?_ ?_
  · have := sortE_perm hg
    exact this
  · exact (sortE_lxl (n := n) (st := st) (tl := tl) (wt := wt)).imp (fun {a b} h => by rw [e3le_iff]; unfold lxl at h; omega)
set_option maxRecDepth 100000 in
set_option maxHeartbeats 8000000 in
theorem sortR_good (n : Nat) (va vb vc : Value) (st tl wt : List Int) (w : World) (hgi : GIs w n va vb vc st tl wt) (hg : Good n st tl wt) (hw : ∀ e, 0 ≤ at_ wt e) :
    Calls Try.prog 80 #[gAgg n va vb vc] w (LaidW w n (e3s (gEdges n st tl wt tl.length))) := by
  have hml := hg.m_le
  have hchk := good_chk' hg
  obtain ⟨⟨r1, r2⟩, hrr⟩ : ∃ r, chk n st tl wt = r := ⟨_, rfl⟩
  rw [hrr] at hchk
  simp only at hchk
  subst hchk
  have hck := (fun W h => refCheck_all n va vb vc st tl wt W h (by have := hg.s_len; have := hg.n_le; omega) (by omega) (by have := hg.w_len; omega))
  unfold ChkPost at hck
  rw [hrr] at hck
  have HCK := hide hck
  have HGI := hide hgi; have HG := hide hg
  have hmt := MT.start w n va vb vc
  have HMT := hide hmt
  have c0 := cell_of hmt.bg (i := 0) rfl
  have c1 := cell_of hmt.bg (i := 1) rfl
  have c2 := cell_of hmt.bg (i := 2) rfl
  have c3 := cell_of hmt.bg (i := 3) rfl
  have HTK := hide ((gEdges_takes hg hw).perm (e3s_perm _))
  have HED := hide (fun W h => edges_any n va vb vc st tl wt W h hg)
  have HSO := hide (fun X u B ho => sortedR n va vb vc st tl wt w X hgi hg u B ho)
  obtain ⟨L, hL⟩ : ∃ L, L = e3s (gEdges n st tl wt tl.length) := ⟨_, rfl⟩
  rw [← hL] at HTK HSO ⊢
  unfold gAgg at HCK HED ⊢
  clear hgi hg hw hck hrr hmt hL
  go_enter Try.func80, Try.ntmps80
  go_upto_region 1 with fail
  generalize (w.alloc (.cells #[.int .i64 n, va, vb, vc] 25)).alloc (.cells #[.int .i64 0, .slice none 0 0, .slice none 0 0, .slice none 0 0] 25) = w1 at HMT c0 c1 c2 c3 ⊢
  go_wp2_with fail
  refine (HCK.out w1 (HGI.out.below HMT.out.bel)).mono ?_
  rintro e w2 ⟨rfl, hb2⟩
  have HM2 := hide (HMT.out.below hb2)
  clear hb2 HMT c0 c1 c2 c3 HCK
  have c0 := cell_of HM2.out.bg (i := 0) rfl
  have c1 := cell_of HM2.out.bg (i := 1) rfl
  have c2 := cell_of HM2.out.bg (i := 2) rfl
  have c3 := cell_of HM2.out.bg (i := 3) rfl
  have HE2 := hide (HED.out w2.drew (HGI.out.below HM2.out.drew.bel))
  clear HED
  go_wp2_with fail
  have HLA := hide (fun X ao c hc hr => laidO_any n ao c L X hc hr HTK.out)
  unfold LaidPost at HLA
  have HLL : Hid (L.length ≤ 4194304) := HTK.out.m_le
  go_region_with (first
    | (go_at_call 97; refine HE2.out.mono ?_; rintro e9 w9 ⟨cv, rfl, hown9, hb9⟩; have HM9 := hide (HM2.out.drew.below hb9); have HS9 := hide (HSO.out w9 cv _ hown9); have f0 := cell_of HM9.out.bg (i := 0) rfl; clear hown9 hb9)
    | (go_at_call 96; refine HS9.out.mono ?_; rintro e8 w8 ⟨u8, rfl, hown8, hb8⟩; obtain ⟨ao8, c8, rfl, hc8, _⟩ := EAt.shp hown8.eat'; have HL8 := hide (HLA.out w8 ao8 c8 hc8 hown8.eat'); have HM8 := hide (HM9.out.below hb8); have g0 := cell_of HM8.out.bg (i := 0) rfl; clear hown8 hb8)
    | (go_at_call 85; refine HL8.out.mono ?_; rintro e7 w7 ⟨va7, vb7, vc7, st7, tl7, wt7, nx7, rfl, hgi7, hs7, hly7, hb7, ⟨g1, n1, k1, rfl, hn1⟩, ⟨g2, n2, k2, rfl, hn2⟩, ⟨g3, n3, k3, rfl, hn3⟩⟩; have HM7 := hide (HM8.out.below hb7); have HG7 := hide hgi7; have HS7 := hide hs7; have HY7 := hide hly7; have HN1 := hide hn1; have HN2 := hide hn2; have HN3 := hide hn3; have q0 := cell_of HM7.out.rs (i := 0) rfl; have q1 := cell_of HM7.out.rs (i := 1) rfl; have q2 := cell_of HM7.out.rs (i := 2) rfl; have q3 := cell_of HM7.out.rs (i := 3) rfl; have z0 := free_of HM7.out.rs 0; have z1 := free_of HM7.out.rs 1; have z2 := free_of HM7.out.rs 2; have z3 := free_of HM7.out.rs 3; clear hgi7 hs7 hly7 hb7 hn1 hn2 hn3; unfold gAgg))
  all_goals
    go_wp2
    have hlt : w.heap.size + 1 < w8.heap.size := lt_of_heap HM8.out.rs
    have hput := HM7.out.put (.int .i64 n) (.slice (some ⟨g1, 0, none⟩) n1 k1) (.slice (some ⟨g2, 0, none⟩) n2 k2) (.slice (some ⟨g3, 0, none⟩) n3 k3)
    exact bodyPost_ret (results_cell2 Try.results80 _ _ (w.heap.size + 1) 25 _ (0, 0) _ rfl hput.1 Try.underlying25 rfl (by kernel_rfl) (.int .i64 0) rfl) rfl ⟨_, _, _, _, _, _, _, rfl, gis_put (Nat.lt_of_lt_of_le hlt HN1.out) (Nat.lt_of_lt_of_le hlt HN2.out) (Nat.lt_of_lt_of_le hlt HN3.out) HG7.out _ _ _ _, HS7.out, HY7.out, hput.2.1⟩
end Go.Proofs.Ytmagigmcbegmiaa
