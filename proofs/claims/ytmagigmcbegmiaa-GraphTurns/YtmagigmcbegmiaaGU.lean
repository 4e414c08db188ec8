/- built: edges pressed into range, and the graph that Build makes of them. -/
import Derived.Test.YtmagigmcbegmiaaGB
import Derived.Deep.Cut
import Derived.Deep.CutBlock
import Derived.Deep.AppendLies
import Derived.Deep.RegionHeld3
import Derived.BigRegion
import Derived.BigQuiet
namespace Go.Proofs.Ytmagigmcbegmiaa
open Go.RowKit Go.Lib
set_option linter.unusedVariables false
set_option linter.unusedSimpArgs false
def prs (x : Int) (n : Nat) : Int := (x.tmod n + n).tmod n
theorem tmod_in (x : Int) (n : Nat) (hn : 0 < n) : -(n : Int) < x.tmod n ∧ x.tmod n < n := by
  have hp : (0 : Int) < n := by omega
  have h2 := Int.tmod_lt_of_pos x hp
  refine ⟨?_, h2⟩
  rcases Int.le_total 0 x with h | h
  · have := Int.tmod_nonneg (n : Int) h; omega
  · have h3 := Int.tmod_lt_of_pos (-x) hp
    rw [Int.neg_tmod] at h3
    omega
theorem prs_in (x : Int) (n : Nat) (hn : 0 < n) : 0 ≤ prs x n ∧ prs x n < n := by
  have h := tmod_in x n hn
  unfold prs
  exact ⟨Int.tmod_nonneg _ (by omega), Int.tmod_lt_of_pos _ (by omega)⟩
/-- An edge pressed into range. -/
def prE (n : Nat) (e : Ed3) : Ed3 := (prs e.1 n, prs e.2.1 n, e.2.2.tmod 4294967296)
def prL (n : Nat) (es : List Ed3) (i : Nat) : List Ed3 := upto (fun j => prE n (eAt es j)) i
theorem prL_len (n : Nat) (es : List Ed3) (i : Nat) : (prL n es i).length = i := upto_len _ _
theorem prL_succ (n : Nat) (es : List Ed3) (i : Nat) : prL n es (i + 1) = prL n es i ++ [prE n (eAt es i)] := upto_succ _ _
theorem prL_at (n : Nat) (es : List Ed3) (i j : Nat) (h : j < i) : eAt (prL n es i) j = prE n (eAt es j) := by simp [prL, upto, eAt, h]
def eCells (l : List Ed3) : List Value := l.flatMap fun p => [.int .i64 p.1, .int .i64 p.2.1, .int .u64 p.2.2]
theorem eCells_length (l : List Ed3) : (eCells l).length = l.length * 3 := by
  induction l with
  | nil => rfl
  | cons a l ih => simp [eCells] at ih ⊢; omega
theorem eCells_snoc (l : List Ed3) (p : Ed3) : eCells (l ++ [p]) = eCells l ++ [.int .i64 p.1, .int .i64 p.2.1, .int .u64 p.2.2] := by simp [eCells]
theorem eCells_at (l : List Ed3) (i : Nat) (h : i < l.length) : (eCells l)[i * 3]? = some (.int .i64 (eAt l i).1) ∧ (eCells l)[i * 3 + 1]? = some (.int .i64 (eAt l i).2.1) ∧ (eCells l)[i * 3 + 2]? = some (.int .u64 (eAt l i).2.2) := by
  induction l generalizing i with
  | nil => simp at h
  | cons a l ih =>
    cases i with
    | zero => simp [eCells, eAt]
    | succ i =>
      have := ih i (by simpa using h)
      have e : eCells (a :: l) = [.int .i64 a.1, .int .i64 a.2.1, .int .u64 a.2.2] ++ eCells l := by simp [eCells]
      rw [e, show (i + 1) * 3 = i * 3 + 3 by omega]
      simp only [eAt, List.getElem?_cons_succ] at this ⊢
      refine ⟨?_, ?_, ?_⟩
      · rw [List.getElem?_append_right (by simp)]; simpa using this.1
      · rw [List.getElem?_append_right (by simp)]; simpa using this.2.1
      · rw [List.getElem?_append_right (by simp)]; simpa using this.2.2
theorem EAt.of_owns {w : World} {B : Nat} {v : Value} {l : List Ed3} (h : w.ownsRow B 50 3 v l.length (eCells l)) : EAt w v l := by
  obtain ⟨h0, ⟨rfl, hn⟩ | ⟨g, cap, cur, rfl, hg, hc, h1, h2, h3, h4⟩⟩ := h
  · obtain rfl : l = [] := List.eq_nil_of_length_eq_zero hn
    exact ⟨none, 0, rfl, Nat.le_refl _, by decide, fun i hi => absurd hi (Nat.not_lt_zero _)⟩
  · refine ⟨_, cap, rfl, h1, h2, fun i hi => ⟨g, 0, rfl, ?_⟩⟩
    obtain ⟨p, q, r⟩ := eCells_at l i hi
    rw [← h4, List.getElem?_take_of_lt (by omega)] at p q r
    rw [Nat.zero_add]
    exact ⟨cell_of hc (by simpa using p), cell_of hc (by simpa using q), cell_of hc (by simpa using r)⟩
/-- built's memory: the result, the list. -/
structure BLm (w : World) (lv : Value) (l : List Ed3) (x : World) : Prop where
  res : x.heap[w.heap.size]? = some (.cells #[.int .i64 0, .slice none 0 0, .slice none 0 0, .slice none 0 0] 25 (0, 0))
  own : x.ownsRow (w.heap.size + 1) 50 3 lv l.length (eCells l)
  bel : Below w.heap.size w x
theorem BLm.start (w : World) : BLm w (.slice none 0 0) [] (w.alloc (.cells #[.int .i64 0, .slice none 0 0, .slice none 0 0, .slice none 0 0] 25)) :=
  ⟨heap_new _ _, World.ownsRow_nil _ _ _ _, below_alloc (Below.refl _ _) _⟩
theorem BLm.below {w x y : World} {lv : Value} {l : List Ed3} (h : BLm w lv l x) (hb : Below x.heap.size x y) : BLm w lv l y :=
  ⟨(hb.block _ (lt_of_heap h.res)).trans h.res, (by
    obtain ⟨h0, hn | ⟨g, cap, cur, rfl, hg, hc, r⟩⟩ := h.own
    · exact ⟨h0, .inl hn⟩
    · exact ⟨h0, .inr ⟨g, cap, cur, rfl, hg, (hb.block g (lt_of_heap hc)).trans hc, r⟩⟩), below_on h.bel hb⟩
theorem BLm.step {w x y z : World} {lv lv' : Value} {l : List Ed3} {p : Ed3} {m : Nat} (h : BLm w lv l x) (hm : l.length = m) (hb : Below x.heap.size x y) (h1 : z.ownsRow (w.heap.size + 1) 50 3 lv' (m + 1) (eCells l ++ [.int .i64 p.1, .int .i64 p.2.1, .int .u64 p.2.2])) (h2 : y.grownBy z lv.ownBlock) : BLm w lv' (l ++ [p]) z := by
  subst hm
  have hy := h.below hb
  have hl := fun g e => h.own.lt g e
  refine ⟨(h2.block _ (lt_of_heap hy.res) (fun e => by have := (hl _ e.symm).1; omega)).trans hy.res, by rw [eCells_snoc]; simpa using h1, hy.bel.grown h2 hy.bel.size (fun j hj => by have := (hl j hj).1; omega)⟩
theorem kept3 {y z : World} {row : Option Nat} {B : Nat} {a b c : Value} (hg : y.grownBy z row) (hr : ∀ k, row = some k → k < B) (h : y.cell? ⟨B, 0, none⟩ = some a ∧ y.cell? ⟨B, 1, none⟩ = some b ∧ y.cell? ⟨B, 2, none⟩ = some c) : z.cell? ⟨B, 0, none⟩ = some a ∧ z.cell? ⟨B, 1, none⟩ = some b ∧ z.cell? ⟨B, 2, none⟩ = some c := by
  have hb : z.heap[B]? = y.heap[B]? := hg.block B (block_of_cell h.1) (fun e => by have := hr B e.symm; omega)
  exact ⟨(World.cell?_of_block hb).trans h.1, (World.cell?_of_block hb).trans h.2.1, (World.cell?_of_block hb).trans h.2.2⟩
theorem Try.info50' : (Try.prog.info? 50).map (fun i => (i.zero, i.size, i.bytes)) = some (some (.agg #[.int .i64 0, .int .i64 0, .int .u64 0]), 3, 24) := by kernel_rfl
theorem three_cells (w : World) (x0 x1 x2 : Value) (t : TypeId) : ∀ j u, [x0, x1, x2][j]? = some u → (w.alloc (.cells #[x0, x1, x2] t)).cell? ((⟨w.heap.size, 0, none⟩ : Addr).add j) = some u := by
  intro j u hj
  have hh : (w.alloc (.cells #[x0, x1, x2] t)).heap[w.heap.size]? = some (.cells #[x0, x1, x2] t (0, 0)) := heap_new _ _
  rw [Addr.add_lit]
  match j, hj with
  | 0, hj => simp at hj; subst hj; exact cell_of hh rfl
  | 1, hj => simp at hj; subst hj; exact cell_of hh rfl
  | 2, hj => simp at hj; subst hj; exact cell_of hh rfl
theorem info_parts3 {o : Option TypeInfo} {a : Option Value} {b c : Nat} (h : o.map (fun i => (i.zero, i.size, i.bytes)) = some (a, b, c)) : ∃ i, o = some i ∧ i.zero = a ∧ i.size = b ∧ i.bytes = c := by
  obtain ⟨i, hi, hz⟩ := Option.map_eq_some_iff.1 h
  simp only [Prod.mk.injEq] at hz
  exact ⟨i, hi, hz⟩
theorem prL_takes {n : Nat} (es : List Ed3) (K : Nat) (hn1 : 1 ≤ n) (hn2 : n ≤ 40) (hK : K ≤ 300) (hnn : ∀ i, i < K → 0 ≤ (eAt es i).2.2) : Takes n (prL n es K) := by
  refine ⟨by omega, by rw [prL_len]; omega, fun i hi => ?_, fun i hi => ?_, fun i hi => ?_⟩ <;> rw [prL_len] at hi <;> rw [prL_at n es K i hi]
  · exact prs_in _ _ hn1
  · exact prs_in _ _ hn1
  · have := hnn i hi
    show 0 ≤ (eAt es i).2.2.tmod 4294967296 ∧ (eAt es i).2.2.tmod 4294967296 ≤ 4294967295
    have h1 := Int.tmod_nonneg 4294967296 this
    have h2 := Int.tmod_lt_of_pos (eAt es i).2.2 (show (0 : Int) < 4294967296 by decide)
    exact ⟨h1, by omega⟩
/-- A graph that Build has made of the edges l, in every world whose blocks from B on are those of w'. -/
structure GMade (n m : Nat) (l : List Ed3) (a b c : Value) (st tl wt nx : List Int) (B : Nat) (w' : World) : Prop where
  gi : ∀ Z : World, w'.heap.size ≤ Z.heap.size → (∀ k, B ≤ k → k < w'.heap.size → Z.heap[k]? = w'.heap[k]?) → GIs Z n a b c st tl wt
  gd : Good n st tl wt
  su : Summed n m (eFrom l) n st
  la : Laying n m (eFrom l) (eTo l) (eWt l) m nx tl wt
theorem GMade.at {n m : Nat} {l : List Ed3} {a b c : Value} {st tl wt nx : List Int} {B : Nat} {w' Z : World} (h : GMade n m l a b c st tl wt nx B w') (hb : Below w'.heap.size w' Z) : GIs Z n a b c st tl wt := h.gi Z hb.size (fun k _ hk => hb.block k hk)
theorem build_is (n m : Nat) (lo : Option Addr) (lc : Nat) (l : List Ed3) (W : World) (hW : EAt W (.slice lo m lc) l) (hm : m = l.length) (ht : Takes n l) :
    Calls Try.prog 30 #[.agg #[.int .i64 n, .slice lo m lc]] W fun e w' => ∃ ao ca bo cb co cc st tl wt nx, e = .returned (.tuple #[.agg #[.int .i64 n, .slice ao (n + 1) ca, .slice bo m cb, .slice co m cc], .int .i64 0, .int .i64 0]) ∧ GMade n m l (.slice ao (n + 1) ca) (.slice bo m cb) (.slice co m cc) st tl wt nx W.heap.size w' ∧ Below W.heap.size W w' := by
  subst hm
  refine (build_good n lo lc l W hW ht).mono ?_
  rintro e w' ⟨va, vb, vc, st, tl, wt, nx, rfl, hgi, hsu, hla, hb⟩
  have hgd : Good n st tl wt := Laying.good hsu hla (fun i hi => by have := ht.efr i hi; unfold eFrom; omega) ht.n_le ht.m_le
  have h0 := hgi w' (Nat.le_refl _) (fun _ _ _ => rfl)
  obtain ⟨ao, ca, rfl⟩ := h0.s.shape
  obtain ⟨bo, cb, rfl⟩ := h0.t.shape
  obtain ⟨co, cc, rfl⟩ := h0.u.shape
  have e1 := hgd.s_len
  have e2 := hla.tlen
  have e3 := hla.wlen
  unfold gAgg
  refine ⟨ao, ca, bo, cb, co, cc, st, tl, wt, nx, by rw [e1, e2, e3], ⟨fun Z hZ hk => ?_, hgd, hsu, hla⟩, hb⟩
  have := hgi Z hZ hk
  rw [e1, e2, e3] at this
  exact this
theorem Try.results24 : Try.f24.results = #[.cell 4 25, .tmp 5, .tmp 6] := by kernel_rfl
/-- What built answers: n vertices, the first K edges pressed into range. -/
def BuiltPost (w : World) (n K : Nat) (es : List Ed3) (e : Ending) (w' : World) : Prop :=
  ∃ ao ca bo cb co cc lo lc st tl wt nx, e = .returned (.tuple #[.agg #[.int .i64 n, .slice ao (n + 1) ca, .slice bo K cb, .slice co K cc], .slice lo K lc, .bool true]) ∧ GMade n K (prL n es K) (.slice ao (n + 1) ca) (.slice bo K cb) (.slice co K cc) st tl wt nx w.heap.size w' ∧ EAt w' (.slice lo K lc) (prL n es K) ∧ Below w.heap.size w w'
theorem built_end {w w0 w2 w3 : World} {n K : Nat} {es : List Ed3} {ao bo co lo : Option Addr} {ca cb cc lc : Nat} {st tl wt nx : List Int} (hK : (prL n es K).length = K)
    (hg : GMade n K (prL n es K) (.slice ao (n + 1) ca) (.slice bo K cb) (.slice co K cc) st tl wt nx w0.heap.size w2) (h0 : w.heap.size < w0.heap.size) (h23 : Below w2.heap.size w2 w3) (hb : BLm w (.slice lo K lc) (prL n es K) w3) (X : World)
    (hX : X = (((w3.setCell ⟨w.heap.size, 0, none⟩ (.int .i64 n)).setCell ⟨w.heap.size, 1, none⟩ (.slice ao (n + 1) ca)).setCell ⟨w.heap.size, 2, none⟩ (.slice bo K cb)).setCell ⟨w.heap.size, 3, none⟩ (.slice co K cc) ∨ X = ((((w3.setCell ⟨w.heap.size, 0, none⟩ (.int .i64 n)).setCell ⟨w.heap.size, 1, none⟩ (.slice ao (n + 1) ca)).setCell ⟨w.heap.size, 2, none⟩ (.slice bo K cb)).setCell ⟨w.heap.size, 3, none⟩ (.slice co K cc)).drew ∨ X = (((w3.drew.setCell ⟨w.heap.size, 0, none⟩ (.int .i64 n)).setCell ⟨w.heap.size, 1, none⟩ (.slice ao (n + 1) ca)).setCell ⟨w.heap.size, 2, none⟩ (.slice bo K cb)).setCell ⟨w.heap.size, 3, none⟩ (.slice co K cc)) :
    X.heap[w.heap.size]? = some (.cells #[.int .i64 n, .slice ao (n + 1) ca, .slice bo K cb, .slice co K cc] 25 (0, 0)) ∧ GMade n K (prL n es K) (.slice ao (n + 1) ca) (.slice bo K cb) (.slice co K cc) st tl wt nx w.heap.size X ∧ EAt X (.slice lo K lc) (prL n es K) ∧ Below w.heap.size w X := by
  have key : X.heap = ((((w3.setCell ⟨w.heap.size, 0, none⟩ (.int .i64 n)).setCell ⟨w.heap.size, 1, none⟩ (.slice ao (n + 1) ca)).setCell ⟨w.heap.size, 2, none⟩ (.slice bo K cb)).setCell ⟨w.heap.size, 3, none⟩ (.slice co K cc)).heap ∧ X.os = w3.os ∧ X.tape = w3.tape ∧ X.output = w3.output := by
    rcases hX with rfl | rfl | rfl <;> exact ⟨rfl, rfl, rfl, rfl⟩
  obtain ⟨kh, k1, k2, k3⟩ := key
  have hother : ∀ k, k ≠ w.heap.size → X.heap[k]? = w3.heap[k]? := fun k hk => by
    rw [kh, Below.heap_setCell _ _ _ _ (by exact hk), Below.heap_setCell _ _ _ _ (by exact hk), Below.heap_setCell _ _ _ _ (by exact hk), Below.heap_setCell _ _ _ _ (by exact hk)]
  have hsz : X.heap.size = w3.heap.size := by rw [kh]; simp [World.setCell]
  refine ⟨by rw [kh, heap_set (heap_set (heap_set (heap_set hb.res _) _) _) _]; rfl, ⟨fun Z hZ hk => ?_, hg.gd, hg.su, hg.la⟩, EAt.of_owns (B := w.heap.size + 1) ?_, hb.bel.trans ⟨k1, k2, k3, by omega, fun k hk => hother k (by omega)⟩⟩
  · refine hg.gi Z (by have := h23.size; omega) (fun k h1 h2 => ?_)
    have h3 := h23.size
    rw [hk k (by omega) (by omega), hother k (by omega), h23.block k h2]
  · rw [hK]
    have ho := hb.own
    rw [hK] at ho
    obtain ⟨h0, hn | ⟨g, cap, cur, he, hg', hc, r⟩⟩ := ho
    · exact ⟨h0, .inl hn⟩
    · exact ⟨h0, .inr ⟨g, cap, cur, he, hg', (hother g (by omega)).trans hc, r⟩⟩
set_option maxRecDepth 100000 in
set_option maxHeartbeats 8000000 in
theorem built_any (nI : Int) (v : Value) (es : List Ed3) (w : World) (hE : EAt w v es) (hnn : ∀ i, i < es.length → 0 ≤ (eAt es i).2.2) :
    ∃ n : Nat, 1 ≤ n ∧ n ≤ 40 ∧ Calls Try.prog 24 #[.int .i64 nI, v] w (BuiltPost w n (min es.length 300) es) := by
  obtain ⟨i0, hi, hz0, hz1, hz2⟩ := info_parts3 Try.info50'
  obtain ⟨ao, c, rfl, hl1, hl2, hl3⟩ := id hE
  obtain ⟨n, hn⟩ : ∃ n : Nat, (n : Int) = 1 + prs nI 40 := ⟨(1 + prs nI 40).toNat, by have := prs_in nI 40 (by omega); omega⟩
  have hp40 := prs_in nI 40 (by omega)
  have hn1 : 1 ≤ n := by omega
  have hn2 : n ≤ 40 := by have := hp40.2; omega
  have ht40 : -(40 : Int) < nI.tmod 40 ∧ nI.tmod 40 < 40 := tmod_in nI 40 (by omega)
  have hq40 : (nI.tmod 40 + 40).tmod 40 = prs nI 40 := rfl
  have hw1 : wrap64 (nI.tmod 40 + 40) = nI.tmod 40 + 40 := IntWalk.wrap64_in _ (by omega)
  have hw2 : wrap64 (1 + (nI.tmod 40 + 40).tmod 40) = (n : Int) := by
    rw [hq40, hn]; exact IntWalk.wrap64_in _ (by omega)
  obtain ⟨K, hK⟩ : ∃ K, K = min es.length 300 := ⟨_, rfl⟩
  have HE := hide hE
  have HNN := hide hnn
  have HB0 := hide (BLm.start w)
  clear hE hl3 hnn hp40 ht40 hn hq40
  refine ⟨n, hn1, hn2, ?_⟩
  rw [← hK]
  go_enter Try.func24, Try.ntmps24
  go_upto_region 2 with fail
  rw [hw1, hw2]
  clear hw1 hw2
  generalize (w.alloc (Obj.cells #[Value.int IntKind.i64 0, Value.slice none 0 0, Value.slice none 0 0, Value.slice none 0 0] 25)) = w1 at HB0 ⊢
  go_upto_if 20 with fail
  go_cut [1] from 13 to 22 (fun u wx => u = .slice ao K c ∧ wx = w1)
  case first =>
    by_cases h3 : 300 < es.length
    · have h3i : (300 : Int) < (es.length : Int) := by omega
      obtain rfl : K = 300 := by omega
      have j1 : (300 : Int) ≤ (c : Int) := by omega
      clear h3 hK hn1 hn2 hl1 hl2
      go_wp2_with fail
      go_meet
      case rel => exact ⟨rfl, rfl⟩
    · have h3i : ¬ (300 : Int) < (es.length : Int) := by omega
      obtain rfl : K = es.length := by omega
      clear h3 hK hn1 hn2 hl1 hl2
      go_wp2_with fail
      go_meet
      case rel => exact ⟨rfl, rfl⟩
  case rest =>
    obtain ⟨rfl, rfl⟩ := hcut
    have hKe : K ≤ es.length := by omega
    have hK3 : K ≤ 300 := by omega
    clear hK
    go_wp2_with fail
    go_loopw [7, 8, 9] (fun lv t t9 wr => ∃ i : Nat, i ≤ K ∧ t = .int .i64 i ∧ BLm w lv (prL n es i) wr) (fun _ t _ _ => K - (RowKit.intOf t).toNat)
    case atStart => exact ⟨0, by omega, rfl, HB0.out⟩
    case round =>
      obtain ⟨i, hiK, rfl, hbl⟩ := hrel
      clear HB0
      have HBL := hide hbl
      clear hbl
      by_cases hlt : i < K
      · obtain ⟨g, o, rfl, hgl, e0, e1, e2⟩ := (HE.out.below HBL.out.bel).cellAt (show i < es.length by omega)
        have hnn := HNN.out i (by omega)
        have HSU := hide (prL_succ n es i)
        have HLN := hide (prL_len n es i)
        unfold prE prs at HSU
        obtain ⟨x, hx⟩ : ∃ x, x = (eAt es i).1 := ⟨_, rfl⟩
        obtain ⟨y, hy⟩ : ∃ y, y = (eAt es i).2.1 := ⟨_, rfl⟩
        obtain ⟨z, hz⟩ : ∃ z, z = (eAt es i).2.2 := ⟨_, rfl⟩
        rw [← hx] at e0 HSU
        rw [← hy] at e1 HSU
        rw [← hz] at e2 HSU hnn
        clear hx hy hz
        have tx := tmod_in x n (by omega)
        have ty := tmod_in y n (by omega)
        have hwx : wrap64 (x.tmod n + n) = x.tmod n + n := IntWalk.wrap64_in _ (by omega)
        have hwy : wrap64 (y.tmod n + n) = y.tmod n + n := IntWalk.wrap64_in _ (by omega)
        have hn0 : ¬ (n : Int) = 0 := by omega
        have hn0n : ¬ n = 0 := by omega
        have hn0b : ((n : Int) == 0) = false := by simpa using hn0n
        have hil : (i : Int) < (K : Int) := by omega
        have hic : i < c := by omega
        have HLT := hide (fun k (e : u7.ownBlock = some k) => (HBL.out.own.lt k e).2)
        have HBQ := hide (HBL.out.below (below_alloc (Below.refl _ _) (.cells #[.int .i64 x, .int .i64 y, .int .u64 z] 50)))
        have hh := heap_new wr (.cells #[.int .i64 x, .int .i64 y, .int .u64 z] 50)
        have hsq : wr.heap.size + 1 = (wr.alloc (.cells #[.int .i64 x, .int .i64 y, .int .u64 z] 50)).heap.size := by simp
        have HN1 := hide hn1
        have HN2 := hide hn2
        have HK3 := hide hK3
        clear hn1 hn2 hK3 tx ty hwx hwy
        go_wp2_with fail
        generalize (wr.alloc (Obj.cells #[Value.int IntKind.i64 x, Value.int IntKind.i64 y, Value.int IntKind.u64 z] 50)) = wq at HBQ hh hsq ⊢
        have tx := tmod_in x n (by have := HN1.out; omega)
        have ty := tmod_in y n (by have := HN1.out; omega)
        have hwx : IntKind.i64.wrap (x.tmod n + n) = x.tmod n + n := IntWalk.i64_in _ (by have := HN2.out; omega)
        have hwy : IntKind.i64.wrap (y.tmod n + n) = y.tmod n + n := IntWalk.i64_in _ (by have := HN2.out; omega)
        have b0 := cell_of hh (i := 0) rfl
        have b1 := cell_of hh (i := 1) rfl
        have b2 := cell_of hh (i := 2) rfl
        have hBZ : w.heap.size + 1 ≤ wq.heap.size := lt_of_heap HBQ.out.res
        have hos := HBQ.out.own
        rw [HLN.out] at hos
        have HOS := hide hos
        have hi300 : i ≤ 300 := by have := HK3.out; omega
        have HHH := hide (fun X (hX : Below wq.heap.size wq X) => (⟨(below_cell hX (by omega)).trans b0, (below_cell hX (by omega)).trans b1, (below_cell hX (by omega)).trans b2⟩ : X.cell? ⟨wr.heap.size, 0, none⟩ = some (.int .i64 x) ∧ X.cell? ⟨wr.heap.size, 1, none⟩ = some (.int .i64 y) ∧ X.cell? ⟨wr.heap.size, 2, none⟩ = some (.int .u64 z)))
        clear hh hos tx ty
        have hi63 := hide hi300
        clear hi300
        go_region_held3 (fun X => X.cell? ⟨wr.heap.size, 0, none⟩ = some (.int .i64 x) ∧ X.cell? ⟨wr.heap.size, 1, none⟩ = some (.int .i64 y) ∧ X.cell? ⟨wr.heap.size, 2, none⟩ = some (.int .u64 z))
          (first | exact HQ5.out | go_keep | exact HHH.out _ (below_alloc (below_drew (Below.refl _ _)) _) | exact HHH.out _ (below_drew (below_alloc (Below.refl _ _) _)))
          ((refine step_append_lies _ (by rfl) _ _ _ (by rfl) (w.heap.size + 1) 50 i0 (.agg #[.int .i64 0, .int .i64 0, .int .u64 0]) 3 24 Try.underlying45 hi hz0 hz1 hz2 rfl (by omega) u7 i (eCells (prL n es i)) (by rfl) (by first | exact (HOS.out.alloc _).drew | exact HOS.out.drew.alloc _) ⟨wq.heap.size, 0, none⟩ 1 1 [.int .i64 ((x.tmod n + n).tmod n), .int .i64 ((y.tmod n + n).tmod n), .int .u64 (z.tmod 4294967296)] (by rfl) (by rfl) (by first | exact three_cells wq _ _ _ _ | exact three_cells wq.drew _ _ _ _) (by simp [Value.oneCell']) (by omega) (by have := hi63.out; unfold maxLen; omega) (by have := hi63.out; omega) (by simp; omega) (wq.heap.size + 1) (by simp) ?_; intro g5 cap5 w5 hownB hgrowB hatB hltB; have HB5 := hide (HBQ.out.step (p := ((x.tmod n + n).tmod n, (y.tmod n + n).tmod n, z.tmod 4294967296)) HLN.out (by first | exact below_drew (below_alloc (Below.refl _ _) _) | exact below_alloc (below_drew (Below.refl _ _)) _) hownB hgrowB); rw [← HSU.out] at HB5; have HQ5 := hide (kept3 hgrowB HLT.out (HHH.out _ (by first | exact below_drew (below_alloc (Below.refl _ _) _) | exact below_alloc (below_drew (Below.refl _ _)) _))); clear hownB hgrowB hatB hltB))
        all_goals
          go_wp2_with fail
          go_roundw
          case rel => exact ⟨i + 1, by omega, by simp, HB5.out⟩
          case measure => simp [RowKit.intOf]; omega
      · obtain rfl : i = K := by omega
        have HTK := hide (prL_takes es i hn1 hn2 hK3 (fun j hj => HNN.out j (by omega)))
        have hea := EAt.of_owns HBL.out.own
        obtain ⟨lo, lc, rfl, hlc⟩ := id hea
        have HBU := hide (fun W hW => build_is n i lo lc (prL n es i) W hW (prL_len n es i).symm HTK.out)
        have HEA := hide hea
        have HLN := prL_len n es i
        rw [HLN]
        have HLN2 := hide HLN
        clear HLN hea hlc
        go_wp2_with (go_at_call 30; refine (HBU.out _ (by have := HEA.out; rwa [HLN2.out] at this)).mono ?_; rintro e w2 ⟨ao2, ca2, bo2, cb2, co2, cc2, st, tl, wt, nx, rfl, hgm, hb2⟩; have HGM := hide hgm; have HB2 := hide (HBL.out.below hb2); have HSZ := hide (lt_of_heap HBL.out.res); clear hgm hb2)
        have hh := heap_new w2 (.cells #[.int .i64 n, .slice ao2 (n + 1) ca2, .slice bo2 i cb2, .slice co2 i cc2] 25)
        have HB3 := hide (HB2.out.below (below_alloc (Below.refl _ _) (.cells #[.int .i64 n, .slice ao2 (n + 1) ca2, .slice bo2 i cb2, .slice co2 i cc2] 25)))
        have HBB := hide (below_alloc (Below.refl w2.heap.size w2) (.cells #[.int .i64 n, .slice ao2 (n + 1) ca2, .slice bo2 i cb2, .slice co2 i cc2] 25))
        have hne : w.heap.size ≠ w2.heap.size := by have := lt_of_heap HB2.out.res; omega
        generalize (w2.alloc (Obj.cells #[Value.int IntKind.i64 n, Value.slice ao2 (n + 1) ca2, Value.slice bo2 i cb2, Value.slice co2 i cc2] 25)) = w3 at hh HB3 HBB ⊢
        have b0 := cell_of hh (i := 0) rfl
        have b1 := cell_of hh (i := 1) rfl
        have b2 := cell_of hh (i := 2) rfl
        have b3 := cell_of hh (i := 3) rfl
        have r0 := cell_of HB3.out.res (i := 0) rfl
        have r1 := cell_of HB3.out.res (i := 1) rfl
        have r2 := cell_of HB3.out.res (i := 2) rfl
        have r3 := cell_of HB3.out.res (i := 3) rfl
        have q0 := free_of HB3.out.res 0
        have q1 := free_of HB3.out.res 1
        have q2 := free_of HB3.out.res 2
        have q3 := free_of HB3.out.res 3
        have hwn : IntKind.i64.wrap ((n : Int) + 1) = (n : Int) + 1 := IntWalk.i64_in _ (by omega)
        have HN1 := hide hn1
        have HN2 := hide hn2
        have HK3 := hide hK3
        clear hn1 hn2 hK3 hiK hlt hl1 hl2
        go_region_held3 (fun X => X.cell? ⟨w2.heap.size, 0, none⟩ = some (.int .i64 n) ∧ X.cell? ⟨w2.heap.size, 1, none⟩ = some (.slice ao2 (n + 1) ca2) ∧ X.cell? ⟨w2.heap.size, 2, none⟩ = some (.slice bo2 i cb2) ∧ X.cell? ⟨w2.heap.size, 3, none⟩ = some (.slice co2 i cc2))
          (first | go_keep)
          (fail)
        all_goals
          rename_i hHeld
          clear hHeld
          go_wp2_with fail
          obtain ⟨p1, p2, p3, p4⟩ := built_end HLN2.out HGM.out HSZ.out HBB.out (by have := HB3.out; rwa [HLN2.out] at this) _ (.inr (.inl rfl))
          exact bodyPost_ret (results_cell3 Try.results24 _ _ w.heap.size 25 _ (0, 0) _ rfl p1 Try.underlying25 rfl (by kernel_rfl) _ _ rfl rfl) rfl ⟨_, _, _, _, _, _, _, _, _, _, _, _, rfl, p2, p3, p4⟩
end Go.Proofs.Ytmagigmcbegmiaa
