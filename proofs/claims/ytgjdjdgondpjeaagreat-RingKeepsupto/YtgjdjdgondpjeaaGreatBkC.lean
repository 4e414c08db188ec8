import Derived.Test.YtgjdjdgondpjeaaGreatFiB
import Derived.Test.YtgjdjdgondpjeaaGreatBkP
import Derived.Deep.RegionHeld3
import Derived.Deep.RegionWith
import Derived.Deep.Cut
import Derived.BigQuiet
import Derived.Deep.QuietTactic
import Derived.Deep.RegionLaw
import Derived.BigRegion
/- RingKeeps: the book in memory. -/
namespace Go.Proofs.YtgjdjdgondpjeaaGreat
open Go.RowKit Go.Lib
set_option linter.unusedVariables false
set_option linter.unusedSimpArgs false
structure Bk where
  ins : List Tk
  outs : List Tk
  nows : List Tk
  puts : List Bool
  gets : List Bool
def BOwn (W : World) (lo : Nat) (v : Value) (l : List Bool) : Prop := W.ownsRow lo 4 1 v l.length (l.map Value.bool)
structure BM (lo : Nat) (W : World) (B gN gU gG k : Nat) (vi vo : Value) (K : Bk) : Prop where
  box : W.heap[B]? = some (.cells #[vi, vo, .slice (some ⟨gN, 0, none⟩) k k, .slice (some ⟨gU, 0, none⟩) k k, .slice (some ⟨gG, 0, none⟩) k k] 60 (0, 0))
  lob : lo ≤ B
  oi : TOwn W lo vi K.ins
  oo : TOwn W lo vo K.outs
  on : TOwn W lo (.slice (some ⟨gN, 0, none⟩) k k) K.nows
  ou : BOwn W lo (.slice (some ⟨gU, 0, none⟩) k k) K.puts
  og : BOwn W lo (.slice (some ⟨gG, 0, none⟩) k k) K.gets
  len : K.nows.length = k ∧ K.puts.length = k ∧ K.gets.length = k ∧ gU ≠ gG
  di : ∀ g, vi.ownBlock = some g → g ≠ gN ∧ vo.ownBlock ≠ some g
  dq : ∀ g, vo.ownBlock = some g → g ≠ gN
theorem bown_row {W : World} {lo : Nat} {v : Value} {l : List Bool} (h : BOwn W lo v l) : ROwn (fun b : Bool => #[Value.bool b]) 1 4 W lo v l := by
  have e : ∀ l : List Bool, rCells (fun b : Bool => #[Value.bool b]) l = l.map Value.bool := fun l => by
    induction l with
    | nil => rfl
    | cons a l ih => rw [rCells_cons, ih]; rfl
  unfold ROwn
  rw [e]; exact h
theorem row_bown {W : World} {lo : Nat} {v : Value} {l : List Bool} (h : ROwn (fun b : Bool => #[Value.bool b]) 1 4 W lo v l) : BOwn W lo v l := by
  have e : ∀ l : List Bool, rCells (fun b : Bool => #[Value.bool b]) l = l.map Value.bool := fun l => by
    induction l with
    | nil => rfl
    | cons a l ih => rw [rCells_cons, ih]; rfl
  unfold ROwn at h
  rw [e] at h; exact h
theorem BOwn.put {w : World} {fr g n cap : Nat} {l : List Bool} (h : BOwn w fr (.slice (some ⟨g, 0, none⟩) n cap) l) {i : Nat} (hi : i < l.length) (x : Bool) : BOwn (w.setCell ⟨g, i, none⟩ (.bool x)) fr (.slice (some ⟨g, 0, none⟩) n cap) (l.set i x) := by
  have h1 := (bown_row h).set (A := fun b : Bool => #[Value.bool b]) (c := 1) (fun _ => rfl) (k := i) (j := 0) (y := x) (u := .bool x) (List.getElem?_eq_getElem hi) (by decide) rfl
  rw [Nat.mul_one, Nat.add_zero] at h1
  exact row_bown h1
theorem BOwn.cell {w : World} {fr g n cap : Nat} {l : List Bool} (h : BOwn w fr (.slice (some ⟨g, 0, none⟩) n cap) l) {i : Nat} {x : Bool} (hi : l[i]? = some x) : w.cell? ⟨g, i, none⟩ = some (.bool x) := by
  have h1 := (bown_row h).cell (A := fun b : Bool => #[Value.bool b]) (c := 1) (fun _ => rfl) hi 0 (.bool x) rfl
  rw [Nat.mul_one, Nat.add_zero] at h1
  exact h1
theorem BOwn.made (w : World) (m : Nat) (hm : m ≤ 1024) : BOwn (w.alloc (.cells (madeCells #[.bool false] m) 4)) w.heap.size (.slice (some ⟨w.heap.size, 0, none⟩) m m) (List.replicate m false) := by
  have e : (madeCells #[.bool false] m).toList = (List.replicate m false).map Value.bool := by
    apply List.ext_getElem?
    intro i
    simp [madeCells]
    by_cases hi : i < m
    · simp [hi, Nat.mod_one]
    · simp [hi]
  refine ⟨by simp, .inr ⟨w.heap.size, m, madeCells #[.bool false] m, by rw [List.length_replicate], Nat.le_refl _, heap_new _ _, by rw [List.length_replicate]; exact Nat.le_refl _, by unfold maxLen; omega, ?_, ?_⟩⟩
  · rw [← Array.length_toList, e]; simp
  · rw [e, List.take_of_length_le (by simp)]
section
variable {lo : Nat} {W W' : World} {B gN gU gG k : Nat} {vi vo : Value} {K : Bk}
theorem keepT {x n z : Nat} {t t' : TypeId} {v : Value} {xs : List Value} {cs : Array Value} (ho : W.ownsRow lo t z v n xs) (c : Chg (fun q => q = x) W W') (hx : W.heap[x]? = some (.cells cs t' (0, 0))) (ht : t ≠ t') : W'.ownsRow lo t z v n xs :=
  own_stayR ho (fun g hg => by
    obtain ⟨_, cs', h3⟩ := own_tyz ho hg
    exact c.block _ (lt_of_heap h3) (fun e => ne_ty h3 hx ht e))
theorem keepB {x n z : Nat} {t : TypeId} {v : Value} {xs : List Value} (ho : W.ownsRow lo t z v n xs) (c : Chg (fun q => q = x) W W') (hx : v.ownBlock ≠ some x) : W'.ownsRow lo t z v n xs :=
  own_stayR ho (fun g hg => by
    obtain ⟨_, cs', h3⟩ := own_tyz ho hg
    exact c.block _ (lt_of_heap h3) (fun e => hx (by rw [hg, e])))
theorem BM.kp (h : BM lo W B gN gU gG k vi vo K) (hk : Kp W W') : BM lo W' B gN gU gG k vi vo K :=
  ⟨hk.2 _ _ _ h.box (by unfold pT; decide), h.lob, hk.row h.oi (by unfold pT; decide), hk.row h.oo (by unfold pT; decide), hk.row h.on (by unfold pT; decide), hk.row h.ou (by unfold pT; decide), hk.row h.og (by unfold pT; decide), h.len, h.di, h.dq⟩
theorem BM.cells (h : BM lo W B gN gU gG k vi vo K) : W.cell? ⟨B, 0, none⟩ = some vi ∧ W.cell? ⟨B, 1, none⟩ = some vo ∧ W.cell? ⟨B, 2, none⟩ = some (.slice (some ⟨gN, 0, none⟩) k k) ∧ W.cell? ⟨B, 3, none⟩ = some (.slice (some ⟨gU, 0, none⟩) k k) ∧ W.cell? ⟨B, 4, none⟩ = some (.slice (some ⟨gG, 0, none⟩) k k) :=
  ⟨cell_of h.box rfl, cell_of h.box rfl, cell_of h.box rfl, cell_of h.box rfl, cell_of h.box rfl⟩
def bAt (l : List Bool) (i : Nat) : Bool := l[i]?.getD false
theorem BM.cellU (h : BM lo W B gN gU gG k vi vo K) {i : Nat} (hi : i < k) : W.cell? ⟨gU, i, none⟩ = some (.bool (bAt K.puts i)) ∧ W.cell? ⟨gG, i, none⟩ = some (.bool (bAt K.gets i)) :=
  ⟨h.ou.cell (by simp [bAt, List.getElem?_eq_getElem (show i < K.puts.length by rw [h.len.2.1]; exact hi)]), h.og.cell (by simp [bAt, List.getElem?_eq_getElem (show i < K.gets.length by rw [h.len.2.2.1]; exact hi)])⟩
theorem BM.setU (h : BM lo W B gN gU gG k vi vo K) {i : Nat} (hi : i < k) (x : Bool) : BM lo (W.setCell ⟨gU, i, none⟩ (.bool x)) B gN gU gG k vi vo { K with puts := K.puts.set i x } ∧ Chg (fun q => q = gU) W (W.setCell ⟨gU, i, none⟩ (.bool x)) := by
  have c : Chg (fun q => q = gU) W (W.setCell ⟨gU, i, none⟩ (.bool x)) := (Chg.refl (fun q => q = gU) W).putq _ _
  obtain ⟨_, cs, ht⟩ := own_tyz h.ou rfl
  exact ⟨⟨c.heap h.box (fun e => ne_ty h.box ht (by decide) e), h.lob, keepT h.oi c ht (by decide), keepT h.oo c ht (by decide), keepT h.on c ht (by decide), h.ou.put (by rw [h.len.2.1]; exact hi) x, keepB h.og c (fun e => h.len.2.2.2 (Option.some.inj e).symm), by simp [h.len], h.di, h.dq⟩, c⟩
theorem BM.setG (h : BM lo W B gN gU gG k vi vo K) {i : Nat} (hi : i < k) (x : Bool) : BM lo (W.setCell ⟨gG, i, none⟩ (.bool x)) B gN gU gG k vi vo { K with gets := K.gets.set i x } ∧ Chg (fun q => q = gG) W (W.setCell ⟨gG, i, none⟩ (.bool x)) := by
  have c : Chg (fun q => q = gG) W (W.setCell ⟨gG, i, none⟩ (.bool x)) := (Chg.refl (fun q => q = gG) W).putq _ _
  obtain ⟨_, cs, ht⟩ := own_tyz h.og rfl
  exact ⟨⟨c.heap h.box (fun e => ne_ty h.box ht (by decide) e), h.lob, keepT h.oi c ht (by decide), keepT h.oo c ht (by decide), keepT h.on c ht (by decide), keepB h.ou c (fun e => h.len.2.2.2 (Option.some.inj e)), h.og.put (by rw [h.len.2.2.1]; exact hi) x, by simp [h.len], h.di, h.dq⟩, c⟩
theorem BM.setN (h : BM lo W B gN gU gG k vi vo K) {i : Nat} (hi : i < k) (x : Tk) : BM lo ((W.setCell ⟨gN, i * 2, none⟩ (.int .u64 x.1)).setCell ⟨gN, i * 2 + 1, none⟩ (.int .u64 x.2)) B gN gU gG k vi vo { K with nows := K.nows.set i x } ∧ Chg (fun q => q = gN) W ((W.setCell ⟨gN, i * 2, none⟩ (.int .u64 x.1)).setCell ⟨gN, i * 2 + 1, none⟩ (.int .u64 x.2)) := by
  have c : Chg (fun q => q = gN) W ((W.setCell ⟨gN, i * 2, none⟩ (.int .u64 x.1)).setCell ⟨gN, i * 2 + 1, none⟩ (.int .u64 x.2)) := ((Chg.refl (fun q => q = gN) W).putq _ _).putq _ _
  obtain ⟨_, cs, ht⟩ := own_tyz h.on rfl
  exact ⟨⟨c.heap h.box (fun e => ne_ty h.box ht (by decide) e), h.lob, keepB h.oi c (fun e => (h.di _ e).1 rfl), keepB h.oo c (fun e => h.dq _ e rfl), h.on.put (by rw [h.len.1]; exact hi) x, keepT h.ou c ht (by decide), keepT h.og c ht (by decide), by simp [h.len], h.di, h.dq⟩, c⟩
/-- The first two fields written. -/
theorem BM.setI (h : BM lo W B gN gU gG k vi vo K) {v : Value} {l : List Tk} (ho : TOwn W lo v l) (hd : ∀ g, v.ownBlock = some g → g ≠ gN ∧ vo.ownBlock ≠ some g) : BM lo (W.setCell ⟨B, 0, none⟩ v) B gN gU gG k v vo { K with ins := l } ∧ Chg (fun q => q = B) W (W.setCell ⟨B, 0, none⟩ v) := by
  have c : Chg (fun q => q = B) W (W.setCell ⟨B, 0, none⟩ v) := (Chg.refl (fun q => q = B) W).putq _ _
  exact ⟨⟨heap_set h.box v, h.lob, keepT ho c h.box (by decide), keepT h.oo c h.box (by decide), keepT h.on c h.box (by decide), keepT h.ou c h.box (by decide), keepT h.og c h.box (by decide), h.len, hd, h.dq⟩, c⟩
theorem BM.setO (h : BM lo W B gN gU gG k vi vo K) {v : Value} {l : List Tk} (ho : TOwn W lo v l) (hd : ∀ g, v.ownBlock = some g → g ≠ gN ∧ vi.ownBlock ≠ some g) : BM lo (W.setCell ⟨B, 1, none⟩ v) B gN gU gG k vi v { K with outs := l } ∧ Chg (fun q => q = B) W (W.setCell ⟨B, 1, none⟩ v) := by
  have c : Chg (fun q => q = B) W (W.setCell ⟨B, 1, none⟩ v) := (Chg.refl (fun q => q = B) W).putq _ _
  exact ⟨⟨heap_set h.box v, h.lob, keepT h.oi c h.box (by decide), keepT ho c h.box (by decide), keepT h.on c h.box (by decide), keepT h.ou c h.box (by decide), keepT h.og c h.box (by decide), h.len, fun g hg => ⟨(h.di g hg).1, fun e => (hd g e).2 hg⟩, fun g hg => (hd g hg).1⟩, c⟩
end
end Go.Proofs.YtgjdjdgondpjeaaGreat

/- RingKeeps: the table and the book side by side. -/
namespace Go.Proofs.YtgjdjdgondpjeaaGreat
open Go.RowKit Go.Lib
set_option linter.unusedVariables false
set_option linter.unusedSimpArgs false
section
variable {w W W' : World} {X ab gc Y Z k : Nat} {tb : Array Value} {lv : Value} {s : Ast} {gP cP gH cH : Nat} {qs ps : Nat → Nat} {vs : Nat → Value} {gs : Nat → Bool} {ds : Nat → Hs} {b C KK : Nat} {row : List Tk} {H : Int} {B gN gU gG : Nat} {vi vo : Value} {K : Bk}
theorem RW.turn {x : Nat} {cs : Array Value} {t : TypeId} (h : RW w W X ab gc Y Z k tb lv s gP cP gH cH qs ps vs gs ds b C KK row H) (c : Chg (fun q => q = x) W W') (hx : W.heap[x]? = some (.cells cs t (0, 0))) (hlo : w.heap.size ≤ x) (ht : t = 60 ∨ t = 4 ∨ (t = 42 ∧ ∀ i, i < k → (vs i).ownBlock ≠ some x)) : RW w W' X ab gc Y Z k tb lv s gP cP gH cH qs ps vs gs ds b C KK row H :=
  h.far c (fun q hq => by
    subst hq
    refine ⟨hlo, fun _ => ⟨cs, t, hx, ?_⟩⟩
    rcases ht with rfl | rfl | ⟨rfl, hv⟩
    · exact ⟨by decide, by decide, by decide, by unfold pT; decide, fun e => absurd e (by decide)⟩
    · exact ⟨by decide, by decide, by decide, by unfold pT; decide, fun e => absurd e (by decide)⟩
    · exact ⟨by decide, by decide, by decide, by unfold pT; decide, fun _ => hv⟩)
structure BS (w W : World) (X ab gc Y Z k : Nat) (tb : Array Value) (lv : Value) (s : Ast) (gP cP gH cH : Nat) (qs ps : Nat → Nat) (vs : Nat → Value) (gs : Nat → Bool) (ds : Nat → Hs) (b C KK : Nat) (row : List Tk) (H : Int) (B gN gU gG : Nat) (vi vo : Value) (K : Bk) : Prop where
  rw : RW w W X ab gc Y Z k tb lv s gP cP gH cH qs ps vs gs ds b C KK row H
  bm : BM w.heap.size W B gN gU gG k vi vo K
  dis : ∀ q, (vi.ownBlock = some q ∨ vo.ownBlock = some q ∨ q = gN) → ∀ i, i < k → (vs i).ownBlock ≠ some q
variable (h : BS w W X ab gc Y Z k tb lv s gP cP gH cH qs ps vs gs ds b C KK row H B gN gU gG vi vo K)
include h
theorem BS.below (hb : Below W.heap.size W W') : BS w W' X ab gc Y Z k tb lv s gP cP gH cH qs ps vs gs ds b C KK row H B gN gU gG vi vo K :=
  ⟨h.rw.below hb, h.bm.kp (Kp.of_below hb), h.dis⟩
theorem BS.act {lv' : Value} {s' : Ast} {vs' : Nat → Value} {gs' : Nat → Bool} {ds' : Nat → Hs} {KK' : Nat} {row' : List Tk} {H' : Int} (hr : RW w W' X ab gc Y Z k tb lv' s' gP cP gH cH qs ps vs' gs' ds' b C KK' row' H') (hk : Kp W W') (hv : VF W.heap.size vs vs') : BS w W' X ab gc Y Z k tb lv' s' gP cP gH cH qs ps vs' gs' ds' b C KK' row' H' B gN gU gG vi vo K := by
  refine ⟨hr, h.bm.kp hk, fun q hq i hi e => ?_⟩
  have hlt : q < W.heap.size := by
    rcases hq with z | z | z
    · exact (h.bm.oi.lt q z).2
    · exact (h.bm.oo.lt q z).2
    · subst z; exact (h.bm.on.lt q rfl).2
  rcases hv i q e with z | z
  · exact h.dis q hq i hi z
  · omega
theorem BS.setU {i : Nat} (hi : i < k) (x : Bool) : BS w (W.setCell ⟨gU, i, none⟩ (.bool x)) X ab gc Y Z k tb lv s gP cP gH cH qs ps vs gs ds b C KK row H B gN gU gG vi vo { K with puts := K.puts.set i x } := by
  obtain ⟨hb, c⟩ := h.bm.setU hi x
  obtain ⟨hl, cs, ht⟩ := own_tyz h.bm.ou rfl
  exact ⟨h.rw.turn c ht hl (.inr (.inl rfl)), hb, h.dis⟩
theorem BS.setG {i : Nat} (hi : i < k) (x : Bool) : BS w (W.setCell ⟨gG, i, none⟩ (.bool x)) X ab gc Y Z k tb lv s gP cP gH cH qs ps vs gs ds b C KK row H B gN gU gG vi vo { K with gets := K.gets.set i x } := by
  obtain ⟨hb, c⟩ := h.bm.setG hi x
  obtain ⟨hl, cs, ht⟩ := own_tyz h.bm.og rfl
  exact ⟨h.rw.turn c ht hl (.inr (.inl rfl)), hb, h.dis⟩
theorem BS.setN {i : Nat} (hi : i < k) (x : Tk) : BS w ((W.setCell ⟨gN, i * 2, none⟩ (.int .u64 x.1)).setCell ⟨gN, i * 2 + 1, none⟩ (.int .u64 x.2)) X ab gc Y Z k tb lv s gP cP gH cH qs ps vs gs ds b C KK row H B gN gU gG vi vo { K with nows := K.nows.set i x } := by
  obtain ⟨hb, c⟩ := h.bm.setN hi x
  obtain ⟨hl, cs, ht⟩ := own_tyz h.bm.on rfl
  exact ⟨h.rw.turn c ht hl (.inr (.inr ⟨rfl, fun p hp => h.dis gN (.inr (.inr rfl)) p hp⟩)), hb, h.dis⟩
theorem BS.setI {v : Value} {l : List Tk} (ho : TOwn W w.heap.size v l) (hd : ∀ g, v.ownBlock = some g → g ≠ gN ∧ vo.ownBlock ≠ some g) (hv : ∀ g, v.ownBlock = some g → ∀ i, i < k → (vs i).ownBlock ≠ some g) : BS w (W.setCell ⟨B, 0, none⟩ v) X ab gc Y Z k tb lv s gP cP gH cH qs ps vs gs ds b C KK row H B gN gU gG v vo { K with ins := l } := by
  obtain ⟨hb, c⟩ := h.bm.setI ho hd
  refine ⟨h.rw.turn c h.bm.box h.bm.lob (.inl rfl), hb, fun q hq => ?_⟩
  rcases hq with z | z
  · exact hv q z
  · exact h.dis q (.inr z)
/-- A new list in the place of those that went in. -/
theorem BS.newI {W1 : World} {v : Value} {l : List Tk} (hb : Below W.heap.size W W1) (ho : TOwn W1 W.heap.size v l) : BS w (W1.setCell ⟨B, 0, none⟩ v) X ab gc Y Z k tb lv s gP cP gH cH qs ps vs gs ds b C KK row H B gN gU gG v vo { K with ins := l } := by
  have hs := h.rw.rm.bel.size
  refine (h.below hb).setI (own_base ho hs) (fun g hg => ?_) (fun g hg i hi e => ?_)
  · have h1 := (ho.lt g hg).1
    refine ⟨fun e => ?_, fun e => ?_⟩
    · have := (h.bm.on.lt gN rfl).2; omega
    · have := (h.bm.oo.lt g e).2; omega
  · have h1 := (ho.lt g hg).1
    have := ((h.rw.rm.hd i hi).2.lt g e).2
    omega
/-- 'b.in = append(b.in, x)'. -/
theorem BS.appI {wb : World} {o : Obj} {g6 c6 : Nat} {x : Tk} (hown : wb.ownsRow w.heap.size 42 2 (.slice (some ⟨g6, 0, none⟩) (K.ins.length + 1) c6) (K.ins.length + 1) (tCells K.ins ++ [.int .u64 x.1, .int .u64 x.2])) (hgr : (W.alloc o).grownBy wb vi.ownBlock) (hat : vi.ownBlock = some g6 ∨ g6 = W.heap.size + 1) :
    BS w (wb.setCell ⟨B, 0, none⟩ (.slice (some ⟨g6, 0, none⟩) (K.ins.length + 1) c6)) X ab gc Y Z k tb lv s gP cP gH cH qs ps vs gs ds b C KK row H B gN gU gG (.slice (some ⟨g6, 0, none⟩) (K.ins.length + 1) c6) vo { K with ins := K.ins ++ [x] } := by
  have c : Chg (fun q => vi.ownBlock = some q) W wb := ((Chg.refl _ W).alloc o).grown hgr (fun q e => .inl e)
  have hr := h.rw.far c (fun q hq => ⟨(h.bm.oi.lt q hq).1, fun _ => by
    obtain ⟨_, cs, ht⟩ := own_tyz h.bm.oi hq
    exact ⟨cs, _, ht, by decide, by decide, by decide, by unfold pT; decide, fun _ i hi => h.dis q (.inl hq) i hi⟩⟩)
  have kt : ∀ {n z : Nat} {t : TypeId} {v : Value} {xs : List Value}, W.ownsRow w.heap.size t z v n xs → t ≠ 42 → wb.ownsRow w.heap.size t z v n xs := fun ho ht => own_stayR ho (fun g hg => by
    obtain ⟨_, cs', h3⟩ := own_tyz ho hg
    refine c.block _ (lt_of_heap h3) (fun e => ?_)
    obtain ⟨_, cs, h4⟩ := own_tyz h.bm.oi e
    exact ne_ty h3 h4 ht rfl)
  have hbox := c.heap h.bm.box (fun e => by
    obtain ⟨_, cs, h4⟩ := own_tyz h.bm.oi e
    exact ne_ty h.bm.box h4 (by decide) rfl)
  have ho : TOwn wb w.heap.size (.slice (some ⟨g6, 0, none⟩) (K.ins.length + 1) c6) (K.ins ++ [x]) := by
    unfold TOwn
    rw [List.length_append, tCells_snoc]
    exact hown
  have hoo : TOwn wb w.heap.size vo K.outs := own_stayR h.bm.oo (fun g hg => c.block _ (h.bm.oo.lt g hg).2 (fun e => (h.bm.di g e).2 hg))
  have hon : TOwn wb w.heap.size (.slice (some ⟨gN, 0, none⟩) k k) K.nows := own_stayR h.bm.on (fun g hg => c.block _ (h.bm.on.lt g hg).2 (fun e => by cases hg; exact (h.bm.di gN e).1 rfl))
  have hou := kt h.bm.ou (by decide)
  have hog := kt h.bm.og (by decide)
  have c2 : Chg (fun q => q = B) wb (wb.setCell ⟨B, 0, none⟩ (.slice (some ⟨g6, 0, none⟩) (K.ins.length + 1) c6)) := (Chg.refl (fun q => q = B) wb).putq _ _
  have fresh : ∀ g, g6 = g → vi.ownBlock = some g ∨ g = W.heap.size + 1 := fun g e => by subst e; exact hat
  have lN := (h.bm.on.lt gN rfl).2
  refine ⟨hr.turn c2 hbox h.bm.lob (.inl rfl), ⟨heap_set hbox _, h.bm.lob, keepT ho c2 hbox (by decide), keepT hoo c2 hbox (by decide), keepT hon c2 hbox (by decide), keepT hou c2 hbox (by decide), keepT hog c2 hbox (by decide), h.bm.len, fun g hg => ?_, h.bm.dq⟩, fun q hq => ?_⟩
  · rcases fresh g (Option.some.inj hg) with e | e
    · exact h.bm.di g e
    · refine ⟨by omega, fun z => ?_⟩
      have := (h.bm.oo.lt g z).2
      omega
  · rcases hq with z | z
    · rcases fresh q (Option.some.inj z) with e | e
      · exact h.dis q (.inl e)
      · intro i hi z2
        have := ((h.rw.rm.hd i hi).2.lt q z2).2
        omega
    · exact h.dis q (.inr z)
/-- 'b.out = append(b.out, x)'. -/
theorem BS.appO {wb : World} {o : Obj} {g6 c6 : Nat} {x : Tk} (hown : wb.ownsRow w.heap.size 42 2 (.slice (some ⟨g6, 0, none⟩) (K.outs.length + 1) c6) (K.outs.length + 1) (tCells K.outs ++ [.int .u64 x.1, .int .u64 x.2])) (hgr : (W.alloc o).grownBy wb vo.ownBlock) (hat : vo.ownBlock = some g6 ∨ g6 = W.heap.size + 1) :
    BS w (wb.setCell ⟨B, 1, none⟩ (.slice (some ⟨g6, 0, none⟩) (K.outs.length + 1) c6)) X ab gc Y Z k tb lv s gP cP gH cH qs ps vs gs ds b C KK row H B gN gU gG vi (.slice (some ⟨g6, 0, none⟩) (K.outs.length + 1) c6) { K with outs := K.outs ++ [x] } := by
  have c : Chg (fun q => vo.ownBlock = some q) W wb := ((Chg.refl _ W).alloc o).grown hgr (fun q e => .inl e)
  have hr := h.rw.far c (fun q hq => ⟨(h.bm.oo.lt q hq).1, fun _ => by
    obtain ⟨_, cs, ht⟩ := own_tyz h.bm.oo hq
    exact ⟨cs, _, ht, by decide, by decide, by decide, by unfold pT; decide, fun _ i hi => h.dis q (.inr (.inl hq)) i hi⟩⟩)
  have kt : ∀ {n z : Nat} {t : TypeId} {v : Value} {xs : List Value}, W.ownsRow w.heap.size t z v n xs → t ≠ 42 → wb.ownsRow w.heap.size t z v n xs := fun ho ht => own_stayR ho (fun g hg => by
    obtain ⟨_, cs', h3⟩ := own_tyz ho hg
    refine c.block _ (lt_of_heap h3) (fun e => ?_)
    obtain ⟨_, cs, h4⟩ := own_tyz h.bm.oo e
    exact ne_ty h3 h4 ht rfl)
  have hbox := c.heap h.bm.box (fun e => by
    obtain ⟨_, cs, h4⟩ := own_tyz h.bm.oo e
    exact ne_ty h.bm.box h4 (by decide) rfl)
  have ho : TOwn wb w.heap.size (.slice (some ⟨g6, 0, none⟩) (K.outs.length + 1) c6) (K.outs ++ [x]) := by
    unfold TOwn
    rw [List.length_append, tCells_snoc]
    exact hown
  have hoi : TOwn wb w.heap.size vi K.ins := own_stayR h.bm.oi (fun g hg => c.block _ (h.bm.oi.lt g hg).2 (fun e => (h.bm.di g hg).2 e))
  have hon : TOwn wb w.heap.size (.slice (some ⟨gN, 0, none⟩) k k) K.nows := own_stayR h.bm.on (fun g hg => c.block _ (h.bm.on.lt g hg).2 (fun e => by cases hg; exact h.bm.dq gN e rfl))
  have hou := kt h.bm.ou (by decide)
  have hog := kt h.bm.og (by decide)
  have c2 : Chg (fun q => q = B) wb (wb.setCell ⟨B, 1, none⟩ (.slice (some ⟨g6, 0, none⟩) (K.outs.length + 1) c6)) := (Chg.refl (fun q => q = B) wb).putq _ _
  have fresh : ∀ g, g6 = g → vo.ownBlock = some g ∨ g = W.heap.size + 1 := fun g e => by subst e; exact hat
  have lN := (h.bm.on.lt gN rfl).2
  refine ⟨hr.turn c2 hbox h.bm.lob (.inl rfl), ⟨heap_set hbox _, h.bm.lob, keepT hoi c2 hbox (by decide), keepT ho c2 hbox (by decide), keepT hon c2 hbox (by decide), keepT hou c2 hbox (by decide), keepT hog c2 hbox (by decide), h.bm.len, fun g hg => ?_, fun g hg => ?_⟩, fun q hq => ?_⟩
  · refine ⟨(h.bm.di g hg).1, fun z => ?_⟩
    rcases fresh g (Option.some.inj z) with e | e
    · exact (h.bm.di g hg).2 e
    · have := (h.bm.oi.lt g hg).2
      omega
  · rcases fresh g (Option.some.inj hg) with e | e
    · exact h.bm.dq g e
    · omega
  · rcases hq with z | z | z
    · exact h.dis q (.inl z)
    · rcases fresh q (Option.some.inj z) with e | e
      · exact h.dis q (.inr (.inl e))
      · intro i hi z2
        have := ((h.rw.rm.hd i hi).2.lt q z2).2
        omega
    · exact h.dis q (.inr (.inr z))
end
end Go.Proofs.YtgjdjdgondpjeaaGreat

/- RingKeeps: enter, left. -/
namespace Go.Proofs.YtgjdjdgondpjeaaGreat
open Go.RowKit Go.Lib
set_option linter.unusedVariables false
set_option linter.unusedSimpArgs false
section
variable {w W : World} {X ab gc Y Z k : Nat} {tb : Array Value} {lv : Value} {s : Ast} {gP cP gH cH : Nat} {qs ps : Nat → Nat} {vs : Nat → Value} {gs : Nat → Bool} {ds : Nat → Hs} {b C KK : Nat} {row : List Tk} {H : Int} {B gN gU gG : Nat} {vi vo : Value} {K : Bk}
set_option maxRecDepth 100000 in
set_option maxHeartbeats 4000000 in
theorem enter_quiet (h : BS w W X ab gc Y Z k tb lv s gP cP gH cH qs ps vs gs ds b C KK row H B gN gU gG vi vo K) {i : Nat} (hi : i < k) (kd who t1 t2 e : Int) (h1 : ¬ (kd = 1 ∧ e = 0)) (h2 : ¬ (kd = 2 ∧ e = 0)) (hq : (ds i).ph ≠ 0 ∨ (bAt K.puts i = false ∧ bAt K.gets i = false)) :
    Calls Tryz.prog 18 #[.pointer (some ⟨B, 0, none⟩), .pointer (some ⟨qs i, 0, none⟩), .int .i64 i, .agg #[.int .i64 kd, .int .i64 who, .int .u64 t1, .int .u64 t2], .int .i64 e] W fun r w' => r = .returned (.bool true) ∧ Below W.heap.size W w' := by
  obtain ⟨w0, hw0⟩ : ∃ w0, w0 = W.alloc (.cells #[.int .i64 kd, .int .i64 who, .int .u64 t1, .int .u64 t2] 44) := ⟨_, rfl⟩
  have hb0 : Below W.heap.size W w0 := by rw [hw0]; exact below_alloc (Below.refl _ _) _
  have hz0 : w0.heap[W.heap.size]? = some (.cells #[.int .i64 kd, .int .i64 who, .int .u64 t1, .int .u64 t2] 44 (0, 0)) := by rw [hw0]; exact heap_new _ _
  have HB0 := hide hb0
  have HOV := hide (fun V (kb : Below w0.heap.size w0 V) => rm_over ((h.below hb0).rw.below kb).rm hi)
  obtain ⟨a0, a1, a2, a3, a4⟩ := (h.below hb0).bm.cells
  obtain ⟨u0, g0⟩ := (h.below hb0).bm.cellU hi
  have z0 := cell_of hz0 (i := 0) rfl
  have k64 := h.rw.rm.n64
  have hii : (i : Int) < (k : Int) := by omega
  have HQ := hide hq
  clear h hb0 hz0 hq
  go_enter Tryz.func18, Tryz.ntmps18
  go_upto_region 1 with fail
  rw [← hw0]
  clear hw0
  by_cases hph : (ds i).ph = 0
  · obtain ⟨hu, hg⟩ := HQ.out.resolve_left (fun q => q hph)
    rw [hu] at u0
    rw [hg] at g0
    rw [show decide ((ds i).ph = 0) = true by simpa using hph] at HOV
    clear hph HQ hu hg
    by_cases e0 : e = 0
    · subst e0
      have k1 : (kd == 1) = false := by simpa using fun q => h1 ⟨q, rfl⟩
      have k2 : (kd == 2) = false := by simpa using fun q => h2 ⟨q, rfl⟩
      clear h1 h2
      go_wp2_with (go_at_call 22; refine (HOV.out _ (Below.refl _ _)).mono ?_; rintro e w7 ⟨rfl, rfl⟩)
      go_ret
      exact ⟨rfl, HB0.out⟩
    · have e1 : (e == 0) = false := by simpa using e0
      clear h1 h2 e0
      go_wp2_with (go_at_call 22; refine (HOV.out _ (Below.refl _ _)).mono ?_; rintro e w7 ⟨rfl, rfl⟩)
      all_goals
        go_ret
        exact ⟨rfl, HB0.out⟩
  · rw [show decide ((ds i).ph = 0) = false by simpa using hph] at HOV
    clear hph HQ
    by_cases e0 : e = 0
    · subst e0
      have k1 : (kd == 1) = false := by simpa using fun q => h1 ⟨q, rfl⟩
      have k2 : (kd == 2) = false := by simpa using fun q => h2 ⟨q, rfl⟩
      clear h1 h2
      go_wp2_with (go_at_call 22; refine (HOV.out _ (Below.refl _ _)).mono ?_; rintro e w7 ⟨rfl, rfl⟩)
      go_ret
      exact ⟨rfl, HB0.out⟩
    · have e1 : (e == 0) = false := by simpa using e0
      clear h1 h2 e0
      go_wp2_with (go_at_call 22; refine (HOV.out _ (Below.refl _ _)).mono ?_; rintro e w7 ⟨rfl, rfl⟩)
      all_goals
        go_ret
        exact ⟨rfl, HB0.out⟩
theorem BM.boxA {lo : Nat} {W wb : World} {B gN gU gG k : Nat} {vi vo v : Value} {K : Bk} {o : Obj} {n z : Nat} {xs : List Value} (h : BM lo W B gN gU gG k vi vo K) (hv : W.ownsRow lo 42 z v n xs) (hgr : (W.alloc o).grownBy wb v.ownBlock) : wb.heap[B]? = some (.cells #[vi, vo, .slice (some ⟨gN, 0, none⟩) k k, .slice (some ⟨gU, 0, none⟩) k k, .slice (some ⟨gG, 0, none⟩) k k] 60 (0, 0)) ∧ ∀ (g : Nat) (cs : Array Value) (t : TypeId), t ≠ 42 → W.heap[g]? = some (.cells cs t (0, 0)) → wb.heap[g]? = some (.cells cs t (0, 0)) := by
  have c : Chg (fun q => v.ownBlock = some q) W wb := ((Chg.refl _ W).alloc o).grown hgr (fun q e => .inl e)
  have hk : ∀ (g : Nat) (cs : Array Value) (t : TypeId), t ≠ 42 → W.heap[g]? = some (.cells cs t (0, 0)) → wb.heap[g]? = some (.cells cs t (0, 0)) := fun g cs t ht hh => c.heap hh (fun e => by
    obtain ⟨_, cs, h4⟩ := own_tyz hv e
    exact ne_ty hh h4 ht rfl)
  exact ⟨hk _ _ _ (by decide) h.box, hk⟩
set_option maxRecDepth 100000 in
set_option maxHeartbeats 4000000 in
theorem enter_ins (h : BS w W X ab gc Y Z k tb lv s gP cP gH cH qs ps vs gs ds b C KK row H B gN gU gG vi vo K) {i : Nat} (hi : i < k) (who t1 t2 : Int) (hq : (ds i).ph ≠ 0) (hl : K.ins.length ≤ 4194304) :
    Calls Tryz.prog 18 #[.pointer (some ⟨B, 0, none⟩), .pointer (some ⟨qs i, 0, none⟩), .int .i64 i, .agg #[.int .i64 1, .int .i64 who, .int .u64 t1, .int .u64 t2], .int .i64 0] W fun r w' => r = .returned (.bool true) ∧ ∃ vi', BS w w' X ab gc Y Z k tb lv s gP cP gH cH qs ps vs gs ds b C KK row H B gN gU gG vi' vo ⟨K.ins ++ [(t1, t2)], K.outs, K.nows.set i (t1, t2), K.puts.set i true, K.gets⟩ := by
  obtain ⟨w0, hw0⟩ : ∃ w0, w0 = W.alloc (.cells #[.int .i64 1, .int .i64 who, .int .u64 t1, .int .u64 t2] 44) := ⟨_, rfl⟩
  have hb0 : Below W.heap.size W w0 := by rw [hw0]; exact below_alloc (Below.refl _ _) _
  have hz0 : w0.heap[W.heap.size]? = some (.cells #[.int .i64 1, .int .i64 who, .int .u64 t1, .int .u64 t2] 44 (0, 0)) := by rw [hw0]; exact heap_new _ _
  have HZ0 := hide hz0
  have HBS := hide (h.below hb0)
  obtain ⟨a0, a1, a2, a3, a4⟩ := HBS.out.bm.cells
  obtain ⟨u0, g0⟩ := HBS.out.bm.cellU hi
  have z0 := cell_of hz0 (i := 0) rfl; have z2 := cell_of hz0 (i := 2) rfl; have z3 := cell_of hz0 (i := 3) rfl
  have k64 := h.rw.rm.n64
  have hii : (i : Int) < (k : Int) := by omega
  have HQ := hide hq
  obtain ⟨av, cv, hvi⟩ := owns_shape h.bm.oi
  subst hvi
  obtain ⟨i0, hi0, hz0', hz1, hz2⟩ := info_parts Tryz.info42
  have hlo := HBS.out.rw.rm.bel.size
  clear h hb0 hz0 hq
  go_enter Tryz.func18, Tryz.ntmps18
  go_upto_region 1 with fail
  rw [← hw0]
  clear hw0
  go_upto_region 2 with fail
  generalize W.heap.size = ob at HZ0 z0 z2 z3 ⊢
  have a0x : (w0.alloc (.cells #[.int .u64 t1, .int .u64 t2] 42)).cell? ⟨B, 0, none⟩ = some (.slice av K.ins.length cv) := (below_cell (below_alloc (Below.refl _ _) _) (block_of_cell a0)).trans a0
  go_region_law
    ((refine step_append_lies _ (by rfl) _ _ _ (by rfl) w.heap.size 42 i0 (.agg #[.int .u64 0, .int .u64 0]) 2 16 Tryz.underlying24 hi0 hz0' hz1 hz2 rfl (by omega) (.slice av K.ins.length cv) K.ins.length (tCells K.ins) (by rfl) (by first | exact (HBS.out.bm.oi.alloc _).drew | exact HBS.out.bm.oi.drew.alloc _) ⟨w0.heap.size, 0, none⟩ 1 1 [.int .u64 t1, .int .u64 t2] (by rfl) (by rfl) (by first | exact two_at' w0 _ _ _ | exact two_at w0.drew _ _ _) (by simp [Value.oneCell']) (by omega) (by unfold maxLen; omega) (by omega) (by simp; omega) (w0.heap.size + 1) (by simp) ?_; intro g6 c6 w6 hown hgr hat _; obtain ⟨hbx6, hk6⟩ := (HBS.out.below (below_drew (Below.refl _ _))).bm.boxA (HBS.out.below (below_drew (Below.refl _ _))).bm.oi (show (w0.drew.alloc (.cells #[.int .u64 t1, .int .u64 t2] 42)).grownBy w6 _ from hgr); have HBX6 := hide hbx6; have q0 := cell_of hbx6 (i := 0) rfl; have qf := free_of hbx6 0; have HZ6 := hide (hk6 _ _ _ (by decide) (show w0.drew.heap[ob]? = _ from HZ0.out)); have HB6 := hide ((HBS.out.below (below_drew (Below.refl _ _))).appI (x := (t1, t2)) hown (show (w0.drew.alloc (.cells #[.int .u64 t1, .int .u64 t2] 42)).grownBy w6 _ from hgr) (by simpa using hat)); clear hown hgr hat hbx6 hk6))
  all_goals
    obtain ⟨w7, hw7⟩ : ∃ w7, w7 = w6.setCell ⟨B, 0, none⟩ (.slice (some ⟨g6, 0, none⟩) (K.ins.length + 1) c6) := ⟨_, rfl⟩
    rw [← hw7] at HB6 ⊢
    have hz7 : w7.heap[ob]? = some (.cells #[.int .i64 1, .int .i64 who, .int .u64 t1, .int .u64 t2] 44 (0, 0)) := by
      rw [hw7]
      exact ((Chg.refl (fun q => q = B) w6).putq _ _).heap HZ6.out (fun e => ne_ty HZ6.out HBX6.out (by decide) e)
    have HZ7 := hide hz7
    clear hw7 q0 qf a0 a0x a1 a2 a3 a4 u0 g0 z0 z2 z3
    obtain ⟨a0, a1, a2, a3, a4⟩ := HB6.out.bm.cells
    have z0 := cell_of hz7 (i := 0) rfl; have z2 := cell_of hz7 (i := 2) rfl; have z3 := cell_of hz7 (i := 3) rfl
    obtain ⟨n0, n1⟩ := HB6.out.bm.on.celled (i := i) (by rw [HB6.out.bm.len.1]; exact hi)
    have f0 : w7.frozen? ⟨gN, i * 2, none⟩ = false := (town_rown HB6.out.bm.on).free _
    have f1 : w7.frozen? ⟨gN, i * 2 + 1, none⟩ = false := (town_rown HB6.out.bm.on).free _
    clear hz7
    go_upto_region 3 with fail
    go_region
    have HB8 := hide ((HB6.out.setN hi (t1, t2)).below (below_drew (Below.refl _ _)))
    have HZ8 := hide (show ((w7.setCell ⟨gN, i * 2, none⟩ (.int .u64 t1)).setCell ⟨gN, i * 2 + 1, none⟩ (.int .u64 t2)).drew.heap[ob]? = some (.cells #[.int .i64 1, .int .i64 who, .int .u64 t1, .int .u64 t2] 44 (0, 0)) from (((Chg.refl (fun q => q = gN) w7).putq _ _).putq _ _).drew.heap HZ7.out (fun e => by
      obtain ⟨_, cs, ht⟩ := own_tyz HB6.out.bm.on rfl
      exact ne_ty HZ7.out ht (by decide) e))
    generalize ((w7.setCell ⟨gN, i * 2, none⟩ (.int .u64 t1)).setCell ⟨gN, i * 2 + 1, none⟩ (.int .u64 t2)).drew = w8 at HB8 HZ8 ⊢
    clear HB6 HZ7 n0 n1 f0 f1 a0 a1 a2 a3 a4 z0 z2 z3
    obtain ⟨a0, a1, a2, a3, a4⟩ := HB8.out.bm.cells
    obtain ⟨u0, g0⟩ := HB8.out.bm.cellU hi
    have fU : w8.frozen? ⟨gU, i, none⟩ = false := (bown_row HB8.out.bm.ou).free _
    have HB9 := hide (HB8.out.setU hi true)
    have HZ9 := hide (show (w8.setCell ⟨gU, i, none⟩ (.bool true)).heap[ob]? = some (.cells #[.int .i64 1, .int .i64 who, .int .u64 t1, .int .u64 t2] 44 (0, 0)) from ((Chg.refl (fun q => q = gU) w8).putq _ _).heap HZ8.out (fun e => by
      obtain ⟨_, cs, ht⟩ := own_tyz HB8.out.bm.ou rfl
      exact ne_ty HZ8.out ht (by decide) e))
    go_upto_region 5 with fail
    generalize w8.setCell ⟨gU, i, none⟩ (.bool true) = w9 at HB9 HZ9 ⊢
    clear HB8 HZ8 a0 a1 a2 a3 a4 u0 g0 fU
    have z0 := cell_of HZ9.out (i := 0) rfl
    have HOV := hide (rm_over HB9.out.rw.rm hi)
    rw [show decide ((ds i).ph = 0) = false by simpa using HQ.out] at HOV
    go_wp2_with (go_at_call 22; refine HOV.out.mono ?_; rintro e w7 ⟨rfl, rfl⟩)
    go_ret
    exact ⟨rfl, _, HB9.out⟩
set_option maxRecDepth 100000 in
set_option maxHeartbeats 4000000 in
theorem enter_tak (h : BS w W X ab gc Y Z k tb lv s gP cP gH cH qs ps vs gs ds b C KK row H B gN gU gG vi vo K) {i : Nat} (hi : i < k) (who t1 t2 : Int) (hq : (ds i).ph ≠ 0) :
    Calls Tryz.prog 18 #[.pointer (some ⟨B, 0, none⟩), .pointer (some ⟨qs i, 0, none⟩), .int .i64 i, .agg #[.int .i64 2, .int .i64 who, .int .u64 t1, .int .u64 t2], .int .i64 0] W fun r w' => r = .returned (.bool true) ∧ BS w w' X ab gc Y Z k tb lv s gP cP gH cH qs ps vs gs ds b C KK row H B gN gU gG vi vo ⟨K.ins, K.outs, K.nows, K.puts, K.gets.set i true⟩ := by
  obtain ⟨w0, hw0⟩ : ∃ w0, w0 = W.alloc (.cells #[.int .i64 2, .int .i64 who, .int .u64 t1, .int .u64 t2] 44) := ⟨_, rfl⟩
  have hb0 : Below W.heap.size W w0 := by rw [hw0]; exact below_alloc (Below.refl _ _) _
  have hz0 : w0.heap[W.heap.size]? = some (.cells #[.int .i64 2, .int .i64 who, .int .u64 t1, .int .u64 t2] 44 (0, 0)) := by rw [hw0]; exact heap_new _ _
  have HZ0 := hide hz0
  have HBS := hide (h.below hb0)
  obtain ⟨a0, a1, a2, a3, a4⟩ := HBS.out.bm.cells
  obtain ⟨u0, g0⟩ := HBS.out.bm.cellU hi
  have z0 := cell_of hz0 (i := 0) rfl
  have k64 := h.rw.rm.n64
  have hii : (i : Int) < (k : Int) := by omega
  have HQ := hide hq
  have fG : w0.frozen? ⟨gG, i, none⟩ = false := (bown_row HBS.out.bm.og).free _
  clear h hb0 hz0 hq
  go_enter Tryz.func18, Tryz.ntmps18
  go_upto_region 1 with fail
  rw [← hw0]
  clear hw0
  generalize W.heap.size = ob at HZ0 z0 ⊢
  go_upto_region 7 with fail
  have HB9 := hide (HBS.out.setG hi true)
  generalize w0.setCell ⟨gG, i, none⟩ (.bool true) = w9 at HB9 ⊢
  clear a0 a1 a2 a3 a4 u0 g0 fG z0 HBS HZ0
  have HOV := hide (rm_over HB9.out.rw.rm hi)
  rw [show decide ((ds i).ph = 0) = false by simpa using HQ.out] at HOV
  go_wp2_with (go_at_call 22; refine HOV.out.mono ?_; rintro e w7 ⟨rfl, rfl⟩)
  go_ret
  exact ⟨rfl, HB9.out⟩
set_option maxRecDepth 100000 in
set_option maxHeartbeats 4000000 in
theorem enter_put (h : BS w W X ab gc Y Z k tb lv s gP cP gH cH qs ps vs gs ds b C KK row H B gN gU gG vi vo K) {i : Nat} (hi : i < k) (who t1 t2 e : Int) (h0 : (ds i).ph = 0) (hst : (ds i).st = 1) (hout : (ds i).out = []) (hp : bAt K.puts i = true) (hg : bAt K.gets i = false) :
    Calls Tryz.prog 18 #[.pointer (some ⟨B, 0, none⟩), .pointer (some ⟨qs i, 0, none⟩), .int .i64 i, .agg #[.int .i64 3, .int .i64 who, .int .u64 t1, .int .u64 t2], .int .i64 e] W fun r w' => r = .returned (.bool true) ∧ ∃ vi' vo', BS w w' X ab gc Y Z k tb lv s gP cP gH cH qs ps vs gs ds b C KK row H B gN gU gG vi' vo' ⟨K.ins, K.outs, K.nows, K.puts.set i false, K.gets.set i false⟩ := by
  obtain ⟨w0, hw0⟩ : ∃ w0, w0 = W.alloc (.cells #[.int .i64 3, .int .i64 who, .int .u64 t1, .int .u64 t2] 44) := ⟨_, rfl⟩
  have hb0 : Below W.heap.size W w0 := by rw [hw0]; exact below_alloc (Below.refl _ _) _
  have hz0 : w0.heap[W.heap.size]? = some (.cells #[.int .i64 3, .int .i64 who, .int .u64 t1, .int .u64 t2] 44 (0, 0)) := by rw [hw0]; exact heap_new _ _
  have HZ0 := hide hz0
  have HBS := hide (h.below hb0)
  obtain ⟨a0, a1, a2, a3, a4⟩ := HBS.out.bm.cells
  obtain ⟨u0, g0⟩ := HBS.out.bm.cellU hi
  have z0 := cell_of hz0 (i := 0) rfl
  have k64 := h.rw.rm.n64
  have hii : (i : Int) < (k : Int) := by omega
  rw [hp] at u0
  rw [hg] at g0
  have HOV := hide (rm_over HBS.out.rw.rm hi)
  rw [show decide ((ds i).ph = 0) = true by simpa using h0] at HOV
  have HRP := hide (rm_reply HBS.out.rw.rm hi)
  rw [hst, hout] at HRP
  clear h hb0 hz0 h0
  go_enter Tryz.func18, Tryz.ntmps18
  go_upto_region 1 with fail
  rw [← hw0]
  clear hw0
  generalize W.heap.size = ob at HZ0 z0 ⊢
  go_wp2_with (go_at_call 22; refine HOV.out.mono ?_; rintro e w7 ⟨rfl, rfl⟩)
  refine HRP.out.mono ?_
  rintro e w8 ⟨hb8, u, rfl, hu⟩
  obtain ⟨au, cu, rfl⟩ := owns_shape hu
  have HB8 := hide (HBS.out.below hb8)
  have HU8 := hide hu
  clear hb8 hu HRP HOV a0 a1 a2 a3 a4 u0 g0 z0 HBS HZ0
  go_upto_region 10 with fail
  obtain ⟨w9, hw9⟩ : ∃ w9, w9 = w8.alloc (.cells #[.int .i64 1, .slice au 0 cu] 71) := ⟨_, rfl⟩
  have hb9 : Below w8.heap.size w8 w9 := by rw [hw9]; exact below_alloc (Below.refl _ _) _
  have hz9 : w9.heap[w8.heap.size]? = some (.cells #[.int .i64 1, .slice au 0 cu] 71 (0, 0)) := by rw [hw9]; exact heap_new _ _
  rw [← hw9]
  have HB9 := hide (HB8.out.below hb9)
  have HU9 := hide (HU8.out.below hb9)
  have s0 := cell_of hz9 (i := 0) rfl; have s1 := cell_of hz9 (i := 1) rfl
  have HZ9 := hide hz9
  generalize w8.heap.size = bs at s0 s1 HU9 HZ9 ⊢
  clear hw9 hb9 hz9 HB8 HU8
  obtain ⟨a0, a1, a2, a3, a4⟩ := HB9.out.bm.cells
  obtain ⟨u0, g0⟩ := HB9.out.bm.cellU hi
  rw [hp] at u0
  rw [hg] at g0
  go_upto_region 25 with fail
  have fU : w9.frozen? ⟨gU, i, none⟩ = false := (bown_row HB9.out.bm.ou).free _
  have HBa := hide (HB9.out.setU hi false)
  go_upto_region 26 with fail
  generalize w9.setCell ⟨gU, i, none⟩ (.bool false) = wa at HBa ⊢
  clear fU u0 g0 a0 a1 a2 a3 a4 s0 s1
  obtain ⟨a0, a1, a2, a3, a4⟩ := HBa.out.bm.cells
  obtain ⟨u0, g0⟩ := HBa.out.bm.cellU hi
  have fG : wa.frozen? ⟨gG, i, none⟩ = false := (bown_row HBa.out.bm.og).free _
  have HBb := hide (HBa.out.setG hi false)
  go_wp2_with fail
  go_ret
  exact ⟨rfl, _, _, HBb.out⟩
set_option maxRecDepth 100000 in
set_option maxHeartbeats 4000000 in
theorem enter_none (h : BS w W X ab gc Y Z k tb lv s gP cP gH cH qs ps vs gs ds b C KK row H B gN gU gG vi vo K) {i : Nat} (hi : i < k) (who t1 t2 e : Int) (h0 : (ds i).ph = 0) (hst : (ds i).st = 2) (hout : (ds i).out = []) (hp : bAt K.puts i = false) (hg : bAt K.gets i = true) :
    Calls Tryz.prog 18 #[.pointer (some ⟨B, 0, none⟩), .pointer (some ⟨qs i, 0, none⟩), .int .i64 i, .agg #[.int .i64 3, .int .i64 who, .int .u64 t1, .int .u64 t2], .int .i64 e] W fun r w' => r = .returned (.bool true) ∧ ∃ vi' vo', BS w w' X ab gc Y Z k tb lv s gP cP gH cH qs ps vs gs ds b C KK row H B gN gU gG vi' vo' ⟨K.ins, K.outs, K.nows, K.puts.set i false, K.gets.set i false⟩ := by
  obtain ⟨w0, hw0⟩ : ∃ w0, w0 = W.alloc (.cells #[.int .i64 3, .int .i64 who, .int .u64 t1, .int .u64 t2] 44) := ⟨_, rfl⟩
  have hb0 : Below W.heap.size W w0 := by rw [hw0]; exact below_alloc (Below.refl _ _) _
  have hz0 : w0.heap[W.heap.size]? = some (.cells #[.int .i64 3, .int .i64 who, .int .u64 t1, .int .u64 t2] 44 (0, 0)) := by rw [hw0]; exact heap_new _ _
  have HZ0 := hide hz0
  have HBS := hide (h.below hb0)
  obtain ⟨a0, a1, a2, a3, a4⟩ := HBS.out.bm.cells
  obtain ⟨u0, g0⟩ := HBS.out.bm.cellU hi
  have z0 := cell_of hz0 (i := 0) rfl
  have k64 := h.rw.rm.n64
  have hii : (i : Int) < (k : Int) := by omega
  rw [hp] at u0
  rw [hg] at g0
  have HOV := hide (rm_over HBS.out.rw.rm hi)
  rw [show decide ((ds i).ph = 0) = true by simpa using h0] at HOV
  have HRP := hide (rm_reply HBS.out.rw.rm hi)
  rw [hst, hout] at HRP
  clear h hb0 hz0 h0
  go_enter Tryz.func18, Tryz.ntmps18
  go_upto_region 1 with fail
  rw [← hw0]
  clear hw0
  generalize W.heap.size = ob at HZ0 z0 ⊢
  go_wp2_with (go_at_call 22; refine HOV.out.mono ?_; rintro e w7 ⟨rfl, rfl⟩)
  refine HRP.out.mono ?_
  rintro e w8 ⟨hb8, u, rfl, hu⟩
  obtain ⟨au, cu, rfl⟩ := owns_shape hu
  have HB8 := hide (HBS.out.below hb8)
  have HU8 := hide hu
  clear hb8 hu HRP HOV a0 a1 a2 a3 a4 u0 g0 z0 HBS HZ0
  go_upto_region 10 with fail
  obtain ⟨w9, hw9⟩ : ∃ w9, w9 = w8.alloc (.cells #[.int .i64 2, .slice au 0 cu] 71) := ⟨_, rfl⟩
  have hb9 : Below w8.heap.size w8 w9 := by rw [hw9]; exact below_alloc (Below.refl _ _) _
  have hz9 : w9.heap[w8.heap.size]? = some (.cells #[.int .i64 2, .slice au 0 cu] 71 (0, 0)) := by rw [hw9]; exact heap_new _ _
  rw [← hw9]
  have HB9 := hide (HB8.out.below hb9)
  have HU9 := hide (HU8.out.below hb9)
  have s0 := cell_of hz9 (i := 0) rfl; have s1 := cell_of hz9 (i := 1) rfl
  have HZ9 := hide hz9
  generalize w8.heap.size = bs at s0 s1 HU9 HZ9 ⊢
  clear hw9 hb9 hz9 HB8 HU8
  obtain ⟨a0, a1, a2, a3, a4⟩ := HB9.out.bm.cells
  obtain ⟨u0, g0⟩ := HB9.out.bm.cellU hi
  rw [hp] at u0
  rw [hg] at g0
  go_upto_region 25 with fail
  have fU : w9.frozen? ⟨gU, i, none⟩ = false := (bown_row HB9.out.bm.ou).free _
  have HBa := hide (HB9.out.setU hi false)
  go_upto_region 26 with fail
  generalize w9.setCell ⟨gU, i, none⟩ (.bool false) = wa at HBa ⊢
  clear fU u0 g0 a0 a1 a2 a3 a4 s0 s1
  obtain ⟨a0, a1, a2, a3, a4⟩ := HBa.out.bm.cells
  obtain ⟨u0, g0⟩ := HBa.out.bm.cellU hi
  have fG : wa.frozen? ⟨gG, i, none⟩ = false := (bown_row HBa.out.bm.og).free _
  have HBb := hide (HBa.out.setG hi false)
  go_wp2_with fail
  go_ret
  exact ⟨rfl, _, _, HBb.out⟩
set_option maxRecDepth 100000 in
set_option maxHeartbeats 4000000 in
theorem enter_full (h : BS w W X ab gc Y Z k tb lv s gP cP gH cH qs ps vs gs ds b C KK row H B gN gU gG vi vo K) {i : Nat} (hi : i < k) (who t1 t2 e : Int) (h0 : (ds i).ph = 0) (hst : (ds i).st = 3) {t : Tk} (hout : (ds i).out = [t]) (hnow : tAt K.nows i = t) (hmem : t ∈ K.ins) (hl : K.ins.length ≤ 4194304) (hp : bAt K.puts i = true) (hg : bAt K.gets i = false) :
    Calls Tryz.prog 18 #[.pointer (some ⟨B, 0, none⟩), .pointer (some ⟨qs i, 0, none⟩), .int .i64 i, .agg #[.int .i64 3, .int .i64 who, .int .u64 t1, .int .u64 t2], .int .i64 e] W fun r w' => r = .returned (.bool true) ∧ ∃ vi' vo', BS w w' X ab gc Y Z k tb lv s gP cP gH cH qs ps vs gs ds b C KK row H B gN gU gG vi' vo' ⟨K.ins.erase t, K.outs, K.nows, K.puts.set i false, K.gets.set i false⟩ := by
  obtain ⟨w0, hw0⟩ : ∃ w0, w0 = W.alloc (.cells #[.int .i64 3, .int .i64 who, .int .u64 t1, .int .u64 t2] 44) := ⟨_, rfl⟩
  have hb0 : Below W.heap.size W w0 := by rw [hw0]; exact below_alloc (Below.refl _ _) _
  have hz0 : w0.heap[W.heap.size]? = some (.cells #[.int .i64 3, .int .i64 who, .int .u64 t1, .int .u64 t2] 44 (0, 0)) := by rw [hw0]; exact heap_new _ _
  have HZ0 := hide hz0
  have HBS := hide (h.below hb0)
  obtain ⟨a0, a1, a2, a3, a4⟩ := HBS.out.bm.cells
  obtain ⟨u0, g0⟩ := HBS.out.bm.cellU hi
  have z0 := cell_of hz0 (i := 0) rfl
  have k64 := h.rw.rm.n64
  have hii : (i : Int) < (k : Int) := by omega
  rw [hp] at u0
  rw [hg] at g0
  have HOV := hide (rm_over HBS.out.rw.rm hi)
  rw [show decide ((ds i).ph = 0) = true by simpa using h0] at HOV
  have HRP := hide (rm_reply HBS.out.rw.rm hi)
  rw [hst, hout] at HRP
  clear h hb0 hz0 h0
  go_enter Tryz.func18, Tryz.ntmps18
  go_upto_region 1 with fail
  rw [← hw0]
  clear hw0
  generalize W.heap.size = ob at HZ0 z0 ⊢
  go_wp2_with (go_at_call 22; refine HOV.out.mono ?_; rintro e w7 ⟨rfl, rfl⟩)
  refine HRP.out.mono ?_
  rintro e w8 ⟨hb8, u, rfl, hu⟩
  obtain ⟨au, cu, rfl⟩ := owns_shape hu
  have HB8 := hide (HBS.out.below hb8)
  have HU8 := hide hu
  clear hb8 hu HRP HOV a0 a1 a2 a3 a4 u0 g0 z0 HBS HZ0
  go_upto_region 10 with fail
  obtain ⟨w9, hw9⟩ : ∃ w9, w9 = w8.alloc (.cells #[.int .i64 3, .slice au 1 cu] 71) := ⟨_, rfl⟩
  have hb9 : Below w8.heap.size w8 w9 := by rw [hw9]; exact below_alloc (Below.refl _ _) _
  have hz9 : w9.heap[w8.heap.size]? = some (.cells #[.int .i64 3, .slice au 1 cu] 71 (0, 0)) := by rw [hw9]; exact heap_new _ _
  rw [← hw9]
  have HB9 := hide (HB8.out.below hb9)
  have HU9 := hide (HU8.out.below hb9)
  have s0 := cell_of hz9 (i := 0) rfl; have s1 := cell_of hz9 (i := 1) rfl
  have HZ9 := hide hz9
  generalize w8.heap.size = bs at s0 s1 HU9 HZ9 ⊢
  clear hw9 hb9 hz9 HB8 HU8
  obtain ⟨a0, a1, a2, a3, a4⟩ := HB9.out.bm.cells
  obtain ⟨u0, g0⟩ := HB9.out.bm.cellU hi
  rw [hp] at u0
  rw [hg] at g0
  obtain ⟨gu, cu', hgu⟩ := own_spot HU9.out Nat.zero_lt_one
  obtain ⟨rfl, rfl⟩ : au = some ⟨gu, 0, none⟩ ∧ cu = cu' := by simpa using hgu
  obtain ⟨o0, o1⟩ := HU9.out.celled (i := 0) Nat.zero_lt_one
  rw [show tAt [t] 0 = t from rfl] at o0 o1
  obtain ⟨n0, n1⟩ := HB9.out.bm.on.celled (i := i) (by rw [HB9.out.bm.len.1]; exact hi)
  rw [hnow] at n0 n1
  go_upto_region 18 with fail
  have heq := eql_yes (rfl : t = t)
  have v0 := gw_cell s1; have v1 := gw_cell a3; have v2 := gw_cell a2; have v3 := gw_cell u0; have v4 := gw_cell o0; have v5 := gw_cell o1; have v6 := gw_cell n0; have v7 := gw_cell n1
  refine wp_region_gw (by kernel_rfl) (by kernel_rfl) ?_
  repeat (go_big_quiet_step (rfl))
  refine wpQuiet_nil ?_
  intro _ hw'
  obtain ⟨x', hw''⟩ := hw'
  subst hw''
  have HBx := hide (HB9.out.below x'.bel)
  clear v0 v1 v2 v3 v4 v5 v6 v7 a0 a1 a2 a3 a4 u0 g0 s0 s1 o0 o1 n0 n1 heq HB9 HU9 HZ9
  generalize x'.world = wx at HBx ⊢
  clear x'
  obtain ⟨av, cv, hvi⟩ := owns_shape HBx.out.bm.oi
  subst hvi
  obtain ⟨a0, a1, a2, a3, a4⟩ := HBx.out.bm.cells
  obtain ⟨n0, n1⟩ := HBx.out.bm.on.celled (i := i) (by rw [HBx.out.bm.len.1]; exact hi)
  rw [hnow] at n0 n1
  have HWO := hide (without_any (.slice av K.ins.length cv) K.ins t wx.drew ((HBx.out.below (below_drew (Below.refl _ _))).bm.oi.tat) hl)
  obtain ⟨Le, hLe⟩ : ∃ Le, Le = K.ins.erase t := ⟨_, rfl⟩
  have HLE := hide hLe
  clear hLe
  go_upto_region 20 with fail
  go_region_with
    (first
      | (go_at_call 56; refine HWO.out.mono ?_; rintro e w5 ⟨u5, rfl, ht5, hb5⟩; rw [← HLE.out] at ht5; obtain ⟨a5, c5, rfl⟩ := owns_shape ht5; have HT5 := hide ht5; have HBW := hide hb5; have HB5 := hide ((HBx.out.below (below_drew (Below.refl _ _))).below hb5); obtain ⟨y0, y1, y2, y3, y4⟩ := HB5.out.bm.cells; obtain ⟨m0, m1⟩ := HB5.out.bm.on.celled (i := i) (by rw [HB5.out.bm.len.1]; exact hi); rw [hnow] at m0 m1; have qf := free_of HB5.out.bm.box 0; rw [show decide (t ∈ K.ins) = true by simpa using hmem])
      | fail)
  all_goals
    have HB6 := hide ((HBx.out.below (below_drew (Below.refl _ _))).newI HBW.out HT5.out)
    clear hb5 ht5 HB5 a0 a1 a2 a3 a4 y0 y1 y2 y3 y4 n0 n1 m0 m1 qf
    go_upto_region 25 with fail
    generalize w5.setCell ⟨B, 0, none⟩ (.slice a5 Le.length c5) = w7 at HB6 ⊢
    obtain ⟨a0, a1, a2, a3, a4⟩ := HB6.out.bm.cells
    obtain ⟨u0, g0⟩ := HB6.out.bm.cellU hi
    rw [hp] at u0
    rw [hg] at g0
    have fU : w7.frozen? ⟨gU, i, none⟩ = false := (bown_row HB6.out.bm.ou).free _
    have HBa := hide (HB6.out.setU hi false)
    go_upto_region 26 with fail
    generalize w7.setCell ⟨gU, i, none⟩ (.bool false) = wa at HBa ⊢
    clear fU u0 g0 a0 a1 a2 a3 a4
    obtain ⟨a0, a1, a2, a3, a4⟩ := HBa.out.bm.cells
    obtain ⟨u0, g0⟩ := HBa.out.bm.cellU hi
    have fG : wa.frozen? ⟨gG, i, none⟩ = false := (bown_row HBa.out.bm.og).free _
    have HBb := hide (HBa.out.setG hi false)
    go_wp2_with fail
    go_ret
    rw [HLE.out] at HBb
    exact ⟨rfl, _, _, HBb.out⟩
set_option maxRecDepth 100000 in
set_option maxHeartbeats 4000000 in
theorem enter_out (h : BS w W X ab gc Y Z k tb lv s gP cP gH cH qs ps vs gs ds b C KK row H B gN gU gG vi vo K) {i : Nat} (hi : i < k) (who t1 t2 e : Int) (h0 : (ds i).ph = 0) (hst : (ds i).st = 5) {t : Tk} (hout : (ds i).out = [t]) (hl : K.outs.length ≤ 4194304) (hp : bAt K.puts i = false) (hg : bAt K.gets i = true) :
    Calls Tryz.prog 18 #[.pointer (some ⟨B, 0, none⟩), .pointer (some ⟨qs i, 0, none⟩), .int .i64 i, .agg #[.int .i64 3, .int .i64 who, .int .u64 t1, .int .u64 t2], .int .i64 e] W fun r w' => r = .returned (.bool true) ∧ ∃ vi' vo', BS w w' X ab gc Y Z k tb lv s gP cP gH cH qs ps vs gs ds b C KK row H B gN gU gG vi' vo' ⟨K.ins, K.outs ++ [t], K.nows, K.puts.set i false, K.gets.set i false⟩ := by
  obtain ⟨w0, hw0⟩ : ∃ w0, w0 = W.alloc (.cells #[.int .i64 3, .int .i64 who, .int .u64 t1, .int .u64 t2] 44) := ⟨_, rfl⟩
  have hb0 : Below W.heap.size W w0 := by rw [hw0]; exact below_alloc (Below.refl _ _) _
  have hz0 : w0.heap[W.heap.size]? = some (.cells #[.int .i64 3, .int .i64 who, .int .u64 t1, .int .u64 t2] 44 (0, 0)) := by rw [hw0]; exact heap_new _ _
  have HZ0 := hide hz0
  have HBS := hide (h.below hb0)
  obtain ⟨a0, a1, a2, a3, a4⟩ := HBS.out.bm.cells
  obtain ⟨u0, g0⟩ := HBS.out.bm.cellU hi
  have z0 := cell_of hz0 (i := 0) rfl
  have k64 := h.rw.rm.n64
  have hii : (i : Int) < (k : Int) := by omega
  rw [hp] at u0
  rw [hg] at g0
  have HOV := hide (rm_over HBS.out.rw.rm hi)
  rw [show decide ((ds i).ph = 0) = true by simpa using h0] at HOV
  have HRP := hide (rm_reply HBS.out.rw.rm hi)
  rw [hst, hout] at HRP
  clear h hb0 hz0 h0
  go_enter Tryz.func18, Tryz.ntmps18
  go_upto_region 1 with fail
  rw [← hw0]
  clear hw0
  generalize W.heap.size = ob at HZ0 z0 ⊢
  go_wp2_with (go_at_call 22; refine HOV.out.mono ?_; rintro e w7 ⟨rfl, rfl⟩)
  refine HRP.out.mono ?_
  rintro e w8 ⟨hb8, u, rfl, hu⟩
  obtain ⟨au, cu, rfl⟩ := owns_shape hu
  have HB8 := hide (HBS.out.below hb8)
  have HU8 := hide hu
  clear hb8 hu HRP HOV a0 a1 a2 a3 a4 u0 g0 z0 HBS HZ0
  go_upto_region 10 with fail
  obtain ⟨w9, hw9⟩ : ∃ w9, w9 = w8.alloc (.cells #[.int .i64 5, .slice au 1 cu] 71) := ⟨_, rfl⟩
  have hb9 : Below w8.heap.size w8 w9 := by rw [hw9]; exact below_alloc (Below.refl _ _) _
  have hz9 : w9.heap[w8.heap.size]? = some (.cells #[.int .i64 5, .slice au 1 cu] 71 (0, 0)) := by rw [hw9]; exact heap_new _ _
  rw [← hw9]
  have HB9 := hide (HB8.out.below hb9)
  have HU9 := hide (HU8.out.below hb9)
  have s0 := cell_of hz9 (i := 0) rfl; have s1 := cell_of hz9 (i := 1) rfl
  have HZ9 := hide hz9
  generalize w8.heap.size = bs at s0 s1 HU9 HZ9 ⊢
  clear hw9 hb9 hz9 HB8 HU8
  obtain ⟨a0, a1, a2, a3, a4⟩ := HB9.out.bm.cells
  obtain ⟨u0, g0⟩ := HB9.out.bm.cellU hi
  rw [hp] at u0
  rw [hg] at g0
  obtain ⟨gu, cu', hgu⟩ := own_spot HU9.out Nat.zero_lt_one
  obtain ⟨rfl, rfl⟩ : au = some ⟨gu, 0, none⟩ ∧ cu = cu' := by simpa using hgu
  obtain ⟨o0, o1⟩ := HU9.out.celled (i := 0) Nat.zero_lt_one
  rw [show tAt [t] 0 = t from rfl] at o0 o1
  obtain ⟨av, cv, hvo⟩ := owns_shape HB9.out.bm.oo
  subst hvo
  obtain ⟨i0, hi0, hz0', hz1, hz2⟩ := info_parts Tryz.info42
  have hlo := HB9.out.rw.rm.bel.size
  have a1x : (w9.alloc (.cells #[.int .u64 t.1, .int .u64 t.2] 42)).cell? ⟨B, 1, none⟩ = some (.slice av K.outs.length cv) := (below_cell (below_alloc (Below.refl _ _) _) (block_of_cell a1)).trans a1
  go_upto_region 24 with fail
  go_region_law
    ((refine step_append_lies _ (by rfl) _ _ _ (by rfl) w.heap.size 42 i0 (.agg #[.int .u64 0, .int .u64 0]) 2 16 Tryz.underlying24 hi0 hz0' hz1 hz2 rfl (by omega) (.slice av K.outs.length cv) K.outs.length (tCells K.outs) (by rfl) (by first | exact (HB9.out.bm.oo.alloc _).drew | exact HB9.out.bm.oo.drew.alloc _) ⟨w9.heap.size, 0, none⟩ 1 1 [.int .u64 t.1, .int .u64 t.2] (by rfl) (by rfl) (by first | exact two_at' w9 _ _ _ | exact two_at w9.drew _ _ _) (by simp [Value.oneCell']) (by omega) (by unfold maxLen; omega) (by omega) (by simp; omega) (w9.heap.size + 1) (by simp) ?_; intro g6 c6 w6 hown hgr hat _; obtain ⟨hbx6, hk6⟩ := (HB9.out.below (below_drew (Below.refl _ _))).bm.boxA (HB9.out.below (below_drew (Below.refl _ _))).bm.oo (show (w9.drew.alloc (.cells #[.int .u64 t.1, .int .u64 t.2] 42)).grownBy w6 _ from hgr); have q1 := cell_of hbx6 (i := 1) rfl; have qf := free_of hbx6 1; have HB6 := hide ((HB9.out.below (below_drew (Below.refl _ _))).appO (x := t) hown (show (w9.drew.alloc (.cells #[.int .u64 t.1, .int .u64 t.2] 42)).grownBy w6 _ from hgr) (by simpa using hat)); clear hown hgr hat hbx6 hk6))
  all_goals
    generalize w6.setCell ⟨B, 1, none⟩ (.slice (some ⟨g6, 0, none⟩) (K.outs.length + 1) c6) = w7 at HB6 ⊢
    clear a0 a1 a2 a3 a4 u0 g0 q1 qf a1x o0 o1 HB9
    obtain ⟨a0, a1, a2, a3, a4⟩ := HB6.out.bm.cells
    obtain ⟨u0, g0⟩ := HB6.out.bm.cellU hi
    rw [hp] at u0
    rw [hg] at g0
    have fU : w7.frozen? ⟨gU, i, none⟩ = false := (bown_row HB6.out.bm.ou).free _
    have HBa := hide (HB6.out.setU hi false)
    go_upto_region 26 with fail
    generalize w7.setCell ⟨gU, i, none⟩ (.bool false) = wa at HBa ⊢
    clear fU u0 g0 a0 a1 a2 a3 a4 s0 s1
    obtain ⟨a0, a1, a2, a3, a4⟩ := HBa.out.bm.cells
    obtain ⟨u0, g0⟩ := HBa.out.bm.cellU hi
    have fG : wa.frozen? ⟨gG, i, none⟩ = false := (bown_row HBa.out.bm.og).free _
    have HBb := hide (HBa.out.setG hi false)
    go_wp2_with fail
    go_ret
    exact ⟨rfl, _, _, HBb.out⟩
end
set_option maxRecDepth 100000 in
set_option maxHeartbeats 4000000 in
theorem left_any {lo : Nat} {W : World} {B gN gU gG k : Nat} {vi vo : Value} {K : Bk} (h : BM lo W B gN gU gG k vi vo K) (G : List Tk) (hc : ∀ t, K.ins.count t = K.outs.count t + G.count t) (h1 : K.ins.length ≤ 4194304) (h2 : K.outs.length ≤ 4194304) :
    Calls Tryz.prog 19 #[.pointer (some ⟨B, 0, none⟩)] W fun r w' => ∃ u, r = .returned (.tuple #[u, .bool true]) ∧ TOwn w' lo u (srt G) ∧ Below W.heap.size W w' := by
  have HBM := hide h
  have HCT := hide hc
  have HL1 := hide h1
  obtain ⟨a0, a1, a2, a3, a4⟩ := h.cells
  obtain ⟨ai, ci, hvi⟩ := owns_shape h.oi
  obtain ⟨ao, co, hvo⟩ := owns_shape h.oo
  subst hvi hvo
  obtain ⟨no, hno⟩ : ∃ no, no = K.outs.length := ⟨_, rfl⟩
  have HNO := hide hno
  rw [← hno] at a1 h2
  clear h hc h1 hno
  go_enter Tryz.func19, Tryz.ntmps19
  go_wp2_with fail
  go_loopw [4, 5, 6] (fun u f tt wq => ∃ (i : Nat) (L : List Tk), i ≤ no ∧ tt = .int .i64 (i : Int) ∧ f = .bool true ∧ TOwn wq lo u L ∧ L.length ≤ 4194304 ∧ (∀ t, L.count t + (K.outs.take i).count t = K.ins.count t) ∧ Below W.heap.size W wq) (fun _ _ tt _ => no - (RowKit.intOf tt).toNat)
  case atStart => exact ⟨0, K.ins, Nat.zero_le _, rfl, rfl, HBM.out.oi, HL1.out, (fun t => by simp), Below.refl _ _⟩
  case round =>
    obtain ⟨i, L, hi, rfl, rfl, hto, hLl, hcu, hbl⟩ := hrel
    have HCU := hide hcu; have HBL := hide hbl; have HLL := hide hLl
    have HB2 := hide (HBM.out.kp (Kp.of_below hbl))
    obtain ⟨x0, x1, x2, x3, x4⟩ := HB2.out.cells
    rw [← HNO.out] at x1
    clear hcu hLl a0 a1 a2 a3 a4 x0 x2 x3 x4
    by_cases hlt : i < no
    · have hli : (i : Int) < (no : Int) := by omega
      have hll : i < K.outs.length := by rw [← HNO.out]; exact hlt
      have hoo := HB2.out.oo
      obtain ⟨g, o, he, p0, p1⟩ := hoo.tat.cellAt i hll
      subst he
      have HR1 : Hid (K.outs.take (i + 1) = K.outs.take i ++ [tAt K.outs i]) := hide (by
        rw [List.take_add_one]
        simp [tAt, List.getElem?_eq_getElem hll])
      have HM : Hid (tAt K.outs i ∈ L) := hide (diff_mem (l := K.ins) HCU.out (by
        rw [← HR1.out, HCT.out]
        exact Nat.le_trans (List.Sublist.count_le _ (List.take_sublist _ _)) (Nat.le_add_right _ _)))
      have HWO := hide (without_any u4 L (tAt K.outs i) wr hto.tat HLL.out)
      have HLE := hide (show (L.erase (tAt K.outs i)).length ≤ 4194304 from Nat.le_trans (List.length_erase_le) HLL.out)
      have hwr : IntKind.i64.wrap ((i : Int) + 1) = (i : Int) + 1 := IntWalk.i64_in _ (by omega)
      have hlo := (hto.lt)
      obtain ⟨al, cl, rfl⟩ := owns_shape hto
      have HSZ := hide (show lo ≤ wr.heap.size from Nat.le_trans HBM.out.lob (Nat.le_of_lt (lt_of_heap HB2.out.box)))
      clear hto hbl hlo hoo
      go_wp2_with fail
      refine HWO.out.mono ?_
      rintro e w5 ⟨u5, rfl, ht5, hb5⟩
      have HT5 := hide (own_base ht5 HSZ.out)
      have HB5 := hide (below_on HBL.out hb5)
      have HDE : Hid (decide (tAt K.outs i ∈ L) = true) := hide (by simpa using HM.out)
      rw [HDE.out]
      clear ht5 hb5 p0 p1 HWO
      go_wp2_with fail
      exact ⟨⟨i + 1, _, hlt, by simp, rfl, HT5.out, HLE.out, (fun u => by rw [HR1.out]; exact diff_step HCU.out HM.out u), HB5.out⟩, mdecR hlt⟩
    · obtain rfl : i = no := by omega
      have HPM : Hid (L.Perm G) := hide (by
        rw [List.perm_iff_count]
        intro t
        have q1 := HCU.out t
        have q2 := HCT.out t
        rw [HNO.out, List.take_length] at q1
        omega)
      have HSO := hide (sorted_any L.length L (Nat.le_refl _) (by have := HLL.out; omega) u4 wr hto.tat)
      have HSZ := hide (show lo ≤ wr.heap.size from Nat.le_trans HBM.out.lob (Nat.le_of_lt (lt_of_heap HB2.out.box)))
      obtain ⟨al, cl, rfl⟩ := owns_shape hto
      clear hto hbl
      go_wp2_with fail
      refine HSO.out.mono ?_
      rintro e w5 ⟨u5, rfl, ht5, hb5⟩
      rw [srt_congr HPM.out] at ht5
      have HT5 := hide (own_base ht5 HSZ.out)
      have HB5 := hide (below_on HBL.out hb5)
      clear ht5 hb5 HSO
      go_wp2_with fail
      go_ret2
      exact ⟨_, rfl, HT5.out, HB5.out⟩
end Go.Proofs.YtgjdjdgondpjeaaGreat
