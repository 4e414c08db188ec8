import Derived.Test.YtgjdjdgondpjeaaGreatRwA
import Derived.Deep.RegionHeld3
import Derived.Test.YtgjdjdgondpjeaaGreatR6
import Derived.Deep.RegionWith
import Derived.BigQuiet
/- RingFirst: rows of tasks; what an op leaves. -/
namespace Go.Proofs.YtgjdjdgondpjeaaGreat
open Go.RowKit Go.Lib
set_option linter.unusedVariables false
set_option linter.unusedSimpArgs false
def tkA (p : Tk) : Array Value := #[.int .u64 p.1, .int .u64 p.2]
theorem tkA_size (p : Tk) : (tkA p).size = 2 := rfl
theorem town_rown {w : World} {fr : Nat} {v : Value} {l : List Tk} (h : TOwn w fr v l) : ROwn tkA 2 42 w fr v l := h
theorem TOwn.put {w : World} {fr g n cap : Nat} {l : List Tk} (h : TOwn w fr (.slice (some ⟨g, 0, none⟩) n cap) l) {i : Nat} (hi : i < l.length) (t : Tk) :
    TOwn ((w.setCell ⟨g, i * 2, none⟩ (.int .u64 t.1)).setCell ⟨g, i * 2 + 1, none⟩ (.int .u64 t.2)) fr (.slice (some ⟨g, 0, none⟩) n cap) (l.set i t) := by
  have e1 : l[i]? = some l[i] := List.getElem?_eq_getElem hi
  have h1 := (town_rown h).set tkA_size (k := i) (j := 0) (y := (t.1, l[i].2)) (u := .int .u64 t.1) e1 (by decide) rfl
  have e2 : (l.set i (t.1, l[i].2))[i]? = some (t.1, l[i].2) := by rw [List.getElem?_set]; simp [hi]
  have h2 := h1.set tkA_size (k := i) (j := 1) (y := t) (u := .int .u64 t.2) e2 (by decide) rfl
  rw [List.set_set] at h2
  exact h2
theorem TOwn.celled {w : World} {fr g n cap : Nat} {l : List Tk} (h : TOwn w fr (.slice (some ⟨g, 0, none⟩) n cap) l) {i : Nat} (hi : i < l.length) : w.cell? ⟨g, i * 2, none⟩ = some (.int .u64 (tAt l i).1) ∧ w.cell? ⟨g, i * 2 + 1, none⟩ = some (.int .u64 (tAt l i).2) := by
  have e1 : l[i]? = some (tAt l i) := by simp [tAt, List.getElem?_eq_getElem hi]
  exact ⟨(town_rown h).cell tkA_size e1 0 _ rfl, (town_rown h).cell tkA_size e1 1 _ rfl⟩
theorem tAt_set {l : List Tk} {i j : Nat} {t : Tk} (hi : i < l.length) : tAt (l.set i t) j = if j = i then t else tAt l j := by
  unfold tAt
  rw [List.getElem?_set]
  by_cases e : j = i
  · subst e; simp [hi]
  · rw [if_neg (fun q => e q.symm), if_neg e]
theorem made_tk (m : Nat) : madeCells #[.int .u64 0, .int .u64 0] (m * 2) = (tCells (List.replicate m (0, 0))).toArray := by
  apply Array.ext'
  simp only [madeCells]
  apply List.ext_getElem?
  intro i
  have hl : (tCells (List.replicate m ((0 : Int), (0 : Int)))).length = m * 2 := by rw [tCells_length, List.length_replicate]
  by_cases hi : i < m * 2
  · have e : (tCells (List.replicate m ((0 : Int), (0 : Int))))[i]? = some (.int .u64 0) := by
      obtain ⟨p, q⟩ := tCells_at (List.replicate m ((0 : Int), (0 : Int))) (i / 2) (by simp; omega)
      have ez : tAt (List.replicate m ((0 : Int), (0 : Int))) (i / 2) = (0, 0) := by
        unfold tAt
        rw [List.getElem?_replicate]; split <;> rfl
      rw [ez] at p q
      rcases Nat.mod_two_eq_zero_or_one i with hm | hm
      · rw [show i / 2 * 2 = i by omega] at p; exact p
      · rw [show i / 2 * 2 + 1 = i by omega] at q; exact q
    rw [e]
    rcases Nat.mod_two_eq_zero_or_one i with hm | hm <;> simp [hi, hm]
  · rw [List.getElem?_eq_none (l := tCells _) (by omega)]
    simp [hi]
theorem town_made (w : World) (m : Nat) (hm : m ≤ 1024) : TOwn (w.alloc (.cells (madeCells #[.int .u64 0, .int .u64 0] (m * 2)) 42)) w.heap.size (.slice (some ⟨w.heap.size, 0, none⟩) m m) (List.replicate m (0, 0)) := by
  refine ⟨by rw [List.length_replicate, tCells_length, List.length_replicate], .inr ⟨w.heap.size, m, _, by rw [List.length_replicate], Nat.le_refl _, heap_new _ _, by rw [List.length_replicate]; exact Nat.le_refl _, by unfold maxLen; omega, ?_, ?_⟩⟩
  · rw [made_tk]; simp [tCells_length]
  · rw [made_tk, List.length_replicate]
    rw [List.take_of_length_le (by simp [tCells_length])]
/-- An op of the law, as it lies in memory. -/
structure OpR where
  kind : Int
  who : Int
  t : Tk
def opA (o : OpR) : Array Value := #[.int .i64 o.kind, .int .i64 o.who, .int .u64 o.t.1, .int .u64 o.t.2]
theorem opA_size (o : OpR) : (opA o).size = 4 := rfl
def OpsOk (ops : List OpR) : Prop := ∀ o, o ∈ ops → W64 o.t.1 ∧ W64 o.t.2
def ixO (who : Int) (k : Nat) : Nat := (who % (k : Int)).toNat
theorem ixO_lt (who : Int) {k : Nat} (hk : 1 ≤ k) : ixO who k < k ∧ ((ixO who k : Nat) : Int) = who % (k : Int) := by
  unfold ixO
  have h1 := Int.emod_nonneg who (show (k : Int) ≠ 0 by omega)
  have h2 := Int.emod_lt_of_pos who (show (0 : Int) < k by omega)
  omega
/-- What is told of the rows beside the ring. -/
def FiI (k : Nat) (ds : Nat → Hs) (row nl dl : List Tk) : Prop := ∀ i, i < k → (1 ≤ (ds i).ph → (ds i).ph ≤ 6 → tAt nl i = (ds i).t) ∧ (10 ≤ (ds i).ph → tAt dl i = rowAt row (ds i).place)
end Go.Proofs.YtgjdjdgondpjeaaGreat

/- RingFirst: what lies beside the table. -/
namespace Go.Proofs.YtgjdjdgondpjeaaGreat
open Go.RowKit Go.Lib
set_option linter.unusedVariables false
set_option linter.unusedSimpArgs false
theorem errR_zero {b C : Int} {l : List Tk} (h : errR b C l = 0) : ∃ b' C' : Nat, b = b' ∧ C = C' ∧ 2 ≤ C' ∧ C' ≤ 65536 ∧ b' + (2 + 3 * C') ≤ 16777216 ∧ hasNev l = false ∧ l.length ≤ C' := by
  unfold errR at h
  by_cases h1 : OkR b C
  · rw [if_pos h1] at h
    obtain ⟨⟨a1, a2⟩, a3, a4⟩ := h1
    by_cases h2 : hasNev l = true
    · rw [if_pos h2] at h; omega
    · rw [if_neg h2] at h
      by_cases h3 : C < (l.length : Int)
      · rw [if_pos h3] at h; omega
      · exact ⟨b.toNat, C.toNat, by omega, by omega, by omega, by omega, by omega, by simpa using h2, by omega⟩
  · rw [if_neg h1] at h; omega
theorem RM.base {w0 w wr : World} {X ab gc Y Z n K : Nat} {tb : Array Value} {lv vP vH : Value} {s : Ast} {qs ps : Nat → Nat} {vs : Nat → Value} {gs : Nat → Bool} {ds : Nat → Hs} {bs Cs : Nat → Nat} (h : RM w wr X ab gc Y Z n tb lv s vP vH qs ps vs gs ds bs Cs K) (hb : Below w0.heap.size w0 w) : RM w0 wr X ab gc Y Z n tb lv s vP vH qs ps vs gs ds bs Cs K :=
  ⟨below_on hb h.bel, ⟨Nat.le_trans hb.size h.zl.1, Nat.le_trans hb.size h.zl.2.1, Nat.le_trans hb.size h.zl.2.2⟩, h.x, h.tc, h.ar, h.rp, h.rh, h.hd, h.po, h.inj, h.lo, h.hw, h.wd, h.kp, h.cnt, h.lk, h.n64⟩
theorem own_spot {w : World} {lo n z : Nat} {t : TypeId} {v : Value} {xs : List Value} (h : w.ownsRow lo t z v n xs) (hn : 0 < n) : ∃ g c, v = .slice (some ⟨g, 0, none⟩) n c := by
  obtain ⟨_, ⟨_, hz⟩ | ⟨g, cap, cur, hv, _⟩⟩ := h
  · omega
  · exact ⟨g, cap, hv⟩
theorem make_tk (k : Nat) (hk : k ≤ 1024) (W : World) : (Instr.makeSlice 24 (.int .i64 (k : Int)) (.int .i64 (k : Int))).run Tryz.prog W = .ok (.slice (some ⟨W.heap.size, 0, none⟩) k k) (W.alloc (.cells (madeCells #[.int .u64 0, .int .u64 0] (k * 2)) 42)) := by
  obtain ⟨i0, hi, hz0, hz1, hz2⟩ := info_parts Tryz.info42
  have hr := run_make (P := Tryz.prog) W 24 42 i0 _ Tryz.underlying24 hi hz0 .i64 .i64 k k (by omega) (Int.le_refl _) (by rw [hz2]; omega) (by omega)
  simp only [Int.toNat_natCast, hz1] at hr
  exact hr
theorem FiI.upd {k : Nat} {ds : Nat → Hs} {row row' nl nl' dl dl' : List Tk} (h : FiI k ds row nl dl) {i : Nat} {d' : Hs} (h1 : 1 ≤ d'.ph → d'.ph ≤ 6 → tAt nl' i = d'.t) (h2 : 10 ≤ d'.ph → tAt dl' i = rowAt row' d'.place) (h3 : ∀ j, j ≠ i → tAt nl' j = tAt nl j) (h4 : ∀ j, j ≠ i → tAt dl' j = tAt dl j) (h5 : ∀ j, j < k → 10 ≤ (ds j).ph → rowAt row' (ds j).place = rowAt row (ds j).place) : FiI k (upd ds i d') row' nl' dl' := fun j hj => by
  by_cases e : j = i
  · subst e; rw [upd_same]; exact ⟨h1, h2⟩
  · rw [upd_other _ _ e, h3 j e, h4 j e]
    exact ⟨(h j hj).1, fun q => by rw [h5 j hj q]; exact (h j hj).2 q⟩
theorem who_ix (who : Int) {k : Nat} (hk : 1 ≤ k) : (if who.tmod k < 0 then who.tmod k + k else who.tmod k) = ((ixO who k : Nat) : Int) := by
  rw [(ixO_lt who hk).2, emod_of_tmod _ _ (by omega)]
def FInv (w : World) (X ab gc Y Z k : Nat) (tb : Array Value) (gP cP gH cH gN gD : Nat) (qs ps : Nat → Nat) (b C j : Nat) (rv gone : Value) (wq : World) : Prop :=
  ∃ (lv : Value) (s : Ast) (vs : Nat → Value) (gs : Nat → Bool) (ds : Nat → Hs) (row : List Tk) (H : Int) (nl dl : List Tk), RW w wq X ab gc Y Z k tb lv s gP cP gH cH qs ps vs gs ds b C j row H ∧ gone = .int .i64 H ∧ TOwn wq w.heap.size rv row ∧ TOwn wq w.heap.size (.slice (some ⟨gN, 0, none⟩) k k) nl ∧ TOwn wq w.heap.size (.slice (some ⟨gD, 0, none⟩) k k) dl ∧
    (nl.length = k ∧ dl.length = k ∧ gN ≠ gD) ∧ (∀ g, rv.ownBlock = some g → g ≠ gN ∧ g ≠ gD ∧ ∀ i, i < k → (vs i).ownBlock ≠ some g) ∧ (∀ i, i < k → (vs i).ownBlock ≠ some gN ∧ (vs i).ownBlock ≠ some gD) ∧ wq.heap[w.heap.size]? = some (.cells #[.int .i64 (b : Int), .int .i64 (C : Int)] 23 (0, 0)) ∧ FiI k ds row nl dl
section
variable {w wa wb : World} {X ab gc Y Z k : Nat} {tb : Array Value} {gP cP gH cH gN gD : Nat} {qs ps : Nat → Nat} {b C j : Nat}
/-- What lies beside the table behind an op. -/
structure Sd (w wa : World) (k gN gD b C : Nat) (rv : Value) (vs : Nat → Value) (row nl dl : List Tk) : Prop where
  orv : TOwn wa w.heap.size rv row
  onl : TOwn wa w.heap.size (.slice (some ⟨gN, 0, none⟩) k k) nl
  odl : TOwn wa w.heap.size (.slice (some ⟨gD, 0, none⟩) k k) dl
  len : nl.length = k ∧ dl.length = k ∧ gN ≠ gD
  dis : ∀ g, rv.ownBlock = some g → g ≠ gN ∧ g ≠ gD ∧ ∀ i, i < k → (vs i).ownBlock ≠ some g
  vd : ∀ i, i < k → (vs i).ownBlock ≠ some gN ∧ (vs i).ownBlock ≠ some gD
  bx : wa.heap[w.heap.size]? = some (.cells #[.int .i64 (b : Int), .int .i64 (C : Int)] 23 (0, 0))
theorem Sd.after {rv : Value} {vs vs' : Nat → Value} {row nl dl : List Tk} (h : Sd w wa k gN gD b C rv vs row nl dl) (hk : Kp wa wb) (hv : VF wa.heap.size vs vs') : Sd w wb k gN gD b C rv vs' row nl dl := by
  have kp : ∀ {v : Value} {l : List Tk}, TOwn wa w.heap.size v l → TOwn wb w.heap.size v l := fun ho => hk.row ho (by unfold pT; decide)
  have lN := (h.onl.lt gN rfl).2
  have lD := (h.odl.lt gD rfl).2
  have no : ∀ i g, g < wa.heap.size → (vs i).ownBlock ≠ some g → (vs' i).ownBlock ≠ some g := fun i g hg hn e => by
    rcases hv i g e with q | q
    · exact hn q
    · omega
  exact ⟨kp h.orv, kp h.onl, kp h.odl, h.len, fun g hg => ⟨(h.dis g hg).1, (h.dis g hg).2.1, fun i hi => no i g (h.orv.lt g hg).2 ((h.dis g hg).2.2 i hi)⟩, fun i hi => ⟨no i gN lN (h.vd i hi).1, no i gD lD (h.vd i hi).2⟩, hk.2 _ _ _ h.bx (by unfold pT; decide)⟩
theorem Sd.below {rv : Value} {vs : Nat → Value} {row nl dl : List Tk} (h : Sd w wa k gN gD b C rv vs row nl dl) (hb : Below wa.heap.size wa wb) : Sd w wb k gN gD b C rv vs row nl dl :=
  h.after (Kp.of_below hb) (VF.refl _ _)
theorem FInv.of {rv : Value} {lv : Value} {s : Ast} {vs : Nat → Value} {gs : Nat → Bool} {ds : Nat → Hs} {row : List Tk} {H : Int} {nl dl : List Tk} (h : RW w wa X ab gc Y Z k tb lv s gP cP gH cH qs ps vs gs ds b C j row H) (hs : Sd w wa k gN gD b C rv vs row nl dl) (hf : FiI k ds row nl dl) : FInv w X ab gc Y Z k tb gP cP gH cH gN gD qs ps b C j rv (.int .i64 H) wa :=
  ⟨lv, s, vs, gs, ds, row, H, nl, dl, h, rfl, hs.orv, hs.onl, hs.odl, hs.len, hs.dis, hs.vd, hs.bx, hf⟩
/-- A place of one of the two rows is written. -/
theorem Sd.put {rv : Value} {vs : Nat → Value} {row nl dl : List Tk} {lv : Value} {s : Ast} {gs : Nat → Bool} {ds : Nat → Hs} {row' : List Tk} {H : Int} (h : Sd w wa k gN gD b C rv vs row nl dl) (hr : RW w wa X ab gc Y Z k tb lv s gP cP gH cH qs ps vs gs ds b C j row' H) {i : Nat} (hi : i < k) (x : Tk) (N : Bool) :
    let g := if N then gN else gD
    let w2 := (wa.setCell ⟨g, i * 2, none⟩ (.int .u64 x.1)).setCell ⟨g, i * 2 + 1, none⟩ (.int .u64 x.2)
    RW w w2 X ab gc Y Z k tb lv s gP cP gH cH qs ps vs gs ds b C j row' H ∧ Sd w w2 k gN gD b C rv vs row (if N then nl.set i x else nl) (if N then dl else dl.set i x) := by
  intro g w2
  have hg : g = gN ∨ g = gD := by cases N <;> simp [g]
  have c : Chg (fun q => q = g) wa w2 := ((Chg.refl (fun q => q = g) wa).putq _ _).putq _ _
  obtain ⟨csN, htN⟩ := (own_tyz h.onl rfl).2
  obtain ⟨csD, htD⟩ := (own_tyz h.odl rfl).2
  have hlo : w.heap.size ≤ g := by rcases hg with e | e <;> rw [e]; exact (h.onl.lt gN rfl).1; exact (h.odl.lt gD rfl).1
  have hr2 := hr.far c (fun q hq => by
    subst hq
    refine ⟨hlo, fun _ => ?_⟩
    rcases hg with e | e
    · rw [e]; exact ⟨_, _, htN, by decide, by decide, by decide, by unfold pT; decide, fun _ i hi => (h.vd i hi).1⟩
    · rw [e]; exact ⟨_, _, htD, by decide, by decide, by decide, by unfold pT; decide, fun _ i hi => (h.vd i hi).2⟩)
  have stay : ∀ {v : Value} {l : List Tk}, v.ownBlock ≠ some g → TOwn wa w.heap.size v l → TOwn w2 w.heap.size v l := fun hn ho => own_stayR ho (fun q hq => c.block _ (ho.lt q hq).2 (fun e => hn (by rw [hq, e])))
  have hbx : w2.heap[w.heap.size]? = some (.cells #[.int .i64 (b : Int), .int .i64 (C : Int)] 23 (0, 0)) := c.heap h.bx (fun e => by
    rcases hg with q | q
    · exact ne_ty h.bx htN (by decide) (by rw [e, q])
    · exact ne_ty h.bx htD (by decide) (by rw [e, q]))
  have hrv : TOwn w2 w.heap.size rv row := stay (fun e => by
    have := h.dis g e
    rcases hg with q | q
    · exact this.1 q
    · exact this.2.1 q) h.orv
  refine ⟨hr2, hrv, ?_, ?_, ?_, h.dis, h.vd, hbx⟩
  · cases N
    · exact stay (fun e => h.len.2.2 (Option.some.inj e)) h.onl
    · exact h.onl.put (by rw [h.len.1]; exact hi) x
  · cases N
    · exact h.odl.put (by rw [h.len.2.1]; exact hi) x
    · exact stay (fun e => h.len.2.2 (Option.some.inj e).symm) h.odl
  · cases N <;> simp [h.len]
/-- The row has grown by one. -/
theorem Sd.app {rv : Value} {vs : Nat → Value} {row nl dl : List Tk} {lv : Value} {s : Ast} {gs : Nat → Bool} {ds : Nat → Hs} {row' : List Tk} {H : Int} {o : Obj} {g6 c6 : Nat} {x : Tk} (h : Sd w wa k gN gD b C rv vs row nl dl) (hr : RW w wa X ab gc Y Z k tb lv s gP cP gH cH qs ps vs gs ds b C j row' H)
    (hown : wb.ownsRow w.heap.size 42 2 (.slice (some ⟨g6, 0, none⟩) (row.length + 1) c6) (row.length + 1) (tCells row ++ [.int .u64 x.1, .int .u64 x.2])) (hgr : (wa.alloc o).grownBy wb rv.ownBlock) (hat : rv.ownBlock = some g6 ∨ g6 = wa.heap.size + 1) :
    RW w wb X ab gc Y Z k tb lv s gP cP gH cH qs ps vs gs ds b C j row' H ∧ Sd w wb k gN gD b C (.slice (some ⟨g6, 0, none⟩) (row.length + 1) c6) vs (row ++ [x]) nl dl := by
  have c : Chg (fun q => rv.ownBlock = some q) wa wb := ((Chg.refl _ wa).alloc o).grown hgr (fun q e => .inl e)
  have hr2 := hr.far c (fun q hq => ⟨(h.orv.lt q hq).1, fun _ => by
    obtain ⟨_, cs, ht⟩ := own_tyz h.orv hq
    exact ⟨cs, _, ht, by decide, by decide, by decide, by unfold pT; decide, fun _ i hi => (h.dis q hq).2.2 i hi⟩⟩)
  have lN := h.onl.lt gN rfl
  have lD := h.odl.lt gD rfl
  have nN : ¬ rv.ownBlock = some gN := fun e => (h.dis gN e).1 rfl
  have nD : ¬ rv.ownBlock = some gD := fun e => (h.dis gD e).2.1 rfl
  refine ⟨hr2, ?_, own_stayR h.onl (fun q hq => by cases hq; exact c.block _ lN.2 nN), own_stayR h.odl (fun q hq => by cases hq; exact c.block _ lD.2 nD), h.len, fun g hg => ?_, h.vd, c.heap h.bx (fun e => by
    obtain ⟨_, cs, ht⟩ := own_tyz h.orv e
    exact ne_ty h.bx ht (by decide) rfl)⟩
  · unfold TOwn
    rw [List.length_append, tCells_snoc]
    exact hown
  · have hg' : g6 = g := Option.some.inj hg
    subst hg'
    rcases hat with e | e
    · exact h.dis g6 e
    · refine ⟨by omega, by omega, fun i hi q => ?_⟩
      have := ((hr.rm.hd i hi).2.lt g6 q).2
      omega
end
/-- What an access tells, and what it does to the row. -/
structure AcA (b : Nat) (d d' : Hs) (a : Acc) (row row' : List Tk) (H H' : Int) : Prop where
  kind : a.kind = 3
  ok : a.ok = true
  cell : a.cell = b
  ph : d'.ph ≠ 0
  row : row' = row ++ [d.t]
  hd : H' = H
  ins : 1 ≤ d.ph ∧ d.ph ≤ 6
  d4 : d' = { d with ph := 4 }
structure AcB (b : Nat) (d d' : Hs) (a : Acc) (row row' : List Tk) (H H' : Int) : Prop where
  kind : a.kind = 3
  ok : a.ok = true
  cell : a.cell = (b : Int) + 1
  ph : d'.ph ≠ 0
  row : row' = row
  hd : H' = H + 1
  d4 : d' = { d with ph := 10 }
  dp : d.ph = 9
structure AcC (d d' : Hs) (a : Acc) (row row' : List Tk) (H H' : Int) : Prop where
  ok : a.kind = 3 → a.ok = false
  row : row' = row
  hd : H' = H
  st : d'.ph = 0 → d'.st = 5 → d.ph = 12 ∧ d'.out = [d.t]
  keep : (1 ≤ d'.ph → d'.ph ≤ 6 → d'.t = d.t ∧ 1 ≤ d.ph ∧ d.ph ≤ 6) ∧ (10 ≤ d'.ph → d'.place = d.place ∧ 10 ≤ d.ph)
theorem acc_cases (b C : Nat) (who : Int) (d : Hs) (x : Int) (row : List Tk) (H : Int) (h0 : d.ph ≠ 0) (h12 : d.ph ≤ 12) :
    (AcA b d (d.next C x) (d.acc b C who x) row (d.rowN x row) H (d.gonN x H) ∧ d.ph = 3 ∧ x = d.place) ∨ (AcB b d (d.next C x) (d.acc b C who x) row (d.rowN x row) H (d.gonN x H) ∧ x = d.place) ∨ AcC d (d.next C x) (d.acc b C who x) row (d.rowN x row) H (d.gonN x H) := by
  by_cases hA : d.ph = 3 ∧ x = d.place
  · left
    obtain ⟨e, q⟩ := hA
    have h1 : d.next C x = { d with ph := 4 } := by unfold Hs.next; simp only [e]; rw [if_pos q]
    have h2 : d.acc b C who x = ⟨who, 3, b, d.place, uw (d.place + 1), x, if x = d.place then uw (d.place + 1) else x, decide (x = d.place)⟩ := by unfold Hs.acc Hs.cell; simp only [e]
    refine ⟨⟨by rw [h2], by rw [h2]; simpa using q, by rw [h2], by rw [h1]; simp, if_pos ⟨e, q⟩, if_neg (by omega), by omega, h1⟩, e, q⟩
  · by_cases hB : d.ph = 9 ∧ x = d.place
    · right; left
      obtain ⟨e, q⟩ := hB
      have h1 : d.next C x = { d with ph := 10 } := by unfold Hs.next; simp only [e]; rw [if_pos q]
      have h2 : d.acc b C who x = ⟨who, 3, ((b + 1 : Nat) : Int), d.place, uw (d.place + 1), x, if x = d.place then uw (d.place + 1) else x, decide (x = d.place)⟩ := by unfold Hs.acc Hs.cell; simp only [e]
      exact ⟨⟨by rw [h2], by rw [h2]; simpa using q, by rw [h2]; simp, by rw [h1]; simp, if_neg hA, if_pos ⟨e, q⟩, h1, e⟩, q⟩
    · right; right
      refine ⟨fun hk => ?_, if_neg hA, if_neg hB, ?_, ?_⟩
      · unfold Hs.acc at hk ⊢
        split at hk
        all_goals first
          | (exfalso; simp at hk; done)
          | skip
        · rename_i e
          simp only [e]
          simpa using fun q => hA ⟨e, q⟩
        · rename_i e
          simp only [e]
          simpa using fun q => hB ⟨e, q⟩
      · unfold Hs.next Hs.fin
        split
        all_goals (repeat' split)
        all_goals (intro q1 q2; simp_all)
      · unfold Hs.next Hs.fin
        split
        all_goals (repeat' split)
        all_goals (refine ⟨fun q1 q2 => ?_, fun q1 => ?_⟩ <;> simp_all <;> omega)
end Go.Proofs.YtgjdjdgondpjeaaGreat
