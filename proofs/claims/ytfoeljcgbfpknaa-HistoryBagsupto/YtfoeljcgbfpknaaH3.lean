/- The events laid out: eventsOf. -/
import Derived.Test.YtfoeljcgbfpknaaH2
import Derived.BigQuiet
namespace Go.Proofs.Ytfoeljcgbfpknaa
open Go.RowKit Go.Lib
set_option linter.unusedVariables false
set_option linter.unusedSimpArgs false
theorem ev0_at : ∀ r, r < 5 → ∃ u, (#[.int .i64 0, .int .i64 0, .int .i64 0, .int .u64 0, .int .u64 0] : Array Value)[r]! = u ∧ (Ev.arr ev0)[r]? = some u
  | 0, _ => ⟨_, rfl, rfl⟩
  | 1, _ => ⟨_, rfl, rfl⟩
  | 2, _ => ⟨_, rfl, rfl⟩
  | 3, _ => ⟨_, rfl, rfl⟩
  | 4, _ => ⟨_, rfl, rfl⟩
  | r + 5, h => by omega
theorem made_ev (m : Nat) : (madeCells (Value.agg #[.int .i64 0, .int .i64 0, .int .i64 0, .int .u64 0, .int .u64 0]).cells (m * 5)).toList = rCells Ev.arr (List.replicate m ev0) := by
  apply List.ext_getElem?
  intro k
  by_cases hk : k < m * 5
  · have h1 : (List.replicate m ev0)[k / 5]? = some ev0 := by rw [List.getElem?_replicate, if_pos (by omega)]
    obtain ⟨u, hu1, hu2⟩ := ev0_at (k % 5) (by omega)
    have h3 := rCells_at Ev.size _ (k / 5) (k % 5) ev0 _ h1 hu2
    rw [show k / 5 * 5 + k % 5 = k by omega] at h3
    rw [h3, show (Value.agg #[.int .i64 0, .int .i64 0, .int .i64 0, .int .u64 0, .int .u64 0]).cells = #[.int .i64 0, .int .i64 0, .int .i64 0, .int .u64 0, .int .u64 0] from rfl]
    simp only [madeCells]
    rw [Array.getElem?_toList]
    simp only [Array.getElem?_map, Array.getElem?_range, hk, if_true, Option.map_some]
    exact congrArg some hu1
  · rw [List.getElem?_eq_none (by simp [madeCells]; omega), List.getElem?_eq_none (by rw [rCells_length Ev.size]; simp; omega)]
theorem ROwn.put5 {w : World} {fr g n cap : Nat} {l : List Ev} (h : ROwn Ev.arr 5 87 w fr (.slice (some ⟨g, 0, none⟩) n cap) l) {k : Nat} (hk : k < l.length) (e : Ev) :
    ROwn Ev.arr 5 87 (((((w.setCell ⟨g, k * 5, none⟩ (.int .i64 e.tm)).setCell ⟨g, k * 5 + 1, none⟩ (.int .i64 e.who)).setCell ⟨g, k * 5 + 2, none⟩ (.int .i64 e.kind)).setCell ⟨g, k * 5 + 3, none⟩ (.int .u64 e.key)).setCell ⟨g, k * 5 + 4, none⟩ (.int .u64 e.load)) fr (.slice (some ⟨g, 0, none⟩) n cap) (l.set k e) := by
  have hx : l[k]? = some (evAt l k) := evAt_get hk
  generalize evAt l k = x at hx
  obtain ⟨x0, x1, x2, x3, x4⟩ := x
  obtain ⟨e0, e1, e2, e3, e4⟩ := e
  have h0 := ROwn.set Ev.size h (j := 0) (u := .int .i64 e0) (y := ⟨e0, x1, x2, x3, x4⟩) hx (by decide) rfl
  have h1 := h0.set Ev.size (j := 1) (u := .int .i64 e1) (y := ⟨e0, e1, x2, x3, x4⟩) (getq_set hx) (by decide) rfl
  rw [List.set_set] at h1
  have h2 := h1.set Ev.size (j := 2) (u := .int .i64 e2) (y := ⟨e0, e1, e2, x3, x4⟩) (getq_set hx) (by decide) rfl
  rw [List.set_set] at h2
  have h3 := h2.set Ev.size (j := 3) (u := .int .u64 e3) (y := ⟨e0, e1, e2, e3, x4⟩) (getq_set hx) (by decide) rfl
  rw [List.set_set] at h3
  have h4 := h3.set Ev.size (j := 4) (u := .int .u64 e4) (y := ⟨e0, e1, e2, e3, e4⟩) (getq_set hx) (by decide) rfl
  rw [List.set_set] at h4
  exact h4
/-- Its cells and that they may be written. -/
theorem ROwn.five {w : World} {fr g n cap : Nat} {l : List Ev} (h : ROwn Ev.arr 5 87 w fr (.slice (some ⟨g, 0, none⟩) n cap) l) {k : Nat} (hk : k < l.length) :
    w.cell? ⟨g, k * 5, none⟩ = some (.int .i64 (evAt l k).tm) ∧ w.cell? ⟨g, k * 5 + 1, none⟩ = some (.int .i64 (evAt l k).who) ∧ w.cell? ⟨g, k * 5 + 2, none⟩ = some (.int .i64 (evAt l k).kind) ∧ w.cell? ⟨g, k * 5 + 3, none⟩ = some (.int .u64 (evAt l k).key) ∧ w.cell? ⟨g, k * 5 + 4, none⟩ = some (.int .u64 (evAt l k).load) ∧ ∀ i, w.frozen? ⟨g, i, none⟩ = false :=
  ⟨h.cell Ev.size (evAt_get hk) 0 _ rfl, h.cell Ev.size (evAt_get hk) 1 _ rfl, h.cell Ev.size (evAt_get hk) 2 _ rfl, h.cell Ev.size (evAt_get hk) 3 _ rfl, h.cell Ev.size (evAt_get hk) 4 _ rfl, fun i => h.free i⟩
theorem below_five {a w : World} {B g i0 i1 i2 i3 i4 : Nat} {u0 u1 u2 u3 u4 : Value} (h : Below B a w) (hg : B ≤ g) : Below B a (((((w.setCell ⟨g, i0, none⟩ u0).setCell ⟨g, i1, none⟩ u1).setCell ⟨g, i2, none⟩ u2).setCell ⟨g, i3, none⟩ u3).setCell ⟨g, i4, none⟩ u4) :=
  ((((h.setCell (p := ⟨g, i0, none⟩) hg _).setCell (p := ⟨g, i1, none⟩) hg _).setCell (p := ⟨g, i2, none⟩) hg _).setCell (p := ⟨g, i3, none⟩) hg _).setCell (p := ⟨g, i4, none⟩) hg _
theorem box_five {w : World} {b g i0 i1 i2 i3 i4 : Nat} {u0 u1 u2 u3 u4 : Value} {o : Option Obj} (h : w.heap[b]? = o) (hb : b ≠ g) : (((((w.setCell ⟨g, i0, none⟩ u0).setCell ⟨g, i1, none⟩ u1).setCell ⟨g, i2, none⟩ u2).setCell ⟨g, i3, none⟩ u3).setCell ⟨g, i4, none⟩ u4).heap[b]? = o := by
  rw [← h]; simp [World.setCell, Array.getElem?_modify, Ne.symm hb]
/-- Does the span fit among m moments? -/
def fits (m : Nat) (s : Sp) : Prop := 0 ≤ s.beg ∧ s.beg < (m : Int) ∧ s.en < (m : Int)
/-- The events of the first k spans, laid out. -/
def layE (m : Nat) (l : List Sp) : Nat → List Ev
  | 0 => List.replicate m ev0
  | k + 1 => if 0 ≤ (spAt l k).en then ((layE m l k).set (spAt l k).beg.toNat (begE (spAt l k))).set (spAt l k).en.toNat (endE (spAt l k)) else (layE m l k).set (spAt l k).beg.toNat (begE (spAt l k))
theorem layE_len (m : Nat) (l : List Sp) : ∀ k, (layE m l k).length = m
  | 0 => by simp [layE]
  | k + 1 => by unfold layE; split <;> simp [layE_len m l k]
/-- What eventsOf answers. -/
def EvP (l : List Sp) (w : World) (x : Ending) (w' : World) : Prop :=
  Below w.heap.size w w' ∧ (((∃ i, i < l.length ∧ ¬ fits (l.length + momP l l.length) (spAt l i)) ∧ x = .returned (.tuple #[.slice none 0 0, .bool false])) ∨
    ((∀ i, i < l.length → fits (l.length + momP l l.length) (spAt l i)) ∧ ∃ v, x = .returned (.tuple #[v, .bool true]) ∧ ROwn Ev.arr 5 87 w' w.heap.size v (layE (l.length + momP l l.length) l l.length)))
/-- While they are laid out. -/
structure EVM (w wr : World) (g m : Nat) (L : List Ev) : Prop where
  bel : Below w.heap.size w wr
  own : ROwn Ev.arr 5 87 wr w.heap.size (.slice (some ⟨g, 0, none⟩) m m) L
  len : L.length = m
theorem EVM.ge {w wr : World} {g m : Nat} {L : List Ev} (h : EVM w wr g m L) : w.heap.size ≤ g ∧ g < wr.heap.size := h.own.lt g rfl
theorem EVM.on {w wr w' : World} {g m : Nat} {L : List Ev} (h : EVM w wr g m L) (hb : Below wr.heap.size wr w') : EVM w w' g m L := ⟨below_on h.bel hb, h.own.below hb, h.len⟩
theorem EVM.put {w wr : World} {g m k : Nat} {L : List Ev} (h : EVM w wr g m L) (hk : k < m) (e : Ev) : EVM w (((((wr.setCell ⟨g, k * 5, none⟩ (.int .i64 e.tm)).setCell ⟨g, k * 5 + 1, none⟩ (.int .i64 e.who)).setCell ⟨g, k * 5 + 2, none⟩ (.int .i64 e.kind)).setCell ⟨g, k * 5 + 3, none⟩ (.int .u64 e.key)).setCell ⟨g, k * 5 + 4, none⟩ (.int .u64 e.load)) g m (L.set k e) :=
  ⟨below_five h.bel h.ge.1, h.own.put5 (by rw [h.len]; exact hk) e, by rw [List.length_set]; exact h.len⟩
set_option maxRecDepth 100000 in
set_option maxHeartbeats 4000000 in
theorem eventsOf_any (v : Value) (l : List Sp) (w : World) (h : RAt Sp.arr 7 w v l) (hl : l.length * 56 ≤ 140737488351232) : Calls Try.prog 55 #[v] w (EvP l w) := by
  obtain ⟨ii, hi0⟩ := Option.isSome_iff_exists.1 (show (Try.prog.info? 87).isSome = true by kernel_rfl)
  have hq := Try.info87
  rw [hi0] at hq
  simp only [Option.map_some, Option.some.injEq, Prod.mk.injEq] at hq
  obtain ⟨hz0, hz1, hz2⟩ := hq
  obtain ⟨ao, cap, rfl, hcap, h63⟩ := h.shape
  have H := hide h
  have HM := hide (momP_any _ l w h (by omega))
  have hmp := momP_le l l.length
  unfold EvP
  obtain ⟨m, hm⟩ : ∃ m, m = l.length + momP l l.length := ⟨_, rfl⟩
  have HMM := hide hm
  rw [← hm] at HM ⊢
  have hml : m ≤ 5026338869834 := by omega
  obtain ⟨n, hn⟩ : ∃ n, n = l.length := ⟨_, rfl⟩
  have HN := hide hn
  rw [← hn] at hcap H hl HM ⊢
  clear h hn hm hmp
  go_enter Try.func55, Try.ntmps55
  go_wp2_with fail
  refine HM.out.mono ?_
  rintro e w1 ⟨rfl, hb1⟩
  have HB1 := hide hb1
  have hs1 := hb1.size
  clear hb1 HM
  go_wp2_with (at_make; refine wpList_make_full _ rfl _ _ 48 rfl w.heap.size 87 ii (.agg #[.int .i64 0, .int .i64 0, .int .i64 0, .int .u64 0, .int .u64 0]) 5 Try.underlying48 hi0 hz0 hz1 _ _ _ _ m rfl rfl rfl rfl (by rw [hz2]; omega) (by unfold maxLen; omega) hs1 ?_; intro w2 hown hgrow; have HE : Hid (EVM w w2 w1.heap.size m (layE m l 0)) := ⟨HB1.out.grown hgrow HB1.out.size (by intro j hj; cases hj), by (unfold ROwn; rw [made_ev] at hown; rw [layE_len]; exact hown), layE_len m l 0⟩; clear hown hgrow)
  generalize w1.heap.size = g at HE ⊢
  clear HB1 hs1
  go_loopw [2, 3, 5, 11] (fun va vb _ t wr => ∃ i : Nat, i ≤ n ∧ va = .slice (some ⟨g, 0, none⟩) m m ∧ vb = .bool false ∧ t = .int .i64 (i : Int) ∧ EVM w wr g m (layE m l i) ∧ ∀ k, k < i → fits m (spAt l k)) (fun _ _ _ t _ => n - (RowKit.intOf t).toNat)
  case atStart => exact ⟨0, Nat.zero_le _, rfl, rfl, rfl, HE.out, fun k hk => by omega⟩
  case round =>
    clear HE
    obtain ⟨i, hin, rfl, rfl, rfl, hev, hft⟩ := hrel
    have HE := hide hev; have HF := hide hft
    clear hev hft
    by_cases hlt : i < n
    · have hli : (i : Int) < (n : Int) := by omega
      obtain ⟨gs, os, rfl, hgs, p0, p1, p2, p3, p4, p5, p6⟩ := sp_cells (H.out.below HE.out.bel) i (by rw [← HN.out]; exact hlt)
      have HL1 : Hid (layE m l (i + 1) = if 0 ≤ (spAt l i).en then ((layE m l i).set (spAt l i).beg.toNat (begE (spAt l i))).set (spAt l i).en.toNat (endE (spAt l i)) else (layE m l i).set (spAt l i).beg.toNat (begE (spAt l i))) := rfl
      have HF1 : Hid (fits m (spAt l i) → ∀ k, k < i + 1 → fits m (spAt l k)) := fun hf k hk => by
        by_cases e : k = i
        · subst e; exact hf
        · exact HF.out k (by omega)
      have HX : Hid (¬ fits m (spAt l i) → ∃ j, j < n ∧ ¬ fits m (spAt l j)) := fun hf => ⟨i, hlt, hf⟩
      generalize spAt l i = s at p0 p1 p2 p3 p4 p5 p6 HL1 HF1 HX
      obtain ⟨who, ins, key, load, beg, en, kind⟩ := s
      have HA : Hid (EVM w (wr.alloc (.cells #[.int .i64 who, .bool ins, .int .u64 key, .int .u64 load, .int .i64 beg, .int .i64 en, .int .i64 kind] 69)) g m (layE m l i)) := HE.out.on (below_alloc (Below.refl _ _) _)
      by_cases hb0 : beg < 0
      · have HR := hide (HX.out (fun h => by have := h.1; simp only at this; omega))
        go_wp2_with fail
        go_ret2
        exact ⟨HA.out.bel, .inl ⟨HR.out, rfl⟩⟩
      · by_cases hbm : (m : Int) ≤ beg
        · have HR := hide (HX.out (fun h => by have := h.2.1; simp only at this; omega))
          go_wp2_with fail
          go_ret2
          exact ⟨HA.out.bel, .inl ⟨HR.out, rfl⟩⟩
        · by_cases hem : (m : Int) ≤ en
          · have HR := hide (HX.out (fun h => by have := h.2.2; simp only at this; omega))
            go_wp2_with fail
            go_ret2
            exact ⟨HA.out.bel, .inl ⟨HR.out, rfl⟩⟩
          · have HR := hide (HF1.out ⟨by simp only; omega, by simp only; omega, by simp only; omega⟩)
            obtain ⟨b, rfl⟩ : ∃ b : Nat, beg = (b : Int) := ⟨beg.toNat, by omega⟩
            have hbl : (b : Int) < (m : Int) := by omega
            have hbl2 : b < m := by omega
            have HS : Hid (∀ x : World, x.heap[wr.heap.size]? = some (.cells #[.int .i64 who, .bool ins, .int .u64 key, .int .u64 load, .int .i64 (b : Int), .int .i64 en, .int .i64 kind] 69 (0, 0)) → (fun x => x.cell? ⟨wr.heap.size, 0, none⟩ = some (.int .i64 who) ∧ x.cell? ⟨wr.heap.size, 1, none⟩ = some (.bool ins) ∧ x.cell? ⟨wr.heap.size, 2, none⟩ = some (.int .u64 key) ∧ x.cell? ⟨wr.heap.size, 3, none⟩ = some (.int .u64 load) ∧ x.cell? ⟨wr.heap.size, 4, none⟩ = some (.int .i64 (b : Int)) ∧ x.cell? ⟨wr.heap.size, 5, none⟩ = some (.int .i64 en) ∧ x.cell? ⟨wr.heap.size, 6, none⟩ = some (.int .i64 kind)) x) := fun x hx => ⟨cell_of hx rfl, cell_of hx rfl, cell_of hx rfl, cell_of hx rfl, cell_of hx rfl, cell_of hx rfl, cell_of hx rfl⟩
            have hne : wr.heap.size ≠ g := by have := HE.out.ge; omega
            obtain ⟨E, hE⟩ : ∃ E, E = begE ⟨who, ins, key, load, (b : Int), en, kind⟩ := ⟨_, rfl⟩
            obtain ⟨F, hF⟩ : ∃ F, F = endE ⟨who, ins, key, load, (b : Int), en, kind⟩ := ⟨_, rfl⟩
            have HBG : Hid (∀ W : World, Calls Try.prog 93 #[.agg #[.int .i64 who, .bool ins, .int .u64 key, .int .u64 load, .int .i64 (b : Int), .int .i64 en, .int .i64 kind]] W fun x w' => x = .returned (.agg #[.int .i64 E.tm, .int .i64 E.who, .int .i64 E.kind, .int .u64 E.key, .int .u64 E.load]) ∧ Below W.heap.size W w') := fun W => by rw [hE]; exact beginOf_any _ W
            have HEG : Hid (∀ W : World, Calls Try.prog 94 #[.agg #[.int .i64 who, .bool ins, .int .u64 key, .int .u64 load, .int .i64 (b : Int), .int .i64 en, .int .i64 kind]] W fun x w' => x = .returned (.agg #[.int .i64 F.tm, .int .i64 F.who, .int .i64 F.kind, .int .u64 F.key, .int .u64 F.load]) ∧ Below W.heap.size W w') := fun W => by rw [hF]; exact endOf_any _ W
            rw [← hE, ← hF] at HL1
            simp only [Int.toNat_natCast] at HL1
            have HBX : Hid ((wr.alloc (.cells #[.int .i64 who, .bool ins, .int .u64 key, .int .u64 load, .int .i64 (b : Int), .int .i64 en, .int .i64 kind] 69)).heap[wr.heap.size]? = some (.cells #[.int .i64 who, .bool ins, .int .u64 key, .int .u64 load, .int .i64 (b : Int), .int .i64 en, .int .i64 kind] 69 (0, 0))) := heap_new _ _
            clear hE hF hb0 HX HF1
            go_wp2_with fail
            clear p0 p1 p2 p3 p4 p5 p6
            generalize (wr.alloc (.cells #[.int .i64 who, .bool ins, .int .u64 key, .int .u64 load, .int .i64 (b : Int), .int .i64 en, .int .i64 kind] 69)) = X at HA HBX ⊢
            have HBD : Hid (X.drew.heap[wr.heap.size]? = some (.cells #[.int .i64 who, .bool ins, .int .u64 key, .int .u64 load, .int .i64 (b : Int), .int .i64 en, .int .i64 kind] 69 (0, 0))) := HBX.out
            go_region_held3 (fun x => x.cell? ⟨wr.heap.size, 0, none⟩ = some (.int .i64 who) ∧ x.cell? ⟨wr.heap.size, 1, none⟩ = some (.bool ins) ∧ x.cell? ⟨wr.heap.size, 2, none⟩ = some (.int .u64 key) ∧ x.cell? ⟨wr.heap.size, 3, none⟩ = some (.int .u64 load) ∧ x.cell? ⟨wr.heap.size, 4, none⟩ = some (.int .i64 (b : Int)) ∧ x.cell? ⟨wr.heap.size, 5, none⟩ = some (.int .i64 en) ∧ x.cell? ⟨wr.heap.size, 6, none⟩ = some (.int .i64 kind)) (first | with_reducible exact HS.out _ HBD.out | with_reducible exact HS.out _ HB5.out | with_reducible exact HS.out _ (box_five HB5.out hne))
              (first | (go_at_call 93; refine (HBG.out _).mono ?_; rintro e w5 ⟨rfl, hb⟩; have HE5 := hide (HA.out.on (below_on (below_drew (Below.refl _ _)) hb)); have HB5 := hide ((hb.block _ (by show wr.heap.size < X.heap.size; exact lt_of_heap HBX.out)).trans HBX.out); obtain ⟨c0, c1, c2, c3, c4, fz⟩ := HE5.out.own.five (k := b) (by rw [HE5.out.len]; exact hbl2); have f0 := fz (b * 5); have f1 := fz (b * 5 + 1); have f2 := fz (b * 5 + 2); have f3 := fz (b * 5 + 3); have f4 := fz (b * 5 + 4); clear fz hb))
            have HP := hide (HE5.out.put hbl2 E)
            have HBY := hide (box_five (u0 := .int .i64 E.tm) (u1 := .int .i64 E.who) (u2 := .int .i64 E.kind) (u3 := .int .u64 E.key) (u4 := .int .u64 E.load) (i0 := b * 5) (i1 := b * 5 + 1) (i2 := b * 5 + 2) (i3 := b * 5 + 3) (i4 := b * 5 + 4) HB5.out hne)
            clear c0 c1 c2 c3 c4 f0 f1 f2 f3 f4 HE5 HB5 HBX HA HBG
            generalize (((((w5.setCell ⟨g, b * 5, none⟩ (.int .i64 E.tm)).setCell ⟨g, b * 5 + 1, none⟩ (.int .i64 E.who)).setCell ⟨g, b * 5 + 2, none⟩ (.int .i64 E.kind)).setCell ⟨g, b * 5 + 3, none⟩ (.int .u64 E.key)).setCell ⟨g, b * 5 + 4, none⟩ (.int .u64 E.load)) = Y at HP HBY ⊢
            obtain ⟨z0, z1, z2, z3, z4, z5, z6⟩ := HS.out Y HBY.out
            by_cases he0 : 0 ≤ en
            · have HL2 := HL1.out
              rw [if_pos he0] at HL2
              obtain ⟨c, rfl⟩ : ∃ c : Nat, en = (c : Int) := ⟨en.toNat, by omega⟩
              rw [Int.toNat_natCast] at HL2
              have HLQ := hide HL2
              have hcl : (c : Int) < (m : Int) := by omega
              have hcl2 : c < m := by omega
              have HBX := HBY
              clear HL2 HL1
              go_wp2_with fail
              clear z0 z1 z2 z3 z4 z5 z6
              have HBD : Hid (Y.drew.heap[wr.heap.size]? = some (.cells #[.int .i64 who, .bool ins, .int .u64 key, .int .u64 load, .int .i64 (b : Int), .int .i64 (c : Int), .int .i64 kind] 69 (0, 0))) := HBX.out
              go_region_held3 (fun x => x.cell? ⟨wr.heap.size, 0, none⟩ = some (.int .i64 who) ∧ x.cell? ⟨wr.heap.size, 1, none⟩ = some (.bool ins) ∧ x.cell? ⟨wr.heap.size, 2, none⟩ = some (.int .u64 key) ∧ x.cell? ⟨wr.heap.size, 3, none⟩ = some (.int .u64 load) ∧ x.cell? ⟨wr.heap.size, 4, none⟩ = some (.int .i64 (b : Int)) ∧ x.cell? ⟨wr.heap.size, 5, none⟩ = some (.int .i64 (c : Int)) ∧ x.cell? ⟨wr.heap.size, 6, none⟩ = some (.int .i64 kind)) (first | with_reducible exact HS.out _ HBD.out | with_reducible exact HS.out _ HB5.out | with_reducible exact HS.out _ (box_five HB5.out hne))
              (first | (go_at_call 94; refine (HEG.out _).mono ?_; rintro e w5 ⟨rfl, hb⟩; have HE5 := hide (HP.out.on (below_on (below_drew (Below.refl _ _)) hb)); have HB5 := hide ((hb.block _ (by show wr.heap.size < Y.heap.size; exact lt_of_heap HBX.out)).trans HBX.out); obtain ⟨c0, c1, c2, c3, c4, fz⟩ := HE5.out.own.five (k := c) (by rw [HE5.out.len]; exact hcl2); have f0 := fz (c * 5); have f1 := fz (c * 5 + 1); have f2 := fz (c * 5 + 2); have f3 := fz (c * 5 + 3); have f4 := fz (c * 5 + 4); clear fz hb))
              have HP2 := hide (HE5.out.put hcl2 F)
              clear c0 c1 c2 c3 c4 f0 f1 f2 f3 f4 HE5 HB5
              go_wp2_with fail
              exact ⟨⟨i + 1, by omega, rfl, rfl, by simp, by rw [HLQ.out]; exact HP2.out, HR.out⟩, mdecH hlt⟩
            · have HL2 := HL1.out
              rw [if_neg he0] at HL2
              have HLQ := hide HL2
              clear HL2 HL1
              go_wp2_with fail
              exact ⟨⟨i + 1, by omega, rfl, rfl, by simp, by rw [HLQ.out]; exact HP.out, HR.out⟩, mdecH hlt⟩
    · obtain rfl : i = n := by omega
      have hli : ¬ (i : Int) < (i : Int) := by omega
      go_wp2_with fail
      go_ret2
      exact ⟨HE.out.bel, .inr ⟨HF.out, _, rfl, HE.out.own⟩⟩
end Go.Proofs.Ytfoeljcgbfpknaa
