/- of: the edges from a vertex; sameEdges of like lists. -/
import Derived.Test.YtmagigmcbegmiaaGKp
import Derived.Test.YtmagigmcbegmiaaGU
import Derived.Deep.AppendLies
import Derived.Deep.RegionHeld3
namespace Go.Proofs.Ytmagigmcbegmiaa
open Go.RowKit Go.Lib
set_option linter.unusedVariables false
set_option linter.unusedSimpArgs false
/-- A list of one's own that grows. -/
structure FLm (w : World) (lv : Value) (l : List Ed3) (x : World) : Prop where
  own : x.ownsRow w.heap.size 50 3 lv l.length (eCells l)
  bel : Below w.heap.size w x
theorem FLm.start (w : World) : FLm w (.slice none 0 0) [] w := ⟨World.ownsRow_nil _ _ _ _, Below.refl _ _⟩
theorem FLm.below {w x y : World} {lv : Value} {l : List Ed3} (h : FLm w lv l x) (hb : Below x.heap.size x y) : FLm w lv l y :=
  ⟨(by
    obtain ⟨h0, hn | ⟨g, cap, cur, rfl, hg, hc, r⟩⟩ := h.own
    · exact ⟨h0, .inl hn⟩
    · exact ⟨h0, .inr ⟨g, cap, cur, rfl, hg, (hb.block g (lt_of_heap hc)).trans hc, r⟩⟩), below_on h.bel hb⟩
theorem FLm.step {w x y z : World} {lv lv' : Value} {l : List Ed3} {p : Ed3} {m : Nat} (h : FLm w lv l x) (hm : l.length = m) (hb : Below x.heap.size x y) (h1 : z.ownsRow w.heap.size 50 3 lv' (m + 1) (eCells l ++ [.int .i64 p.1, .int .i64 p.2.1, .int .u64 p.2.2])) (h2 : y.grownBy z lv.ownBlock) : FLm w lv' (l ++ [p]) z := by
  subst hm
  have hy := h.below hb
  have hl := fun g e => h.own.lt g e
  exact ⟨by rw [eCells_snoc]; simpa using h1, hy.bel.grown h2 hy.bel.size (fun j hj => by have := (hl j hj).1; omega)⟩
theorem keptG {y z : World} {row : Option Nat} {g a b c : Nat} {p q r : Value} (hg : y.grownBy z row) (hr : ∀ k, row = some k → g < k) (h : y.cell? ⟨g, a, none⟩ = some p ∧ y.cell? ⟨g, b, none⟩ = some q ∧ y.cell? ⟨g, c, none⟩ = some r) : z.cell? ⟨g, a, none⟩ = some p ∧ z.cell? ⟨g, b, none⟩ = some q ∧ z.cell? ⟨g, c, none⟩ = some r := by
  have hb : z.heap[g]? = y.heap[g]? := hg.block g (block_of_cell h.1) (fun e => by have := hr g e.symm; omega)
  exact ⟨(World.cell?_of_block hb).trans h.1, (World.cell?_of_block hb).trans h.2.1, (World.cell?_of_block hb).trans h.2.2⟩
theorem fil_take_pos {l : List Ed3} {v : Int} {i : Nat} (hi : i < l.length) (h : (eAt l i).1 = v) : fil v (l.take (i + 1)) = fil v (l.take i) ++ [eAt l i] := by
  have he : eAt l i = l[i] := by simp [eAt, hi]
  rw [List.take_succ_eq_append_getElem hi]
  unfold fil
  rw [List.filter_append, List.filter_cons_of_pos (by rw [← he, h]; simp), List.filter_nil, he]
theorem fil_take_neg {l : List Ed3} {v : Int} {i : Nat} (hi : i < l.length) (h : ¬ (eAt l i).1 = v) : fil v (l.take (i + 1)) = fil v (l.take i) := by
  have he : eAt l i = l[i] := by simp [eAt, hi]
  rw [List.take_succ_eq_append_getElem hi]
  unfold fil
  rw [List.filter_append, List.filter_cons_of_neg (by rw [← he]; simpa using h), List.filter_nil, List.append_nil]
theorem fil_len (v : Int) (l : List Ed3) (i : Nat) : (fil v (l.take i)).length ≤ i := by
  have := List.length_filter_le (fun e : Ed3 => e.1 == v) (l.take i)
  have h2 := List.length_take_le i l
  unfold fil
  omega
set_option maxRecDepth 100000 in
set_option maxHeartbeats 4000000 in
theorem of_any (lv : Value) (l : List Ed3) (v : Int) (w : World) (hE : EAt w lv l) (hl : l.length ≤ 4194304) :
    Calls Try.prog 27 #[lv, .int .i64 v] w fun e w' => ∃ lo lc, e = .returned (.slice lo (fil v l).length lc) ∧ EAt w' (.slice lo (fil v l).length lc) (fil v l) ∧ Below w.heap.size w w' := by
  obtain ⟨i0, hi, hz0, hz1, hz2⟩ := info_parts3 Try.info50'
  obtain ⟨ao, c, rfl, hl1, hl2, hl3⟩ := id hE
  have HE := hide hE
  have HL := hide hl
  obtain ⟨n, hn⟩ : ∃ n, n = l.length := ⟨_, rfl⟩
  rw [← hn] at hl hl1 ⊢
  have HN := hide hn
  have HB0 := hide (FLm.start w)
  clear hE hl3 hn
  go_enter Try.func27, Try.ntmps27
  go_wp2_with fail
  go_loopw [5, 6] (fun lv' t wr => ∃ i : Nat, i ≤ n ∧ t = .int .i64 i ∧ FLm w lv' (fil v (l.take i)) wr) (fun _ t _ => n - (RowKit.intOf t).toNat)
  case atStart => exact ⟨0, by omega, rfl, by simpa [fil] using HB0.out⟩
  case round =>
    obtain ⟨i, hiK, rfl, hbl⟩ := hrel
    clear HB0
    have HBL := hide hbl
    clear hbl
    by_cases hlt : i < n
    · have hil : i < l.length := by rw [← HN.out]; exact hlt
      obtain ⟨g, o, rfl, hgl, e0, e1, e2⟩ := (HE.out.below HBL.out.bel).cellAt hil
      have hgw : g < w.heap.size := by
        obtain ⟨_, _, hv, _, _, h3⟩ := HE.out
        cases hv
        obtain ⟨g', o', he, p, _⟩ := h3 i hil
        cases he
        exact block_of_cell p
      obtain ⟨x, hx⟩ : ∃ x, x = (eAt l i).1 := ⟨_, rfl⟩
      obtain ⟨y, hy⟩ : ∃ y, y = (eAt l i).2.1 := ⟨_, rfl⟩
      obtain ⟨z, hz⟩ : ∃ z, z = (eAt l i).2.2 := ⟨_, rfl⟩
      have hxyz : eAt l i = (x, y, z) := by rw [hx, hy, hz]
      have HX := hide hxyz
      rw [← hx] at e0
      rw [← hy] at e1
      rw [← hz] at e2
      have HIL := hide hil
      clear hx hy hz hxyz hil
      have hic : i < c := by omega
      by_cases hxv : x = v
      · have hxb : (x == v) = true := by simp [hxv]
        have HSU := hide (fil_take_pos (v := v) HIL.out (by rw [HX.out]; exact hxv))
        rw [HX.out] at HSU
        have HFL := hide (fil_len v l i)
        obtain ⟨k, hk⟩ : ∃ k, (fil v (l.take i)).length = k := ⟨_, rfl⟩
        have hos := HBL.out.own
        rw [hk] at hos HFL
        have HK := hide hk
        have HOS := hide hos
        have hk2 : k ≤ 4194304 := by have := HFL.out; omega
        have HKB := hide hk2
        have HLT := hide (fun j (e : u5.ownBlock = some j) => (show g < j by have := (HBL.out.own.lt j e).1; omega))
        have HSZ : Hid (w.heap.size ≤ wr.heap.size) := HBL.out.bel.size
        have HHH := hide (fun X (hX : Below wr.heap.size wr X) => (⟨(below_cell hX (by have := HSZ.out; omega)).trans e0, (below_cell hX (by have := HSZ.out; omega)).trans e1, (below_cell hX (by have := HSZ.out; omega)).trans e2⟩ : X.cell? ⟨g, o + i * 3, none⟩ = some (.int .i64 x) ∧ X.cell? ⟨g, o + i * 3 + 1, none⟩ = some (.int .i64 y) ∧ X.cell? ⟨g, o + i * 3 + 2, none⟩ = some (.int .u64 z)))
        clear hk hos hxv hk2
        go_wp2_with (at_builtin; refine wpList_append_lies _ rfl (.tmp 20) (.tmp 25) 45 rfl w.heap.size 50 i0 (.agg #[.int .i64 0, .int .i64 0, .int .u64 0]) 3 24 Try.underlying45 hi hz0 hz1 hz2 rfl (by omega) u5 k (eCells (fil v (l.take i))) rfl (HOS.out.alloc _) ⟨wr.heap.size, 0, none⟩ 1 1 [.int .i64 x, .int .i64 y, .int .u64 z] rfl rfl (three_cells wr _ _ _ _) (by simp [Value.oneCell']) (by omega) (by have := HKB.out; unfold maxLen; omega) (by have := HKB.out; omega) (by have := HSZ.out; simp; omega) (wr.heap.size + 1) (by simp) ?_; intro g5 cap5 w5 hownB hgrowB hatB hltB; have HB5 := hide (HBL.out.step (p := (x, y, z)) HK.out (below_alloc (Below.refl _ _) _) hownB hgrowB); rw [← HSU.out] at HB5; clear hownB hgrowB hatB hltB)
        go_roundw
        case rel => exact ⟨i + 1, by omega, by simp, HB5.out⟩
        case measure => simp [RowKit.intOf]; omega
      · have hxb : (x == v) = false := by simp [hxv]
        have HB5 := hide HBL.out
        rw [← fil_take_neg (v := v) HIL.out (by rw [HX.out]; exact hxv)] at HB5
        clear hxv
        go_wp2_with fail
        go_roundw
        case rel => exact ⟨i + 1, by omega, by simp, HB5.out⟩
        case measure => simp [RowKit.intOf]; omega
    · obtain rfl : i = n := by omega
      have hfin := HBL.out
      rw [HN.out, List.take_length] at hfin
      have HEA := hide (EAt.of_owns hfin.own)
      have HBE := hide hfin.bel
      obtain ⟨lo, lc, rfl, _⟩ := id HEA.out
      clear hfin HBL
      go_wp2_with fail
      go_ret
      exact ⟨lo, lc, rfl, HEA.out, HBE.out⟩
theorem field_int {d : Nat} {f : Field} {fs : List Field} {l m : Array Value} {k : IntKind} {x y : Int} {r : Bool} {w : World} (hn : f.name ≠ "_") (hu : Try.prog.underlying f.type = some (.int k))
    (hl : (part f.type l f.offset).run Try.prog w = .ok (.int k x) w) (hm : (part f.type m f.offset).run Try.prog w = .ok (.int k y) w)
    (h : (Op.eqFields (d + 1) l m fs).run Try.prog w = .ok r w) : (Op.eqFields (d + 1) l m (f :: fs)).run Try.prog w = .ok (x == y && r) w := by
  simp only [Op.eqFields, if_pos hn, Sem.run_bind]
  rw [hl, Result.andThen_ok, hm, Result.andThen_ok, run_equalIn_int w d f.type k k x y hu, Result.andThen_ok]
  cases hxy : (x == y)
  · simp
  · simpa using h
theorem part3 (l : Array Value) (i : Nat) (x : Value) (w : World) (h : l[i]? = some x) : (part 3 l i).run Try.prog w = .ok x w := by
  simp [part, Try.sizeOf3, Try.isAgg3, h]
theorem part48 (l : Array Value) (i : Nat) (x : Value) (w : World) (h : l[i]? = some x) : (part 48 l i).run Try.prog w = .ok x w := by
  simp [part, Try.sizeOf48, Try.isAgg48, h]
theorem Try.fields50 : Try.prog.underlying 50 = some (.struct (Try.prog.fieldsOf 50)) := by kernel_rfl
theorem Try.held50 : Try.prog.stoodInHeld 50 = false := by kernel_rfl
theorem Try.list50 : (Try.prog.fieldsOf 50).toList = [{ name := "From", type := 3, offset := 0, embedded := false, tag := "", pkgPath := "", byteOffset := 0 }, { name := "To", type := 3, offset := 1, embedded := false, tag := "", pkgPath := "", byteOffset := 8 }, { name := "Weight", type := 48, offset := 2, embedded := false, tag := "", pkgPath := "", byteOffset := 16 }] := by kernel_rfl
theorem equalIn_edge (a0 a1 a2 b0 b1 b2 : Int) (w : World) : (Op.equalIn 10000 50 (.agg #[.int .i64 a0, .int .i64 a1, .int .u64 a2]) (.agg #[.int .i64 b0, .int .i64 b1, .int .u64 b2])).run Try.prog w = .ok (a0 == b0 && (a1 == b1 && (a2 == b2 && true))) w := by
  rw [show (10000 : Nat) = 9998 + 1 + 1 from rfl, run_equalIn_struct w (9998 + 1) 50 _ _ Try.fields50 Try.held50, Try.list50]
  refine field_int (by decide) Try.underlying3 (part3 _ _ _ _ rfl) (part3 _ _ _ _ rfl) ?_
  refine field_int (by decide) Try.underlying3 (part3 _ _ _ _ rfl) (part3 _ _ _ _ rfl) ?_
  refine field_int (by decide) Try.underlying48 (part48 _ _ _ _ rfl) (part48 _ _ _ _ rfl) ?_
  simp [Op.eqFields]
theorem neq_edge (a0 a1 a2 b0 b1 b2 : Int) (w : World) :
    (binOp .neq 50 (.agg #[.int .i64 a0, .int .i64 a1, .int .u64 a2]) (.agg #[.int .i64 b0, .int .i64 b1, .int .u64 b2])).run Try.prog w = .ok (.bool (!(a0 == b0 && (a1 == b1 && (a2 == b2 && true))))) w := by
  rw [run_neq_struct, equalIn_edge, Result.andThen_ok]
theorem neq_edge_same (a0 a1 a2 : Int) (w : World) :
    (binOp .neq 50 (.agg #[.int .i64 a0, .int .i64 a1, .int .u64 a2]) (.agg #[.int .i64 a0, .int .i64 a1, .int .u64 a2])).run Try.prog w = .ok (.bool false) w := by
  rw [neq_edge]; simp
set_option maxRecDepth 100000 in
set_option maxHeartbeats 2000000 in
theorem sameEdges_any (v1 v2 : Value) (l : List Ed3) (w : World) (h1 : EAt w v1 l) (h2 : EAt w v2 l) :
    Calls Try.prog 23 #[v1, v2] w fun e w' => e = .returned (.bool true) ∧ Below w.heap.size w w' := by
  obtain ⟨a1, c1, rfl, hc1, hm1, H1⟩ := h1
  obtain ⟨a2, c2, rfl, hc2, hm2, H2⟩ := h2
  have H1 := hide H1
  have H2 := hide H2
  obtain ⟨n, hn⟩ : ∃ n, n = l.length := ⟨_, rfl⟩
  rw [← hn] at H1 H2 hc1 hc2 ⊢
  clear hn
  have HE := hide (fun a b c w => neq_edge_same a b c w)
  go_enter Try.func23, Try.ntmps23
  go_wp2
  go_loopw [5] (fun t wr => ∃ k : Nat, k ≤ n ∧ t = .int .i64 k ∧ ∃ m, wr = w.drewN m) (fun t _ => n - (RowKit.intOf t).toNat)
  case atStart => exact ⟨0, by omega, rfl, 0, rfl⟩
  case round =>
    obtain ⟨k, hk, rfl, m, rfl⟩ := hrel
    by_cases hlt : k < n
    · obtain ⟨g1, o1, e1, d1, d1', d1''⟩ := H1.out k hlt
      obtain ⟨g2, o2, e2, d2, d2', d2''⟩ := H2.out k hlt
      subst e1
      subst e2
      obtain ⟨x, hx⟩ : ∃ x, x = (eAt l k).1 := ⟨_, rfl⟩
      obtain ⟨y, hy⟩ : ∃ y, y = (eAt l k).2.1 := ⟨_, rfl⟩
      obtain ⟨z, hz⟩ : ∃ z, z = (eAt l k).2.2 := ⟨_, rfl⟩
      rw [← hx] at d1 d2
      rw [← hy] at d1' d2'
      rw [← hz] at d1'' d2''
      clear hx hy hz
      have hne := fun w => HE.out x y z w
      go_wp2
      go_region
      all_goals
        go_wp2
        go_roundw
        case rel => exact ⟨k + 1, by omega, by go_num, m + 1, rfl⟩
        case measure => simp [RowKit.intOf]; omega
    · obtain rfl : k = n := by omega
      go_wp2
      go_ret
      exact ⟨rfl, below_drewN (Below.refl _ _) _⟩
end Go.Proofs.Ytmagigmcbegmiaa
