import Derived.Test.YtiohimbifjlfdaaPo
import Derived.Test.YtiohimbifjlfdaaOb
import Derived.Test.YtiohimbifjlfdaaChecks
import Derived.Deep.Cut
/- forwards: its memory. -/
namespace Go.Proofs.Ytiohimbifjlfdaa
open Go.RowKit Go.Lib
set_option linter.unusedVariables false
set_option linter.unusedSimpArgs false
theorem Good.lim {n : Nat} {st tl wt : List Int} (h : Good n st tl wt) : n ≤ 1048576 ∧ tl.length ≤ 4194304 := by
  first | exact ⟨h.n_le, h.m_le⟩ | (obtain ⟨h1, h2, h3, h4, h5⟩ := h; exact ⟨by omega, by omega⟩)
structure FM (w wr : World) (gb : Array Value) (A Q : Nat) (qv cv : Value) (L q l : List Int) : Prop where
  bel : Below w.heap.size w wr
  box : wr.heap[w.heap.size]? = some (.cells gb 28 (0, 0))
  arr : Arr wr A L
  qu : IQ wr Q (Q + 1) qv q
  hp : Hp q
  com : wr.ownsRow (Q + 1) 3 1 cv l.length (ivs l)
  wA : w.heap.size < A
  AQ : A < Q
  qc : ∀ k, qv.ownBlock = some k → cv.ownBlock ≠ some k
section
variable {w wr : World} {gb : Array Value} {A Q : Nat} {qv cv : Value} {L q l : List Int}
theorem FM.on (h : FM w wr gb A Q qv cv L q l) {w' : World} (hb : Below wr.heap.size wr w') : FM w w' gb A Q qv cv L q l :=
  ⟨below_on h.bel hb, (hb.block _ (lt_of_heap h.box)).trans h.box, (hb.block _ (lt_of_heap h.arr)).trans h.arr, h.qu.below hb, h.hp, own_chg (S := fun _ => False) h.com (Chg.of_below hb) (fun _ _ h => h), h.wA, h.AQ, h.qc⟩
theorem FM.come_lt (h : FM w wr gb A Q qv cv L q l) : ∀ k, cv.ownBlock = some k → Q + 1 ≤ k ∧ k < wr.heap.size := fun k hk => World.ownsRow.lt h.com k hk
/-- A call on the queue. -/
theorem FM.queue (h : FM w wr gb A Q qv cv L q l) {w' : World} {qv' : Value} {q' : List Int} (hq : IQ w' Q (Q + 1) qv' q') (hp : Hp q') (hc : Chg (QT wr Q qv) wr w') (ho : ∀ k, qv'.ownBlock = some k → QT wr Q qv k) : FM w w' gb A Q qv' cv L q' l := by
  have hb := lt_of_heap h.box
  have hA := lt_of_heap h.arr
  have hwA := h.wA; have hAQ := h.AQ
  have hno : ∀ k, k < Q → k < wr.heap.size → ¬ QT wr Q qv k := fun k h1 h2 h3 => by
    rcases h3 with h3 | h3 | h3
    · omega
    · have := h.qu.own_lt k h3; omega
    · omega
  have hnc : ∀ k, cv.ownBlock = some k → ¬ QT wr Q qv k := fun k hk h3 => by
    have h4 := h.come_lt k hk
    rcases h3 with h3 | h3 | h3
    · omega
    · exact h.qc k h3 hk
    · omega
  refine ⟨h.bel.trans ⟨hc.os, hc.tape, hc.output, hc.size, fun k hk => hc.block k (by have := h.bel.size; omega) (hno k (by omega) (by have := h.bel.size; omega))⟩, hc.heap h.box (hno _ (by omega) hb), hc.heap h.arr (hno _ hAQ hA), hq, hp, own_chg h.com hc hnc, hwA, hAQ, fun k hk hk2 => hnc k hk2 (ho k hk)⟩
theorem FM.pushed (h : FM w wr gb A Q qv cv L q l) {x : Int} {e : Ending} {w' : World} (hp : PushPost wr Q (Q + 1) qv q x e w') : e = .returned (.tuple #[]) ∧ ∃ qv' q', FM w w' gb A Q qv' cv L q' l ∧ q'.length = q.length + 1 ∧ q'.Perm (x :: q) := by
  obtain ⟨h1, v', l', h2, h3, h4, h5, h6, h7⟩ := hp
  exact ⟨h1, v', l', h.queue h2 h3 h6 h7, h4, h5⟩
theorem FM.popped (h : FM w wr gb A Q qv cv L q l) {e : Ending} {w' : World} (hp : PopPost wr Q (Q + 1) qv q e w') : e = .returned (.int .i64 (at_ q 0)) ∧ ∃ qv' q', FM w w' gb A Q qv' cv L q' l ∧ q.length = q'.length + 1 ∧ q.Perm (at_ q 0 :: q') := by
  obtain ⟨h1, v', l', h2, h3, h4, h5, h6, h7⟩ := hp
  exact ⟨h1, v', l', h.queue h2 h3 h6 h7, h4, h5⟩
theorem FM.setA (h : FM w wr gb A Q qv cv L q l) (i : Nat) (x : Int) : FM w (wr.setCell ⟨A, i, none⟩ (.int .i64 x)) gb A Q qv cv (L.set i x) q l := by
  have hwA := h.wA; have hAQ := h.AQ
  have hc : Chg (fun k => k = A) wr (wr.setCell ⟨A, i, none⟩ (.int .i64 x)) := (Chg.refl (fun k => k = A) wr).setCell (p := ⟨A, i, none⟩) rfl _
  refine ⟨Chg.below h.bel hc (fun k hk => by omega) h.bel.size, hc.heap h.box (by omega), h.arr.put i x, h.qu.chg hc (by omega) (fun g hg => by have := h.qu.own_lt g hg; omega), h.hp, own_chg h.com hc (fun g hg => by have := h.come_lt g hg; omega), hwA, hAQ, h.qc⟩
/-- One more has come. -/
theorem FM.came (h : FM w wr gb A Q qv cv L q l) {o : Obj} {x : Int} {g cap : Nat} {w2 : World} (hown : w2.ownsRow (Q + 1) 3 1 (.slice (some ⟨g, 0, none⟩) (l.length + 1) cap) (l.length + 1) (ivs l ++ [.int .i64 x])) (hgrow : (wr.alloc o).grownBy w2 cv.ownBlock) (hat : cv.ownBlock = some g ∨ g = wr.heap.size + 1) :
    FM w w2 gb A Q qv (.slice (some ⟨g, 0, none⟩) (l ++ [x]).length cap) L q (l ++ [x]) := by
  have hwA := h.wA; have hAQ := h.AQ
  have hb := lt_of_heap h.box
  have hA := lt_of_heap h.arr
  have hc : Chg (fun k => cv.ownBlock = some k) wr w2 := ((Chg.refl _ wr).alloc o).grown hgrow (fun k hk => .inl hk)
  have hno : ∀ k, k ≤ Q → ¬ cv.ownBlock = some k := fun k hk h3 => by have := h.come_lt k h3; omega
  refine ⟨Chg.below h.bel hc (fun k hk => by have := h.come_lt k hk; omega) h.bel.size, hc.heap h.box (hno _ (by omega)), hc.heap h.arr (hno _ (by omega)), h.qu.chg hc (hno _ (Nat.le_refl _)) (fun k hk => h.qc k hk), h.hp, ?_, hwA, hAQ, fun k hk hk2 => ?_⟩
  · rw [List.length_append, List.length_singleton, show ivs (l ++ [x]) = ivs l ++ [.int .i64 x] by simp [ivs]]
    exact hown
  · simp [Value.ownBlock] at hk2
    subst hk2
    rcases hat with h4 | h4
    · exact h.qc _ hk h4
    · have := h.qu.own_lt _ hk; omega
theorem FM.boxc (h : FM w wr gb A Q qv cv L q l) {j : Nat} {u : Value} (hu : gb[j]? = some u) : wr.cell? ⟨w.heap.size, j, none⟩ = some u := cell_of h.box hu
end
/-- Ahead of the queue. -/
structure F0 (w wr : World) (gb : Array Value) (A : Nat) (L : List Int) : Prop where
  bel : Below w.heap.size w wr
  box : wr.heap[w.heap.size]? = some (.cells gb 28 (0, 0))
  arr : Arr wr A L
  wA : w.heap.size < A
theorem F0.setA {w wr : World} {gb : Array Value} {A : Nat} {L : List Int} (h : F0 w wr gb A L) (i : Nat) (x : Int) : F0 w (wr.setCell ⟨A, i, none⟩ (.int .i64 x)) gb A (L.set i x) := by
  have hwA := h.wA
  have hc : Chg (fun k => k = A) wr (wr.setCell ⟨A, i, none⟩ (.int .i64 x)) := (Chg.refl (fun k => k = A) wr).setCell (p := ⟨A, i, none⟩) rfl _
  exact ⟨Chg.below h.bel hc (fun k hk => by omega) h.bel.size, hc.heap h.box (by omega), h.arr.put i x, hwA⟩
theorem F0.queue {w wr w' : World} {gb : Array Value} {A : Nat} {L : List Int} (h : F0 w wr gb A L) (hq : IQ w' wr.heap.size (wr.heap.size + 1) (.slice none 0 0) []) (hb : Below wr.heap.size wr w') : FM w w' gb A wr.heap.size (.slice none 0 0) (.slice none 0 0) L [] [] :=
  ⟨below_on h.bel hb, (hb.block _ (lt_of_heap h.box)).trans h.box, (hb.block _ (lt_of_heap h.arr)).trans h.arr, hq, fun i _ hi => by simp at hi, ⟨by simp [ivs], .inl ⟨rfl, rfl⟩⟩, h.wA, lt_of_heap h.arr, fun k hk => by simp [Value.ownBlock] at hk⟩
theorem FM.made {w wr w' : World} {gb : Array Value} {A Q n : Nat} {qv : Value} {L q : List Int} (h : FM w wr gb A Q qv (.slice none 0 0) L q []) (hown : w'.ownsRow (Q + 1) 3 1 (.slice (some ⟨wr.heap.size, 0, none⟩) 0 n) 0 []) (hgrow : wr.grownBy w' none) : FM w w' gb A Q qv (.slice (some ⟨wr.heap.size, 0, none⟩) 0 n) L q [] := by
  have hb : Below wr.heap.size wr w' := (Below.refl _ _).grown hgrow (Nat.le_refl _) (by intro j hj; cases hj)
  have h2 := h.on hb
  refine ⟨h2.bel, h2.box, h2.arr, h2.qu, h2.hp, hown, h2.wA, h2.AQ, fun k hk hk2 => ?_⟩
  simp [Value.ownBlock] at hk2
  have := h.qu.own_lt k hk
  omega
end Go.Proofs.Ytiohimbifjlfdaa

/- forwards. -/
namespace Go.Proofs.Ytiohimbifjlfdaa
open Go.RowKit Go.Lib
set_option linter.unusedVariables false
set_option linter.unusedSimpArgs false
theorem RowAt.part {k : IntKind} {w : World} {ao : Option Addr} {n c : Nat} {xs : List Int} (h : RowAt k w (.slice ao n c) xs) (p m : Nat) (hp : p + m ≤ n) : RowAt k w (.slice (if c = p then ao else ao.map (·.add (p * 1))) m (c - p)) ((xs.drop p).take m) := by
  obtain ⟨ao', c', he, h1, h2, h3, h4⟩ := h
  simp only [Value.slice.injEq] at he
  obtain ⟨rfl, hn, rfl⟩ := he
  have hl : ((xs.drop p).take m).length = m := by simp; omega
  refine ⟨_, c - p, by rw [hl], by rw [hl]; omega, by omega, fun e => ?_, fun a ha i hi => ?_⟩
  · by_cases hcp : c = p
    · omega
    · rw [if_neg hcp] at e
      have := h3 (by cases ao with | none => rfl | some a => simp at e)
      omega
  · rw [hl] at hi
    have hcp : ¬ c = p := by omega
    rw [if_neg hcp] at ha
    cases ao with
    | none => simp at ha
    | some b =>
      simp only [Option.map_some, Option.some.injEq] at ha
      subst ha
      have h5 := h4 b rfl (p + i) (by omega)
      have e1 : (b.add (p * 1)).add i = b.add (p + i) := by
        unfold Addr.add
        by_cases hp0 : p = 0 <;> by_cases hi0 : i = 0 <;> simp [hp0, hi0, Nat.add_assoc]
      rw [e1, h5]
      congr 2
      simp [List.getD, List.getElem?_take_of_lt hi, List.getElem?_drop]
theorem part_run (t : TypeId) (ht : Try.prog.underlying t = some (.slice (Try.prog.elem t))) (hs : ∀ w, (sizeOf (Try.prog.elem t)).run Try.prog w = .ok 1 w) (ao : Option Addr) (n c p m : Nat) (hp : p + m ≤ c) (w : World) :
    (Instr.sliceAt t (.slice ao n c) (some (.int .i64 (p : Int))) (some (.int .i64 ((p : Int) + (m : Int)))) none).run Try.prog w = .ok (.slice (if c = p then ao else ao.map (·.add (p * 1))) m (c - p)) w := by
  have e1 : ((p : Int) + (m : Int)).toNat = p + m := by omega
  have h := run_slice_lh (P := Try.prog) (w := w) t ao n c ht .i64 .i64 (p : Int) ((p : Int) + (m : Int)) (by omega) (by omega) (by omega)
  rw [run_sliceAt_slice (h := ht), h, hs]
  simp [sliced, e1]
def lenV : Value → Nat
  | .slice _ k _ => k
  | _ => 0
theorem lenV_own {w : World} {B : Nat} {v : Value} {l : List Int} (h : w.ownsRow B 3 1 v l.length (ivs l)) : lenV v = l.length := by
  obtain ⟨_, ⟨rfl, h0⟩ | ⟨g, cap, cur, rfl, _⟩⟩ := h
  · exact h0.symm
  · rfl
theorem at_row (tl : List Int) (p r j : Nat) (hj : j < r) : at_ ((tl.drop p).take r) j = at_ tl (p + j) := by
  unfold at_
  rw [List.getElem?_take_of_lt hj, List.getElem?_drop]
theorem RowAt.of_own {w : World} {B : Nat} {v : Value} {l : List Int} (h : w.ownsRow B 3 1 v l.length (ivs l)) : RowAt .i64 w v l := RowAt.of_owns h
theorem mdec {i n : Nat} (h : i < n) : n - (RowKit.intOf (.int .i64 ((i : Int) + 1))).toNat < n - (RowKit.intOf (.int .i64 (i : Int))).toNat := by simp [RowKit.intOf]; omega
set_option maxRecDepth 100000 in
set_option maxHeartbeats 8000000 in
theorem forwards_any (n : Nat) (va vb vc : Value) (st tl wt : List Int) (w : World) (hgi : GIs w n va vb vc st tl wt) (hg : Good n st tl wt) :
    Calls Try.prog 21 #[gAgg n va vb vc] w fun e w' => ∃ cv l, e = .returned cv ∧ Fin n st tl l ∧ RowAt .i64 w' cv l ∧ Below w.heap.size w w' := by
  obtain ⟨i3, hi3, hz3, hs3, hy3⟩ := info_parts Try.info3q
  have hnl := hg.n_le
  have hml := hg.m_le
  obtain ⟨ga, oa, ca, rfl, hca, _⟩ := hgi.s.cellAt 0 (by rw [hg.s_len]; omega)
  obtain ⟨bo, cb_, rfl⟩ := hgi.t.shape
  have HG := hide hg
  have HS := hide hgi.s
  have HT := hide hgi.t
  obtain ⟨m, hm⟩ : ∃ m, m = tl.length := ⟨_, rfl⟩
  have HM := hide hm
  have hsl := hg.s_len
  rw [hsl] at hca HS ⊢
  rw [← hm] at hml HT ⊢
  have hcb : m ≤ cb_ := by
    obtain ⟨_, _, he, h1, _⟩ := hgi.t
    simp only [Value.slice.injEq] at he
    obtain ⟨_, _, rfl⟩ := he
    omega
  have HCB := hide hcb; have HCA := hide hca; have HNL := hide hnl; have HML := hide hml
  clear hgi hg hm hsl
  unfold gAgg
  have hbox := heap_new w (.cells #[.int .i64 n, .slice (some ⟨ga, oa, none⟩) (n + 1) ca, .slice bo m cb_, vc] 28)
  have c0 := cell_of hbox (i := 0) rfl
  have HB0 : Hid (Below w.heap.size w (w.alloc (.cells #[.int .i64 n, .slice (some ⟨ga, oa, none⟩) (n + 1) ca, .slice bo m cb_, vc] 28))) := below_alloc (Below.refl _ _) _
  have HBX := hide hbox
  clear hbox
  go_enter Try.func21, Try.ntmps21
  go_upto_region 1 with fail
  have HW1 : Hid (w.heap.size < (w.alloc (.cells #[.int .i64 n, .slice (some ⟨ga, oa, none⟩) (n + 1) ca, .slice bo m cb_, vc] 28)).heap.size) := by simp [hide]
  generalize (w.alloc (.cells #[.int .i64 n, .slice (some ⟨ga, oa, none⟩) (n + 1) ca, .slice bo m cb_, vc] 28)) = w1 at c0 HB0 HBX HW1 ⊢
  go_upto_region 2 with (first
    | (at_make; refine wpList_make_full _ rfl _ _ 25 rfl w1.heap.size 3 i3 (.int .i64 0) 1 Try.underlying25 hi3 hz3 hs3 _ _ _ _ n rfl rfl rfl rfl (by rw [hy3]; omega) (by unfold maxLen; omega) (Nat.le_refl _) ?_; intro w2 hown hgrow)
    | fail)
  have hb2 : Below w1.heap.size w1 w2 := (Below.refl _ _).grown hgrow (Nat.le_refl _) (by intro j hj; cases hj)
  have HF : Hid (F0 w w2 #[.int .i64 n, .slice (some ⟨ga, oa, none⟩) (n + 1) ca, .slice bo m cb_, vc] w1.heap.size (tab n (fun v => (cb tl 0 (v : Int) : Int)))) := by
    refine ⟨below_on HB0.out hb2, (hb2.block _ HW1.out).trans HBX.out, ?_, HW1.out⟩
    have := arr_made hown
    simpa [cb_zero] using this
  generalize w1.heap.size = A at HF ⊢
  clear hown hgrow hb2 HB0 HBX HW1 c0
  have c2 := cell_of HF.out.box (i := 2) rfl
  go_wp2_with fail
  clear c2
  go_loopw [19] (fun t wr => ∃ k : Nat, k ≤ m ∧ t = .int .i64 k ∧ F0 w wr #[.int .i64 n, .slice (some ⟨ga, oa, none⟩) (n + 1) ca, .slice bo m cb_, vc] A (tab n (fun v => (cb tl k (v : Int) : Int)))) (fun t _ => m - (RowKit.intOf t).toNat)
  case atStart => exact ⟨0, Nat.zero_le _, rfl, HF.out⟩
  case round =>
    obtain ⟨k, hk, rfl, hf⟩ := hrel
    have HFR := hide hf
    clear hf HF
    by_cases hlt : k < m
    · obtain ⟨gb, ob, cc, he, hcc, hx⟩ := (HT.out.below HFR.out.bel).cellAt k (by have := HM.out; omega)
      simp only [Value.slice.injEq] at he
      obtain ⟨rfl, hlen, hcc2⟩ := he
      subst hcc2
      obtain ⟨a, ha⟩ : ∃ a : Nat, at_ tl k = (a : Int) := ⟨(at_ tl k).toNat, by have := HG.out.vtx k (by have := HM.out; omega); omega⟩
      have han : a < n := by have := HG.out.vtx k (by have := HM.out; omega); omega
      rw [ha] at hx
      have HA := hide ha
      have y0 := HFR.out.arr.cell a (by rw [tab_length]; exact han)
      rw [tab_at _ _ _ han] at y0
      have yf := HFR.out.arr.free a
      have hcl := cb_le tl k (a : Int)
      have HX : Hid (F0 w (wr.setCell ⟨A, a, none⟩ (.int .i64 ((cb tl k (a : Int) : Int) + 1))) #[.int .i64 n, .slice (some ⟨ga, oa, none⟩) (n + 1) ca, .slice (some ⟨gb, ob, none⟩) m cb_, vc] A (tab n (fun v => (cb tl (k + 1) (v : Int) : Int)))) := by
        have := HFR.out.setA a ((cb tl k (a : Int) : Int) + 1)
        rw [tab_count HG.out (by have := HM.out; omega) ha] at this
        exact this
      have hkm : (k : Int) + 1 ≤ 9223372036854775807 := by omega
      have hkc : (k : Int) < cb_ := by omega
      generalize cb tl k (a : Int) = cx at y0 hcl HX
      have hcx : (cx : Int) + 1 ≤ 9223372036854775807 := by omega
      clear hlen hcc ha hcl
      go_wp2_with fail
      go_roundw
      case rel => exact ⟨k + 1, Nat.succ_le_of_lt hlt, by go_num, HX.out⟩
      case measure => exact mdec hlt
    · have hkm : m = k := by omega
      clear hlt hk
      subst hkm
      have HF1 : Hid (F0 w wr #[.int .i64 n, .slice (some ⟨ga, oa, none⟩) (n + 1) ca, .slice bo m cb_, vc] A (tab n (fun v => (cn tl (dn n st []) (v : Int) : Int)))) := by
        have := HFR.out
        rw [HM.out, show (fun v : Nat => (cb tl tl.length (v : Int) : Int)) = fun v : Nat => (cn tl (dn n st []) (v : Int) : Int) from funext fun v => by rw [cb_all n st tl (v : Int)]] at this
        rw [HM.out]
        exact this
      clear HFR
      go_wp2_with fail
      refine (new_any wr).mono ?_
      rintro e w3 ⟨rfl, hiq, hb3⟩
      have HF2 := hide (HF1.out.queue hiq hb3)
      clear hiq hb3 HF1
      generalize wr.heap.size = Q at HF2 ⊢
      go_wp2_with fail
      go_loopw [33] (fun t wr => ∃ k2 : Nat, k2 ≤ n ∧ t = .int .i64 k2 ∧ ∃ qv q, FM w wr #[.int .i64 n, .slice (some ⟨ga, oa, none⟩) (n + 1) ca, .slice bo m cb_, vc] A Q qv (.slice none 0 0) (tab n (fun v => (cn tl (dn n st []) (v : Int) : Int))) q [] ∧ QM (fun v => (0 ≤ v ∧ v < (k2 : Int)) ∧ cn tl (dn n st []) v = 0) q) (fun t _ => n - (RowKit.intOf t).toNat)
      case atStart => exact ⟨0, Nat.zero_le _, rfl, _, _, HF2.out, List.nodup_nil, fun v => by simp; omega⟩
      case round =>
        obtain ⟨k2, hk2, rfl, qv, q, hf, hqm⟩ := hrel
        have HFR := hide hf; have HQM := hide hqm
        have HQL : Hid (q.length ≤ 10000000) := by
          have := hqm.len (n := n) (fun v hv => ⟨hv.1.1, by have := hv.1.2; omega⟩)
          show _ ≤ _
          have := HNL.out; omega
        clear hf hqm HF2
        by_cases hlt : k2 < n
        · have y0 := HFR.out.arr.cell k2 (by rw [tab_length]; exact hlt)
          rw [tab_at _ _ _ hlt] at y0
          have hkm2 : (k2 : Int) + 1 ≤ 9223372036854775807 := by have := HNL.out; omega
          obtain ⟨cx, hcx⟩ : ∃ cx : Int, cx = (cn tl (dn n st []) (k2 : Int) : Int) := ⟨_, rfl⟩
          rw [← hcx] at y0
          have HCX := hide hcx
          clear hcx
          by_cases hz : cx = 0
          · subst hz
            have HPU := hide (push_any wr Q (Q + 1) qv q (k2 : Int) HFR.out.qu HFR.out.hp HQL.out)
            go_wp2_with (first
              | (go_at_call 45; refine HPU.out.mono ?_; rintro e w4 hpp; obtain ⟨rfl, qv', q', hf', hl', hp'⟩ := HFR.out.pushed hpp; have HFN := hide hf'; have HPN := hide hp'; clear hpp hf' hl' hp')
              | fail)
            go_roundw
            case rel =>
              refine ⟨k2 + 1, Nat.succ_le_of_lt hlt, by go_num, qv', q', HFN.out, (HQM.out.push HPN.out (fun h => by have := h.1.2; omega)).congr fun v => ?_⟩
              constructor
              · rintro (h | h)
                · exact ⟨⟨h.1.1, by have := h.1.2; omega⟩, h.2⟩
                · subst h; exact ⟨⟨by omega, by omega⟩, by have := HCX.out; omega⟩
              · intro h
                by_cases e : v = (k2 : Int)
                · exact .inr e
                · exact .inl ⟨⟨h.1.1, by have := h.1.2; omega⟩, h.2⟩
            case measure => exact mdec hlt
          · have hzb : (cx == 0) = false := by simpa using hz
            have HZ := hide hz
            go_wp2_with fail
            go_roundw
            case rel =>
              refine ⟨k2 + 1, Nat.succ_le_of_lt hlt, by go_num, qv, q, HFR.out, HQM.out.congr fun v => ?_⟩
              constructor
              · intro h; exact ⟨⟨h.1.1, by have := h.1.2; omega⟩, h.2⟩
              · intro h
                have : v ≠ (k2 : Int) := fun e => by subst e; have h1 := HCX.out; have h2 := h.2; have h3 := HZ.out; omega
                exact ⟨⟨h.1.1, by have := h.1.2; omega⟩, h.2⟩
            case measure => exact mdec hlt
        · have hkn : n = k2 := by omega
          clear hlt hk2
          subst hkn
          have HQ0 : Hid (QM (Rdy n tl (dn n st []) []) q) := HQM.out.congr fun v => by
            unfold Rdy
            constructor
            · rintro ⟨h1, h2⟩; exact ⟨h1, by simp, h2⟩
            · rintro ⟨h1, _, h2⟩; exact ⟨h1, h2⟩
          clear HQM HQL
          have c0 := cell_of HFR.out.box (i := 0) rfl
          have hQs : Q + 1 ≤ wr.heap.size := HFR.out.qu.le
          go_wp2_with (first
            | (at_make; refine wpList_make_own _ rfl _ _ 25 rfl (Q + 1) 3 i3 (.int .i64 0) 1 Try.underlying25 hi3 hz3 hs3 _ _ _ n rfl rfl rfl (by rw [hy3]; have := HNL.out; omega) (by unfold maxLen; have := HNL.out; omega) hQs ?_; intro w5 hown hgrow; have HF3 := hide (HFR.out.made hown hgrow); clear hown hgrow)
            | fail)
          clear HFR c0 hQs
          go_loopw [9] (fun t wr => ∃ qv q l, FM w wr #[.int .i64 n, .slice (some ⟨ga, oa, none⟩) (n + 1) ca, .slice bo m cb_, vc] A Q qv t (tab n (fun v => (cn tl (dn n st l) (v : Int) : Int))) q l ∧ Sq n st tl l ∧ QM (Rdy n tl (dn n st l) l) q) (fun t _ => n - lenV t)
          case atStart => exact ⟨_, _, [], HF3.out, .nil, HQ0.out⟩
          case round =>
            obtain ⟨qv3, q3, l, hf, hsq, hqm⟩ := hrel
            have HFR := hide hf; have HQM := hide hqm; have HSQ := hide hsq
            have HLN := hide (lenV_own hf.com)
            have HQL : Hid (q3.length ≤ 10000000) := by
              have := hqm.len (n := n) (fun v hv => hv.1)
              show _ ≤ _
              have := HNL.out; omega
            have HEM := hide (empty_any wr Q (Q + 1) qv3 q3 hf.qu)
            clear hf hqm hsq HF3 HQ0
            by_cases hq0 : q3.length = 0
            · rw [decide_eq_true hq0] at HEM
              have HFin : Hid (Fin n st tl l) := ⟨HSQ.out, fun v hv => by
                have := (HQM.out.2 v).2 hv
                rw [List.eq_nil_of_length_eq_zero hq0] at this
                simp at this⟩
              clear hq0
              go_wp2_with (first
                | (go_at_call 46; refine HEM.out.mono ?_; rintro e w6 ⟨rfl, hw6⟩; subst hw6)
                | fail)
              go_ret
              exact ⟨_, l, rfl, HFin.out, RowAt.of_own HFR.out.com, HFR.out.bel⟩
            · rw [decide_eq_false hq0] at HEM
              obtain ⟨k4, hk4⟩ : ∃ k4, q3.length = k4 + 1 := ⟨q3.length - 1, by omega⟩
              have HPO := hide (pop_any wr Q (Q + 1) qv3 q3 k4 HFR.out.qu HFR.out.hp hk4 (by have := HQL.out; omega))
              have hmem : at_ q3 0 ∈ q3 := at_mem (by omega)
              have hrd := (HQM.out.2 _).1 hmem
              obtain ⟨u, hu⟩ : ∃ u : Nat, at_ q3 0 = (u : Int) := ⟨(at_ q3 0).toNat, by have := hrd.1.1; omega⟩
              rw [hu] at hrd
              have hun : u < n := by have := hrd.1.2; omega
              have HSQ2 : Hid (Sq n st tl (l ++ [(u : Int)])) := .snoc HSQ.out hrd (fun v hv => by rw [← hu]; exact HFR.out.hp.least ((HQM.out.2 v).2 hv))
              have HLEN : Hid (l.length < n) := by
                have := Sq.len n st tl HSQ2.out
                simp at this
                show _ < _
                omega
              obtain ⟨p, hp⟩ : ∃ p : Nat, at_ st u = (p : Int) := ⟨(at_ st u).toNat, by have := HG.out.range u (by omega); omega⟩
              obtain ⟨r, hr⟩ : ∃ r : Nat, at_ st (u + 1) = (p : Int) + (r : Int) := ⟨(at_ st (u + 1)).toNat - p, by have := HG.out.step u hun; have := HG.out.range (u + 1) (by omega); omega⟩
              have hpr : p + r ≤ m := by have := HG.out.range (u + 1) (by omega); have := HM.out; omega
              have HSRC : Hid (∀ j, j < r → src st n (p + j) = u) := fun j hj => src_eq HG.out hun (by rw [hp]; omega) (by rw [hr]; omega)
              have hcb2 : m ≤ cb_ := HCB.out
              have hslr := part_run 25 Try.underlying25 (fun w => by rfl) bo m cb_ p r (by omega)
              have hrow := HT.out.part p r hpr
              obtain ⟨so, hso⟩ : ∃ so, so = (if cb_ = p then bo else bo.map (·.add (p * 1))) := ⟨_, rfl⟩
              rw [← hso] at hslr hrow
              obtain ⟨sc, hsc⟩ : ∃ sc, sc = cb_ - p := ⟨_, rfl⟩
              rw [← hsc] at hslr hrow
              have HROW := hide hrow
              have HU := hide hu; have HP_ := hide hp; have HR_ := hide hr; have HRD := hide hrd
              obtain ⟨ga2, oa2, ca2, he1, hca1, hx1⟩ := HS.out.cellAt u (by rw [HG.out.s_len]; omega)
              obtain ⟨ga3, oa3, ca3, he2, _, hx2⟩ := HS.out.cellAt (u + 1) (by rw [HG.out.s_len]; omega)
              simp only [Value.slice.injEq, Option.some.injEq, Addr.mk.injEq, and_true] at he1 he2
              obtain ⟨⟨rfl, rfl⟩, hq7, rfl⟩ := he1
              obtain ⟨⟨rfl, rfl⟩, hq8, rfl⟩ := he2
              clear hq7 hq8
              rw [hp] at hx1
              rw [hr] at hx2
              have HX1 := hide hx1; have HX2 := hide hx2
              clear hq0 hmem hrd hu hp hr hrow hso hsc hk4 hx1 hx2 hca1
              go_upto_region 18 with (first
                | (go_at_call 46; refine HEM.out.mono ?_; rintro e w6 ⟨rfl, hw6⟩; subst hw6)
                | (go_at_call 47; refine HPO.out.mono ?_; rintro e w7 hpp; obtain ⟨he, qv5, q5, hf5, hl5, hp5⟩ := HFR.out.popped hpp; rw [HU.out] at he hp5; subst he; have HF5 := hide hf5; have HP5 := hide hp5; have HOA := hide (own_chg (S := fun _ => False) hf5.com ((Chg.refl _ w7).alloc (.cells #[.int .i64 (u : Int)] 3)) (fun _ _ h => h)); have hQ7 : Q + 1 ≤ w7.heap.size := hf5.qu.le; clear hpp hf5 hl5 hp5)
                | (at_builtin; refine wpList_append_lies _ rfl (.tmp 52) (.tmp 54) 25 rfl (Q + 1) 3 i3 (.int .i64 0) 1 8 Try.underlying25 hi3 hz3 hs3 hy3 rfl (by omega) _ l.length (ivs l) rfl HOA.out ⟨w7.heap.size, 0, none⟩ 1 1 [.int .i64 (u : Int)] rfl rfl (one_at w7 _ _) (by simp [Value.oneCell']) (by omega) (by unfold maxLen; have := HLEN.out; have := HNL.out; omega) (by have := HLEN.out; have := HNL.out; omega) (by simp; omega) (w7.heap.size + 1) (by simp) ?_; intro g8 cap8 w8 hown hgrow hat hlt; have HF8 := hide (HF5.out.came hown hgrow hat); clear hown hgrow hat hlt HOA)
                | fail)
              have hcl : (l ++ [(u : Int)]).length = l.length + 1 := by simp
              rw [hcl] at HF8
              generalize hcv8 : (Value.slice (some ⟨g8, 0, none⟩) (l.length + 1) cap8) = cv8 at HF8 ⊢
              have HCV : Hid (lenV cv8 = l.length + 1) := by rw [← hcv8]; rfl
              clear hcv8 hcl
              have b1 := HF8.out.boxc (j := 1) rfl
              have b2 := HF8.out.boxc (j := 2) rfl
              have s1 : w8.cell? ⟨ga, oa + u, none⟩ = some (.int .i64 (p : Int)) := (below_cell HF8.out.bel (block_of_cell HX1.out)).trans HX1.out
              have s2 : w8.cell? ⟨ga, oa + (u + 1), none⟩ = some (.int .i64 ((p : Int) + (r : Int))) := (below_cell HF8.out.bel (block_of_cell HX2.out)).trans HX2.out
              have hu1 : (u : Int) + 1 ≤ 9223372036854775807 := by have := HNL.out; omega
              have hw1 : IntKind.i64.wrap ((u : Int) + 1) = (u : Int) + 1 := IntWalk.i64_in _ (by have := HNL.out; omega)
              have hua : (u : Int) < ca := by have := HCA.out; omega
              have hua1 : (u : Int) + 1 < ca := by have := HCA.out; omega
              have hun1 : (u : Int) < (n : Int) + 1 := by omega
              have hq0 : (0 : Int) ≤ (u : Int) := by omega
              have hq1 : u < n + 1 := by omega
              have hq2 : u + 1 < n + 1 := by omega
              have hq3 : (0 : Int) ≤ (u : Int) + 1 := by omega
              have hq4 : (u : Int) < ((n + 1 : Nat) : Int) := by omega
              have hq5 : (u : Int) + 1 < ((n + 1 : Nat) : Int) := by omega
              have hun2 : (u : Int) + 1 < (n : Int) + 1 := by omega
              have y1 := gw_cell b1
              have y2 := gw_cell b2
              have y3 := gw_cell s1
              have y4 := gw_cell s2
              refine wp_region_gw (by kernel_rfl) (by kernel_rfl) ?_
              repeat (go_big_quiet_step (rfl))
              refine wpQuiet_nil ?_
              intro _ hw'
              obtain ⟨x, hw''⟩ := hw'
              subst hw''
              have HF9 := hide (HF8.out.on x.bel)
              clear y1 y2 y3 y4 b1 b2 s1 s2 hq0 hq1 hq2 hq3 hq4 hq5 hw1 hua hua1 hun1 hun2 hu1 hslr HF8
              generalize x.world = w9 at HF9 ⊢
              have HQ9 : Hid (QM (Rdy n tl (dp n st l u p) (l ++ [(u : Int)])) q5) := (HQM.out.pop HP5.out).congr fun v => (rdy_start HG.out HP_.out v).symm
              have HF10 : Hid (FM w w9 #[.int .i64 n, .slice (some ⟨ga, oa, none⟩) (n + 1) ca, .slice bo m cb_, vc] A Q qv5 cv8 (tab n (fun v => (cn tl (dp n st l u p) (v : Int) : Int))) q5 (l ++ [(u : Int)])) := by
                have := HF9.out
                rw [← tab_cn (n := n) (tl := tl) (dp_start n st tl l u HG.out p HP_.out)] at this
                exact this
              clear HF9
              go_wp2_with fail
              go_loopw [71] (fun t wr => ∃ j : Nat, j ≤ r ∧ t = .int .i64 j ∧ ∃ qv q, FM w wr #[.int .i64 n, .slice (some ⟨ga, oa, none⟩) (n + 1) ca, .slice bo m cb_, vc] A Q qv cv8 (tab n (fun v => (cn tl (dp n st l u (p + j)) (v : Int) : Int))) q (l ++ [(u : Int)]) ∧ QM (Rdy n tl (dp n st l u (p + j)) (l ++ [(u : Int)])) q) (fun t _ => r - (RowKit.intOf t).toNat)
              case atStart => exact ⟨0, Nat.zero_le _, rfl, _, _, HF10.out, HQ9.out⟩
              case round =>
                obtain ⟨j, hj, rfl, qv6, q6, hf, hqm⟩ := hrel
                have HFJ := hide hf; have HQJ := hide hqm
                have HQJL : Hid (q6.length ≤ 10000000) := by
                  have := hqm.len (n := n) (fun v hv => hv.1)
                  show _ ≤ _
                  have := HNL.out; omega
                clear hf hqm HF10 HQ9
                by_cases hlt : j < r
                · obtain ⟨gs, os_, cs, he, hcc, hx⟩ := (HROW.out.below HFJ.out.bel).cellAt j (by simp; have := HM.out; omega)
                  simp only [Value.slice.injEq] at he
                  obtain ⟨rfl, hlen9, hcc2⟩ := he
                  subst hcc2
                  rw [at_row _ _ _ _ hlt] at hx
                  have hpm : p + j < tl.length := by have := HM.out; omega
                  obtain ⟨a, ha⟩ : ∃ a : Nat, at_ tl (p + j) = (a : Int) := ⟨(at_ tl (p + j)).toNat, by have := HG.out.vtx (p + j) hpm; omega⟩
                  have han : a < n := by have := HG.out.vtx (p + j) hpm; omega
                  rw [ha] at hx
                  have hul : ¬ (u : Int) ∈ l := HRD.out.2.1
                  obtain ⟨t1, t2⟩ := tab_down HG.out hpm (HSRC.out j hlt) hul ha
                  have y0 := HFJ.out.arr.cell a (by rw [tab_length]; exact han)
                  rw [tab_at _ _ _ han] at y0
                  have yf := HFJ.out.arr.free a
                  have hmx := cn_max tl (dp n st l u (p + j)) (a : Int)
                  have HSE : Hid (FM w (wr.setCell ⟨A, a, none⟩ (.int .i64 ((cn tl (dp n st l u (p + j)) (a : Int) : Int) - 1))) #[.int .i64 n, .slice (some ⟨ga, oa, none⟩) (n + 1) ca, .slice bo m cb_, vc] A Q qv6 cv8 (tab n (fun v => (cn tl (dp n st l u (p + j + 1)) (v : Int) : Int))) q6 (l ++ [(u : Int)])) := by
                    have := HFJ.out.setA a ((cn tl (dp n st l u (p + j)) (a : Int) : Int) - 1)
                    rw [t1] at this
                    exact this
                  have HNX := hide (fun x => rdy_next (l' := l ++ [(u : Int)]) HG.out hpm (HSRC.out j hlt) hul x)
                  have HNC : Hid (¬ at_ tl (p + j) ∈ l ++ [(u : Int)]) := not_came HG.out HSQ2.out hpm (HSRC.out j hlt)
                  obtain ⟨cx, hcx⟩ : ∃ cx : Int, cx = (cn tl (dp n st l u (p + j)) (a : Int) : Int) := ⟨_, rfl⟩
                  rw [← hcx] at y0 HSE
                  obtain ⟨cy, hcy⟩ : ∃ cy : Int, cy = cx - 1 := ⟨_, rfl⟩
                  have hwy : IntKind.i64.wrap (cx - 1) = cy := by rw [hcy]; exact IntWalk.i64_in _ (by have := HML.out; have := HM.out; omega)
                  have hcy2 : cx - 1 = cy := hcy.symm
                  rw [hcy2] at HSE
                  have HCY : Hid (cy = (cn tl (dp n st l u (p + j + 1)) (a : Int) : Int)) := by rw [hcy, hcx]; exact t2
                  have z0 : (wr.setCell ⟨A, a, none⟩ (.int .i64 cy)).cell? ⟨A, a, none⟩ = some (.int .i64 cy) := by
                    have := HSE.out.arr.cell a (by rw [tab_length]; exact han)
                    rw [tab_at _ _ _ han, ← HCY.out] at this
                    exact this
                  have hw64 : wrap64 cy = cy := by have : -9223372036854775808 ≤ cy ∧ cy ≤ 9223372036854775807 := by (have := HML.out; have := HM.out; omega)
                                                   unfold wrap64; omega
                  have hjm : (j : Int) + 1 ≤ 9223372036854775807 := by have := HML.out; omega
                  have hjc : (j : Int) < sc := by simp at hcc; omega
                  have HA_ := hide ha; have HPM := hide hpm
                  have hwc : -9223372036854775808 ≤ cx - 1 ∧ cx - 1 ≤ 9223372036854775807 := by have := HML.out; have := HM.out; omega
                  have HHW := hide hwc
                  clear hlen9 hcc ha t1 t2 hmx hcx hcy hpm hul hwc
                  by_cases hz : cy = 0
                  · subst hz
                    have HPU := hide (push_any _ Q (Q + 1) qv6 q6 (a : Int) HSE.out.qu HSE.out.hp HQJL.out)
                    go_wp2_with (first
                      | (go_at_call 45; refine HPU.out.mono ?_; rintro e w11 hpp; obtain ⟨rfl, qv7, q7, hf', hl', hp'⟩ := HSE.out.pushed hpp; have HFN := hide hf'; have HPN := hide hp'; clear hpp hf' hl' hp')
                      | fail)
                    go_roundw
                    case rel =>
                      refine ⟨j + 1, Nat.succ_le_of_lt hlt, by go_num, qv7, q7, HFN.out, (HQJ.out.push HPN.out (fun h => ?_)).congr fun v => ?_⟩
                      · have h1 := cn_step n st tl l u (p + j) HG.out HPM.out (HSRC.out j hlt) HRD.out.2.1 (a : Int)
                        rw [if_pos HA_.out] at h1
                        have := h.2.2
                        omega
                      · rw [show p + (j + 1) = p + j + 1 from rfl, HNX.out v]
                        constructor
                        · rintro (h | h)
                          · exact .inl h
                          · subst h; exact .inr ⟨HA_.out.symm, by have := HCY.out; omega, by have := HNC.out; rw [HA_.out] at this; exact this⟩
                        · rintro (h | h)
                          · exact .inl h
                          · exact .inr (by rw [h.1, HA_.out])
                    case measure => exact mdec hlt
                  · have hzb : (cy == 0) = false := by simpa using hz
                    have HZ := hide hz
                    clear hz
                    go_wp2_with fail
                    go_roundw
                    case rel =>
                      refine ⟨j + 1, Nat.succ_le_of_lt hlt, by go_num, qv6, q6, HSE.out, HQJ.out.congr fun v => ?_⟩
                      rw [show p + (j + 1) = p + j + 1 from rfl, HNX.out v]
                      constructor
                      · exact .inl
                      · rintro (h | h)
                        · exact h
                        · have h1 := h.2.1
                          rw [h.1, HA_.out] at h1
                          have := HCY.out; have := HZ.out; omega
                    case measure => exact mdec hlt
                · have hjr : j = r := by omega
                  have HSR : Hid (at_ st (u + 1) = ((p + j : Nat) : Int)) := by rw [hjr, HR_.out]; show _ = _; omega
                  have HEQ : Hid (FM w wr #[.int .i64 n, .slice (some ⟨ga, oa, none⟩) (n + 1) ca, .slice bo m cb_, vc] A Q qv6 cv8 (tab n (fun v => (cn tl (dn n st (l ++ [(u : Int)])) (v : Int) : Int))) q6 (l ++ [(u : Int)])) := by
                    have := HFJ.out
                    rw [tab_cn (n := n) (tl := tl) (dp_end n st tl l u HG.out (p + j) HSR.out)] at this
                    exact this
                  have HEM2 : Hid (QM (Rdy n tl (dn n st (l ++ [(u : Int)])) (l ++ [(u : Int)])) q6) := HQJ.out.congr fun v => rdy_end HG.out HSR.out v
                  have HMS : Hid (n - lenV cv8 < n - l.length) := by have := HCV.out; have := HLEN.out; show _ < _; omega
                  go_wp2_with fail
                  refine ⟨⟨qv6, q6, _, HEQ.out, HSQ2.out, HEM2.out⟩, ?_⟩
                  rw [HLN.out]
                  exact HMS.out
end Go.Proofs.Ytiohimbifjlfdaa
