/- Bytes and Seal of the writer, Sealed of the reader. -/
import Derived.Test.YtpfpelhhebafeaaDoorHeads
import Derived.Deep.Upon
import Derived.Lib.SlFresh
namespace Go.Proofs.YtpfpelhhebafeaaDoor
open Go.RowKit Go.Lib
set_option linter.unusedVariables false

theorem put_bytes {w w2 : World} {B b : Nat} {v v' : Value} {bs xs : List Int} (h : WOwn w B b v bs) (hBs : B ≤ w.heap.size)
    (hown : w2.ownsRow B 5 1 v' (bs.length + xs.length) (bs.map (Value.int .u8) ++ xs.map (Value.int .u8))) (hgrow : w.grownBy w2 v.ownBlock) :
    w2.cell? ⟨b, 0, none⟩ = some v ∧ w2.frozen? ⟨b, 0, none⟩ = false ∧
      WOwn (w2.setCell ⟨b, 0, none⟩ v') B b v' (bs ++ xs) ∧ Turn B b w (w2.setCell ⟨b, 0, none⟩ v') := by
  have hvo : ∀ k, v.ownBlock = some k → B ≤ k ∧ ∃ cs, w.heap[k]? = some (.cells cs 5 (0, 0)) := by
    intro k hk
    obtain ⟨_, ⟨rfl, _⟩ | ⟨g', cap', cur', rfl, hg', hh', _⟩⟩ := h.own
    · cases hk
    · cases hk; exact ⟨hg', cur', hh'⟩
  have far2 : ∀ (k : Nat) (cs : Array Value) (t : TypeId) (fr : Nat × Nat), w.heap[k]? = some (.cells cs t fr) → t ≠ 5 → w2.heap[k]? = some (.cells cs t fr) := by
    intro k cs t fr hk ht
    have hlt := lt_of_heap hk
    rw [hgrow.block k hlt (fun e => by
      obtain ⟨_, cs', h5⟩ := hvo k e.symm
      rw [hk] at h5
      cases h5
      exact ht rfl)]
    exact hk
  have hb2 : w2.heap[b]? = some (.cells #[v] 69 (0, 0)) := far2 b _ _ _ h.hb (by decide)
  have hbel : Below B w w2 := (Below.refl B w).grown hgrow hBs (fun k hk => (hvo k hk).1)
  refine ⟨cell_of hb2 rfl, free_of hb2 0, ⟨?_, ?_, h.lo⟩, hbel.setCell h.lo _, ?_⟩
  · have := heap_set (i := 0) hb2 v'
    rw [this]; simp
  · obtain ⟨hl, ⟨rfl, h0⟩ | ⟨g, cap, cur, rfl, hg, hh, hnc, hcm, hcur, htake⟩⟩ := hown
    · refine ⟨by simp, .inl ⟨rfl, by rw [List.length_append]; exact h0⟩⟩
    · have hgb : g ≠ b := by
        intro e
        rw [e, hb2] at hh
        cases hh
      refine ⟨by simp, .inr ⟨g, cap, cur, by simp, hg, ?_, by simp; omega, hcm, hcur, by simpa using htake⟩⟩
      rw [Below.heap_setCell _ _ _ _ hgb]
      exact hh
  · intro k cs t fr hk ht hkb
    rw [Below.heap_setCell _ _ _ _ hkb]
    exact far2 k cs t fr hk ht

theorem row_cells {w : World} {a : Addr} {xs : List Int} (h : ∀ i, i < xs.length → w.cell? (a.add i) = some (.int .u8 (xs.getD i 0))) :
    ∀ j u, (xs.map (Value.int .u8))[j]? = some u → w.cell? (a.add j) = some u := by
  intro j u hj
  have hjn : j < xs.length := by
    have := (List.getElem?_eq_some_iff.1 hj).1
    simpa using this
  rw [h j hjn]
  have e : (xs.map (Value.int .u8))[j]? = some (Value.int .u8 (xs.getD j 0)) := by simp [List.getD, List.getElem?_eq_getElem hjn]
  rw [e] at hj
  exact hj

set_option maxRecDepth 100000 in
set_option maxHeartbeats 2000000 in
theorem wbytes_any (w : World) (B b : Nat) (v : Value) (bs : List Int) (xv : Value) (xs : List Int) (h : WOwn w B b v bs) (hB : B ≤ w.heap.size) (hx : RowAt .u8 w xv xs) (hlen : bs.length + xs.length ≤ 175921860444160) :
    Calls Tryd.prog 13 #[.pointer (some ⟨b, 0, none⟩), xv] w fun e w' => e = .returned (.tuple #[]) ∧ ∃ v', WOwn w' B b v' (bs ++ xs) ∧ Turn B b w w' := by
  obtain ⟨i0, hi, hz0, hz1, hz2⟩ := info_parts Tryd.info5
  have c0 := cell_of h.hb (i := 0) rfl
  have H := hide h
  obtain ⟨ao, c, hv⟩ := own_shape h.own
  obtain ⟨xo, xc, rfl, k1, k2, k3, k4⟩ := hx
  clear h
  rcases Nat.eq_zero_or_pos xs.length with h0 | h0
  · obtain rfl : xs = [] := List.eq_nil_of_length_eq_zero h0
    have hsrc : Src Tryd.prog i0.size 22 (.slice xo 0 xc) 0 [] w := by
      cases xo with
      | none => exact Src.ofNil w Tryd.underlying22 xc
      | some a => exact Src.ofSlice w Tryd.underlying22 a 0 xc [] (by simp) (fun j u h => by simp at h) (by simp)
    have hcl : bs.length ≤ c := by
      obtain ⟨_, ⟨he, _⟩ | ⟨g', cap', cur', he, _, _, hn, _⟩⟩ := H.out.own
      · rw [hv] at he; simp only [Value.slice.injEq] at he; omega
      · rw [hv] at he; simp only [Value.slice.injEq] at he; omega
    have hrun : ∀ ty, (Builtin.append_ #[22, 22] ty #[.slice ao bs.length c, .slice xo 0 xc]).run Tryd.prog w = .ok (.slice ao bs.length c) w := fun ty => run_append_nothing w 22 22 ty 5 i0 Tryd.underlying22 hi ao bs.length c hcl _ hsrc
    subst hv
    have hf := free_of H.out.hb 0
    have HE : Hid (WOwn (w.setCell ⟨b, 0, none⟩ (.slice ao bs.length c)) B b (.slice ao bs.length c) bs ∧ Turn B b w (w.setCell ⟨b, 0, none⟩ (.slice ao bs.length c))) := by
      have := put_bytes (xs := []) H.out hB (w2 := w) (v' := .slice ao bs.length c) (by simpa using H.out.own) (World.grownBy.refl _ _)
      rw [List.append_nil] at this
      exact this.2.2
    clear hsrc hcl k4 h0 k1 hlen
    rw [List.append_nil]
    simp only [List.length_nil]
    go_enter Tryd.func13, Tryd.ntmps13
    go_wp2_with (at_builtin; refine wpList_append_run_sl _ rfl _ _ 22 rfl _ _ rfl rfl (hrun _) ?_)
    first | go_end0 | refine bodyPost_ret (results_none rfl _ _ _) rfl ?_
    exact ⟨rfl, _, HE.out.1, HE.out.2⟩
  · cases xo with
    | none => have := k3 rfl; omega
    | some a =>
      have HC := hide (row_cells (k4 a rfl))
      subst hv
      clear k4
      go_enter Tryd.func13, Tryd.ntmps13
      go_wp2_with (at_builtin; refine wpList_append_own_wide _ rfl _ _ 22 rfl B 5 i0 (.int .u8 0) 1 1 Tryd.underlying22 hi hz0 hz1 hz2 rfl (by decide) _ _ _ rfl H.out.own a xs.length xc (xs.map (Value.int .u8)) rfl (by simp) HC.out (ones xs) (by unfold maxLen; omega) (by omega) hB ?_; intro v2 w2 hown2 hgrow2 hq2; obtain ⟨a2, c2, rfl⟩ := own_shape hown2; obtain ⟨k1', k2', k3', k4'⟩ := put_bytes H.out hB hown2 hgrow2; have HK := hide (And.intro k3' k4'); clear hown2 hgrow2 hq2 k3' k4')
      first | go_end0 | refine bodyPost_ret (results_none rfl _ _ _) rfl ?_
      exact ⟨rfl, _, HK.out.1, HK.out.2⟩

set_option maxRecDepth 100000 in
set_option maxHeartbeats 2000000 in
theorem seal_any (w : World) (B b : Nat) (v : Value) (bs : List Int) (h : WOwn w B b v bs) (hB : B ≤ w.heap.size) (hs : SumsAt w) (hby : ∀ x ∈ bs, 0 ≤ x ∧ x < 256) (hlen : bs.length ≤ 175921860444160) :
    Calls Tryd.prog 14 #[.pointer (some ⟨b, 0, none⟩), .int .i64 0] w fun e w' => e = .returned (.int .i64 0) ∧ ∃ v', WOwn w' B b v' (bs ++ le (crc bs) 4) ∧ Turn B b w w' := by
  have c0 := cell_of h.hb (i := 0) rfl
  have hrow : RowAt .u8 w v bs := RowAt.of_owns h.own
  have HO := hide h.own
  have HCR := hide (crc_any _ bs w hrow hs hby (by omega))
  have HWD := hide (word_any w B b _ bs (crc bs) 4 h hB (by have := crc_lt bs hby; omega) (by have := crc_lt bs hby; exact Nat.div_eq_of_lt (by simpa using this)) (by omega) (by omega) (by omega))
  have hcl := crc_lt bs hby
  obtain ⟨cr, hcr⟩ : ∃ cr, cr = crc bs := ⟨_, rfl⟩
  rw [← hcr] at HCR HWD hcl ⊢
  obtain ⟨ao, c, rfl, k1, k2, k3, k4⟩ := hrow
  clear h hcr k4
  cases ao with
  | none =>
    obtain rfl := k3 rfl
    have hb0 : bs.length = 0 := by omega
    rw [hb0] at c0 HCR
    clear k3 hb0
    go_enter Tryd.func14, Tryd.ntmps14
    go_wp2_with fail
    refine HCR.out.mono ?_
    rintro e w1 ⟨rfl, rfl⟩
    go_wp2_with fail
    refine HWD.out.mono ?_
    rintro e w2 ⟨rfl, v', hw, ht⟩
    have HW := hide (And.intro hw ht)
    clear hw ht
    go_wp2
    go_ret
    exact ⟨rfl, v', HW.out.1, HW.out.2⟩
  | some a =>
    obtain ⟨g, rfl⟩ : ∃ g, a = ⟨g, 0, none⟩ := by
      obtain ⟨_, ⟨he, _⟩ | ⟨g', cap', cur', he, _⟩⟩ := HO.out
      · simp at he
      · simp only [Value.slice.injEq, Option.some.injEq] at he; exact ⟨g', he.1⟩
    clear k3
    go_enter Tryd.func14, Tryd.ntmps14
    go_wp2_with fail
    all_goals
      refine HCR.out.mono ?_
      rintro e w1 ⟨rfl, rfl⟩
      go_wp2_with fail
      refine HWD.out.mono ?_
      rintro e w2 ⟨rfl, v', hw, ht⟩
      have HW := hide (And.intro hw ht)
      clear hw ht
      go_wp2
      go_ret
      exact ⟨rfl, v', HW.out.1, HW.out.2⟩

set_option maxRecDepth 100000 in
set_option maxHeartbeats 2000000 in
theorem sealed_right (w : World) (r p f : Nat) (bs : List Int) (l : List Nat) (h : RdIs w r bs p) (hl : (bs.drop p).take 4 = l.map (fun (n : Nat) => (n : Int))) (hls : l.length = 4) (hby : ∀ b ∈ l, b < 256) (hps : p + 4 ≤ bs.length) (hbig : bs.length ≤ 175921860444160)
    (hf : f ≤ p) (hs : SumsAt w) (hr0 : 0 < r) (hbb : ∀ x ∈ bs, 0 ≤ x ∧ x < 256) (hne : vals8 l = crc ((bs.take p).drop f)) :
    Calls Tryd.prog 19 #[.pointer (some ⟨r, 0, none⟩), .int .i64 f] w fun e w' => e = .returned (.int .i64 0) ∧ RdIs w' r bs (p + 4) ∧ But r w w' := by
  have HW := hide (rword_any w r p 4 bs l h hl hls hby (by omega) (by omega) hps hbig)
  have HS := hide hs
  have H := hide h
  obtain ⟨ao, c, hh, hrow, hao⟩ := h
  have c0 := cell_of hh (i := 0) rfl
  have c1 := cell_of hh (i := 1) rfl
  have HNE := hide hne
  have HBB := hide hbb
  clear hh hrow hao hl hls hby hs hne hbb
  go_enter Tryd.func19, Tryd.ntmps19
  go_wp2_with fail
  refine HW.out.mono ?_
  rintro e w1 ⟨rfl, hrd, hbut⟩
  have HRD := hide hrd
  obtain ⟨ao1, cc, hh1, hrow1, hao1⟩ := hrd
  obtain ⟨g, rfl, hgr⟩ : ∃ g, ao1 = some ⟨g, 0, none⟩ ∧ g ≠ r := by
    rcases hao1 with rfl | hg
    · obtain ⟨ao', c', he, k1, _, k3, _⟩ := hrow1
      simp only [Value.slice.injEq] at he
      obtain ⟨rfl, _, rfl⟩ := he
      have := k3 rfl
      omega
    · exact hg
  have hcl : bs.length ≤ cc := by
    obtain ⟨ao', c', he, k1, _⟩ := hrow1
    simp only [Value.slice.injEq] at he
    obtain ⟨_, _, rfl⟩ := he
    exact k1
  have hs1 : SumsAt w1 := ⟨Nat.lt_of_lt_of_le HS.out.1 hbut.size, fun i hi => by
    have h5 := HS.out.2 i hi
    rw [← h5]
    unfold World.cell?
    rw [hbut.block 0 HS.out.1 (by omega)]⟩
  have HCR := hide (crc_any _ _ w1 (sub_row hrow1 hf (by omega)) hs1 (fun x hx => HBB.out x (List.mem_of_mem_take (List.mem_of_mem_drop hx))) (by rw [List.length_drop, List.length_take]; omega))
  have e0 := cell_of hh1 (i := 0) rfl
  have e1 := cell_of hh1 (i := 1) rfl
  have HBT := hide hbut
  obtain ⟨C, hC⟩ : ∃ C, C = crc ((bs.take p).drop f) := ⟨_, rfl⟩
  rw [← hC] at HCR
  rw [HNE.out, ← hC]
  have hcl2 : C < 4294967296 := by rw [hC]; exact crc_lt _ (fun x hx => HBB.out x (List.mem_of_mem_take (List.mem_of_mem_drop hx)))
  obtain ⟨L, hL⟩ : ∃ L, L = bs.length := ⟨_, rfl⟩
  rw [← hL] at hps hbig hcl e0
  have hfp : (f : Int) ≤ (p : Int) := by omega
  have hpc : (p : Int) ≤ (cc : Int) := by omega
  have hfc : ¬ f = cc := by omega
  clear hrow1 hao1 hh1 hs1 hbut hC hL c0 c1 HW
  go_wp2_with fail
  refine HCR.out.mono ?_
  rintro e w2 ⟨rfl, rfl⟩
  go_wp2
  go_ret
  exact ⟨rfl, HRD.out, HBT.out⟩
end Go.Proofs.YtpfpelhhebafeaaDoor
