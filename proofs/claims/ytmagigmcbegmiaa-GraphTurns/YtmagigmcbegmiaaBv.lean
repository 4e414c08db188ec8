import Derived.Test.YtmagigmcbegmiaaLa
import Derived.Test.YtmagigmcbegmiaaGA3
/- The document's Build, where all edges are fine. -/
namespace Go.Proofs.Ytmagigmcbegmiaa
open Go.RowKit Go.Lib
set_option linter.unusedVariables false
set_option linter.unusedSimpArgs false
theorem RowAt.but {k : IntKind} {w0 x y : World} {R : Nat} {v : Value} {xs : List Int} (h : RowAt k x v xs) (hn : NewAt w0 v) (hR : R < w0.heap.size) (hk : ∀ j, j ≠ R → y.heap[j]? = x.heap[j]?) : RowAt k y v xs := by
  obtain ⟨g, n, c, rfl, hg⟩ := hn
  obtain ⟨ao, c', he, h1, h2, h3, h4⟩ := h
  simp only [Value.slice.injEq] at he
  obtain ⟨rfl, rfl, rfl⟩ := he
  refine ⟨_, _, rfl, h1, h2, h3, fun a ha i hi => ?_⟩
  have h5 := h4 a ha i hi
  cases ha
  rw [Addr.add_lit] at h5 ⊢
  simp only [World.cell?] at h5 ⊢
  rw [hk g (by omega)]
  exact h5
/-- What it answers. -/
def BuiltR (w : World) (n : Nat) (l : List Ed3) (e : Ending) (w' : World) : Prop :=
  ∃ va vb vc st tl wt nx, e = .returned (.tuple #[gAgg n va vb vc, .int .i64 0, .int .i64 0]) ∧ GIs w' n va vb vc st tl wt ∧ Summed n l.length (eFrom l) n st ∧ Laying n l.length (eFrom l) (eTo l) (eWt l) l.length nx tl wt ∧ Below w.heap.size w w' ∧ NewAt w va ∧ NewAt w vb ∧ NewAt w vc
theorem Try.results52 : Try.f52.results = #[.cell 2 25, .tmp 3, .tmp 4] := by kernel_rfl
set_option maxRecDepth 100000 in
set_option maxHeartbeats 4000000 in
theorem buildR_good (n : Nat) (ao : Option Addr) (c : Nat) (l : List Ed3) (w : World) (hr : EAt w (.slice ao l.length c) l) (ht : Takes n l) :
    Calls Try.prog 52 #[.agg #[.int .i64 n, .slice ao l.length c]] w (BuiltR w n l) := by
  have hn := ht.n_le
  have hm := ht.m_le
  have hlc : l.length ≤ c := by
    obtain ⟨ao', c', he, h1, _⟩ := hr
    simp only [Value.slice.injEq, true_and] at he
    obtain ⟨_, rfl⟩ := he
    exact h1
  have HLA := hide (fun W (h : Below w.heap.size w W) => laidO_any n ao c l W hlc (hr.below h) ht)
  obtain ⟨m, hme⟩ : ∃ m, m = l.length := ⟨_, rfl⟩
  rw [← hme] at hm hlc HLA ⊢
  have HR := hide hr; have HM := hide hme; have HT := hide ht
  have HB0 := hide (BMO.start w n ao m c)
  have b0 := cell_of HB0.out.box (i := 0) rfl
  have b1 := cell_of HB0.out.box (i := 1) rfl
  have hni : ¬ (1048576 : Int) < (n : Int) := by omega
  have hmi : ¬ (4194304 : Int) < (m : Int) := by omega
  obtain ⟨w1, hw1⟩ : ∃ w1, w1 = (w.alloc (.cells #[.int .i64 n, .slice ao m c] 47)).alloc (.cells #[.int .i64 0, .slice none 0 0, .slice none 0 0, .slice none 0 0] 25) := ⟨_, rfl⟩
  clear hr ht hme
  go_enter Try.func52, Try.ntmps52
  go_wp2_with fail
  rw [← hw1] at HB0 ⊢
  clear hw1 b0 b1
  go_loopw [5] (fun t wr => ∃ i : Nat, i ≤ m ∧ t = .int .i64 i ∧ BMO w wr n ao m c) (fun t _ => m - (RowKit.intOf t).toNat)
  case atStart => exact ⟨0, by omega, rfl, HB0.out⟩
  case round =>
    obtain ⟨i, him, rfl, hB⟩ := hrel
    clear HB0
    have HB := hide hB
    have b0 := cell_of hB.box (i := 0) rfl
    have b1 := cell_of hB.box (i := 1) rfl
    clear hB
    by_cases hlt : i < m
    · have hil : i < l.length := by rw [← HM.out]; exact hlt
      have hrw := HR.out.below HB.out.bel
      obtain ⟨g, o, rfl, hgw, e0, e1, e2⟩ := hrw.cellAt hil
      obtain ⟨h1, h2⟩ := HT.out.efr i hil
      obtain ⟨h3, h4⟩ := HT.out.eto i hil
      obtain ⟨h5, h6⟩ := HT.out.ewt i hil
      obtain ⟨x1, hx1⟩ : ∃ x, x = (eAt l i).1 := ⟨_, rfl⟩
      obtain ⟨x2, hx2⟩ : ∃ x, x = (eAt l i).2.1 := ⟨_, rfl⟩
      obtain ⟨x3, hx3⟩ : ∃ x, x = (eAt l i).2.2 := ⟨_, rfl⟩
      rw [← hx1] at e0 h1 h2
      rw [← hx2] at e1 h3 h4
      rw [← hx3] at e2 h5 h6
      have hb := below_alloc (Below.refl wr.heap.size wr) (.cells #[.int .i64 x1, .int .i64 x2, .int .u64 x3] 50)
      have HBA := hide (HB.out.below hb)
      have s0 := cell_of HBA.out.box (i := 0) rfl
      have s1 := cell_of HBA.out.box (i := 1) rfl
      have k1 : ¬ x1 < 0 := by omega
      have k2 : ¬ (n : Int) ≤ x1 := by omega
      have k3 : ¬ x2 < 0 := by omega
      have k4 : ¬ (n : Int) ≤ x2 := by omega
      have k5 : ¬ (4294967295 : Int) < x3 := by omega
      have hii : (i : Int) < (m : Int) := by omega
      clear hx1 hx2 hx3 hb hrw h1 h2 h3 h4 h5 h6
      go_wp2_with fail
      refine ⟨⟨i + 1, by omega, by simp, HBA.out⟩, by simp [RowKit.intOf]; omega⟩
    · obtain rfl : m = i := by omega
      have hla := HLA.out wr HB.out.bel
      have HLA2 := hide hla
      have hrs := lt_of_heap HB.out.res
      have HRS := hide hrs
      clear hla hrs
      go_wp2_with fail
      refine HLA2.out.mono ?_
      rintro e w8 ⟨va, vb, vc, st, tl, wt, nx, rfl, hgi, hsm, hly, hb8, hna, hnb, hnc⟩
      have HB8 := hide (HB.out.below hb8)
      have HGI := hide hgi; have HSL := hide (And.intro hsm hly); have HN := hide (And.intro hna (And.intro hnb hnc))
      obtain ⟨ao8, ca8, rfl⟩ := hgi.s.shape
      obtain ⟨bo8, cb8, rfl⟩ := hgi.t.shape
      obtain ⟨co8, cc8, rfl⟩ := hgi.u.shape
      have r0 := cell_of HB8.out.res (i := 0) rfl
      have r1 := cell_of HB8.out.res (i := 1) rfl
      have r2 := cell_of HB8.out.res (i := 2) rfl
      have r3 := cell_of HB8.out.res (i := 3) rfl
      have q0 := free_of HB8.out.res 0
      have q1 := free_of HB8.out.res 1
      have q2 := free_of HB8.out.res 2
      have q3 := free_of HB8.out.res 3
      have HSZ := hide HB.out.bel.size
      unfold gAgg
      clear hgi hsm hly hb8 hna hnb hnc b0 b1
      go_wp2_with fail
      have HPU := HB8.out.put (.int .i64 n) (.slice ao8 st.length ca8) (.slice bo8 tl.length cb8) (.slice co8 wt.length cc8)
      have hsub : ∀ v, NewAt wr v → NewAt w v := fun v ⟨g, n, c, h1, h2⟩ => ⟨g, n, c, h1, Nat.le_trans HSZ.out h2⟩
      have hsl := HSL.out
      refine bodyPost_ret (results_cell3 Try.results52 _ _ (w.heap.size + 1) 25 _ (0, 0) _ rfl HPU.1 Try.underlying25 rfl (by kernel_rfl) (.int .i64 0) (.int .i64 0) rfl rfl) rfl ⟨_, _, _, _, _, _, nx, rfl, ⟨HGI.out.s.but HN.out.1 HRS.out HPU.2.2, HGI.out.t.but HN.out.2.1 HRS.out HPU.2.2, HGI.out.u.but HN.out.2.2 HRS.out HPU.2.2⟩, hsl.1, hsl.2, HPU.2.1, hsub _ HN.out.1, hsub _ HN.out.2.1, hsub _ HN.out.2.2⟩
def zeroG : Value := .agg #[.int .i64 0, .slice none 0 0, .slice none 0 0, .slice none 0 0]
/-- What is wrong with an edge, or nothing. -/
def fE (N : Int) (l : List Ed3) (i : Nat) : Int := if IsV N (eAt l i).1 then edgeNo N (eAt l i).2.1 (eAt l i).2.2 else 30
/-- What both Builds say of edges that they don't take. -/
def BadAt (N : Int) (l : List Ed3) (f p : Int) : Prop :=
  (¬ FitsI N l.length ∧ f = 22 ∧ p = -1) ∨ (FitsI N l.length ∧ ∃ i : Nat, i < l.length ∧ p = i ∧ (∀ j, j < i → fE N l j = 0) ∧ f = fE N l i ∧ f ≠ 0)
theorem BadAt.one {N : Int} {l : List Ed3} {f p f' p' : Int} (h : BadAt N l f p) (h' : BadAt N l f' p') : f = f' ∧ p = p' := by
  rcases h with ⟨h1, rfl, rfl⟩ | ⟨h1, i, hi, rfl, h2, h3, h4⟩ <;> rcases h' with ⟨k1, rfl, rfl⟩ | ⟨k1, j, hj, rfl, k2, k3, k4⟩
  · exact ⟨rfl, rfl⟩
  · exact absurd k1 h1
  · exact absurd h1 k1
  · rcases Nat.lt_trichotomy i j with q | q | q
    · exact absurd (h3.trans (k2 i q)) h4
    · subst q; exact ⟨h3.trans k3.symm, rfl⟩
    · exact absurd (k3.trans (h2 j q)) k4
theorem BadAt.ne {N : Int} {l : List Ed3} {f p : Int} (h : BadAt N l f p) : f ≠ 0 := by
  rcases h with ⟨h1, rfl, rfl⟩ | ⟨h1, i, hi, rfl, h2, h3, h4⟩
  · decide
  · exact h4
theorem takes_ofB {n : Nat} {l : List Ed3} (hn : n ≤ 1048576) (hm : l.length ≤ 4194304) (hf : ∀ i, i < l.length → fE n l i = 0) (hu : ∀ i, i < l.length → 0 ≤ (eAt l i).2.2) : Takes n l := by
  have hh : ∀ i, i < l.length → IsV n (eAt l i).1 ∧ IsV n (eAt l i).2.1 ∧ (eAt l i).2.2 ≤ 4294967295 := fun i hi => by
    have := hf i hi
    unfold fE edgeNo at this
    split at this
    · rename_i h1
      split at this
      · rename_i h2
        split at this
        · simp at this
        · exact ⟨h1, h2, by omega⟩
      · simp at this
    · simp at this
  exact ⟨hn, hm, fun i hi => (hh i hi).1, fun i hi => (hh i hi).2.1, fun i hi => ⟨hu i hi, (hh i hi).2.2⟩⟩
set_option maxRecDepth 100000 in
theorem build_size (N : Int) (ao : Option Addr) (m c : Nat) (w : World) (hN : N < 0 ∨ 1048576 < N) :
    Calls Try.prog 52 #[.agg #[.int .i64 N, .slice ao m c]] w fun e w' => e = .returned (.tuple #[zeroG, .int .i64 22, .int .i64 (-1)]) ∧ Below w.heap.size w w' := by
  obtain ⟨w1, hw1⟩ : ∃ w1, w1 = (w.alloc (.cells #[.int .i64 N, .slice ao m c] 47)).alloc (.cells #[.int .i64 0, .slice none 0 0, .slice none 0 0, .slice none 0 0] 25) := ⟨_, rfl⟩
  have hs : (w.alloc (.cells #[.int .i64 N, .slice ao m c] 47)).heap.size = w.heap.size + 1 := by simp
  have HB : Hid (Below w.heap.size w w1) := by rw [hw1]; exact below_alloc (below_alloc (Below.refl _ _) _) _
  have hbox : w1.heap[w.heap.size]? = some (.cells #[.int .i64 N, .slice ao m c] 47 (0, 0)) := by
    rw [hw1]; exact (Below.heap_alloc _ _ _ (by rw [hs]; omega)).trans (heap_new _ _)
  have hres : w1.heap[w.heap.size + 1]? = some (.cells #[.int .i64 0, .slice none 0 0, .slice none 0 0, .slice none 0 0] 25 (0, 0)) := by
    have := heap_new (w.alloc (.cells #[.int .i64 N, .slice ao m c] 47)) (.cells #[.int .i64 0, .slice none 0 0, .slice none 0 0, .slice none 0 0] 25)
    rw [hs] at this; rw [hw1]; exact this
  have HR := hide hres
  have b0 := cell_of hbox (i := 0) rfl
  have b1 := cell_of hbox (i := 1) rfl
  have r0 := cell_of hres (i := 0) rfl
  have r1 := cell_of hres (i := 1) rfl
  have r2 := cell_of hres (i := 2) rfl
  have r3 := cell_of hres (i := 3) rfl
  have q0 := free_of hres 0
  have q1 := free_of hres 1
  have q2 := free_of hres 2
  have q3 := free_of hres 3
  clear hs hbox hres
  rw [hw1] at b0 b1 r0 r1 r2 r3 q0 q1 q2 q3
  rcases hN with hN | hN
  · have hd : decide (N < 0) = true := decide_eq_true hN
    go_enter Try.func52, Try.ntmps52
    go_wp2_with fail
    rw [← hw1]
    exact bodyPost_ret (results_cell3 Try.results52 _ _ (w.heap.size + 1) 25 _ (0, 0) _ rfl HR.out Try.underlying25 rfl (by kernel_rfl) (.int .i64 22) (.int .i64 (-1)) rfl rfl) rfl ⟨rfl, HB.out⟩
  · have hd : decide (N < 0) = false := decide_eq_false (by omega)
    have hd2 : decide (N > 1048576) = true := decide_eq_true hN
    go_enter Try.func52, Try.ntmps52
    go_wp2_with fail
    rw [← hw1]
    exact bodyPost_ret (results_cell3 Try.results52 _ _ (w.heap.size + 1) 25 _ (0, 0) _ rfl HR.out Try.underlying25 rfl (by kernel_rfl) (.int .i64 22) (.int .i64 (-1)) rfl rfl) rfl ⟨rfl, HB.out⟩
set_option maxRecDepth 100000 in
set_option maxHeartbeats 4000000 in
theorem buildR_bad (n : Nat) (ao : Option Addr) (c : Nat) (l : List Ed3) (w : World) (hc : l.length ≤ c) (hn : n ≤ 1048576) (hr : EAt w (.slice ao l.length c) l) (hlu : ∀ i, i < l.length → 0 ≤ (eAt l i).2.2) (hl : c ≤ 9223372036854775807) (hnt : ¬ Takes n l) :
    Calls Try.prog 52 #[.agg #[.int .i64 n, .slice ao l.length c]] w (fun e w' => ∃ f p : Int, e = .returned (.tuple #[zeroG, .int .i64 f, .int .i64 p]) ∧ BadAt n l f p ∧ Below w.heap.size w w') := by
  obtain ⟨m, hme⟩ : ∃ m, m = l.length := ⟨_, rfl⟩
  rw [← hme] at hc ⊢
  have HR := hide hr
  have HM := hide hme
  have HLU := hide hlu
  have HNT := hide hnt
  have HB0 := hide (BMO.start w n ao m c)
  have b0 := cell_of HB0.out.box (i := 0) rfl
  have b1 := cell_of HB0.out.box (i := 1) rfl
  have r0 := cell_of HB0.out.res (i := 0) rfl
  have r1 := cell_of HB0.out.res (i := 1) rfl
  have r2 := cell_of HB0.out.res (i := 2) rfl
  have r3 := cell_of HB0.out.res (i := 3) rfl
  have q0 := free_of HB0.out.res 0
  have q1 := free_of HB0.out.res 1
  have q2 := free_of HB0.out.res 2
  have q3 := free_of HB0.out.res 3
  clear hr hme hlu hnt
  obtain ⟨w1, hw1⟩ : ∃ w1, w1 = (w.alloc (.cells #[.int .i64 n, .slice ao m c] 47)).alloc (.cells #[.int .i64 0, .slice none 0 0, .slice none 0 0, .slice none 0 0] 25) := ⟨_, rfl⟩
  by_cases hbig : m ≤ 4194304
  · go_enter Try.func52, Try.ntmps52
    go_wp2_with fail
    rw [← hw1] at HB0 ⊢
    clear hw1 b0 b1 r0 r1 r2 r3 q0 q1 q2 q3
    go_loopw [5, 6] (fun t u wr => ∃ i : Nat, i ≤ m ∧ t = .int .i64 i ∧ (∀ j, j < i → fE n l j = 0) ∧ BMO w wr n ao m c) (fun t _ _ => m - (RowKit.intOf t).toNat)
    case atStart => exact ⟨0, by omega, rfl, fun j hj => absurd hj (Nat.not_lt_zero _), HB0.out⟩
    case round =>
      obtain ⟨i, him, rfl, hF, hB⟩ := hrel
      clear HB0
      have HFI := hide hF
      have HB := hide hB
      have b0 := cell_of hB.box (i := 0) rfl
      have b1 := cell_of hB.box (i := 1) rfl
      have r0 := cell_of hB.res (i := 0) rfl
      have r1 := cell_of hB.res (i := 1) rfl
      have r2 := cell_of hB.res (i := 2) rfl
      have r3 := cell_of hB.res (i := 3) rfl
      have q0 := free_of hB.res 0
      have q1 := free_of hB.res 1
      have q2 := free_of hB.res 2
      have q3 := free_of hB.res 3
      have hs1 := lt_of_heap hB.res
      clear hF hB
      by_cases hlt : i < m
      · have hil : i < l.length := by rw [← HM.out]; exact hlt
        obtain ⟨g, o, rfl, hgw, e0, e1, e2⟩ := (HR.out.below HB.out.bel).cellAt hil
        have hwt := HLU.out i hil
        obtain ⟨x1, hx1⟩ : ∃ x, x = (eAt l i).1 := ⟨_, rfl⟩
        obtain ⟨x2, hx2⟩ : ∃ x, x = (eAt l i).2.1 := ⟨_, rfl⟩
        obtain ⟨x3, hx3⟩ : ∃ x, x = (eAt l i).2.2 := ⟨_, rfl⟩
        rw [← hx1] at e0
        rw [← hx2] at e1
        rw [← hx3] at e2 hwt
        have HX1 := hide hx1; have HX2 := hide hx2; have HX3 := hide hx3
        have HBA := hide (HB.out.below ((Below.refl _ _).alloc (Nat.le_refl _) (.cells #[.int .i64 x1, .int .i64 x2, .int .u64 x3] 50)))
        have s0 := cell_of HBA.out.box (i := 0) rfl
        have s1 := cell_of HBA.out.box (i := 1) rfl
        have t0 := cell_of HBA.out.res (i := 0) rfl
        have t1 := cell_of HBA.out.res (i := 1) rfl
        have t2 := cell_of HBA.out.res (i := 2) rfl
        have t3 := cell_of HBA.out.res (i := 3) rfl
        have u0 := free_of HBA.out.res 0
        have u1 := free_of HBA.out.res 1
        have u2 := free_of HBA.out.res 2
        have u3 := free_of HBA.out.res 3
        have hel := heap_new wr (.cells #[.int .i64 x1, .int .i64 x2, .int .u64 x3] 50)
        have v0 := cell_of hel (i := 0) rfl
        have v1 := cell_of hel (i := 1) rfl
        have v2 := cell_of hel (i := 2) rfl
        clear hx1 hx2 hx3 hel
        have HPU := hide (HB.out.put (.int .i64 0) (.slice none 0 0) (.slice none 0 0) (.slice none 0 0))
        have hrf : (((((wr.setCell ⟨w.heap.size + 1, 0, none⟩ (.int .i64 0)).setCell ⟨w.heap.size + 1, 1, none⟩ (.slice none 0 0)).setCell ⟨w.heap.size + 1, 2, none⟩ (.slice none 0 0)).setCell ⟨w.heap.size + 1, 3, none⟩ (.slice none 0 0)).alloc (.cells #[.int .i64 x1, .int .i64 x2, .int .u64 x3] 50)).heap[w.heap.size + 1]? = some (.cells #[.int .i64 0, .slice none 0 0, .slice none 0 0, .slice none 0 0] 25 (0, 0)) :=
          (Below.heap_alloc _ _ _ (lt_of_heap HPU.out.1)).trans HPU.out.1
        have HRF := hide hrf
        have HBL := hide (below_alloc HPU.out.2.1 (.cells #[.int .i64 x1, .int .i64 x2, .int .u64 x3] 50))
        clear hrf
        go_wp2
        all_goals first
          | (refine ⟨⟨i + 1, by omega, by simp, fun j hj => ?_, HBA.out⟩, by simp [RowKit.intOf]; omega⟩
             rcases Nat.lt_or_ge j i with hji | hji
             · exact HFI.out j hji
             · obtain rfl : j = i := by omega
               unfold fE edgeNo
               rw [← HX1.out, ← HX2.out, ← HX3.out, if_pos (show IsV _ _ from ⟨by omega, by omega⟩), if_pos (show IsV _ _ from ⟨by omega, by omega⟩), if_neg (by omega)])
          | exact bodyPost_ret (results_cell3 Try.results52 _ _ (w.heap.size + 1) 25 _ (0, 0) _ rfl HRF.out Try.underlying25 rfl (by kernel_rfl) (.int .i64 30) (.int .i64 i) rfl rfl) rfl ⟨30, i, rfl, .inr ⟨⟨by omega, by omega, by have := HM.out; omega⟩, i, hil, rfl, HFI.out, Eq.symm (by unfold fE edgeNo; rw [← HX1.out, ← HX2.out]; split <;> first | rfl | (rename_i hq; rw [if_neg (by unfold IsV at hq ⊢; omega)])), by decide⟩, HBL.out⟩
          | exact bodyPost_ret (results_cell3 Try.results52 _ _ (w.heap.size + 1) 25 _ (0, 0) _ rfl HRF.out Try.underlying25 rfl (by kernel_rfl) (.int .i64 31) (.int .i64 i) rfl rfl) rfl ⟨31, i, rfl, .inr ⟨⟨by omega, by omega, by have := HM.out; omega⟩, i, hil, rfl, HFI.out, Eq.symm (by unfold fE edgeNo; rw [← HX1.out, ← HX2.out, ← HX3.out, if_pos (show IsV _ _ from ⟨by omega, by omega⟩), if_pos (show IsV _ _ from ⟨by omega, by omega⟩), if_pos (by omega)]), by decide⟩, HBL.out⟩
      · exfalso
        obtain rfl : m = i := by omega
        have hm := HM.out
        exact HNT.out (takes_ofB hn (by omega) (fun i hi => HFI.out i (by omega)) HLU.out)
  · go_enter Try.func52, Try.ntmps52
    go_wp2_with fail
    rw [← hw1] at HB0 ⊢
    exact bodyPost_ret (results_cell3 Try.results52 _ _ (w.heap.size + 1) 25 _ (0, 0) _ rfl HB0.out.res Try.underlying25 rfl (by kernel_rfl) (.int .i64 22) (.int .i64 (-1)) rfl rfl) rfl ⟨22, -1, rfl, .inl ⟨fun h => hbig (by have := h.2.2; have := HM.out; omega), rfl, rfl⟩, HB0.out.bel⟩
/-- The document's Build of any edges. -/
def BuiltP (w : World) (N : Int) (l : List Ed3) (e : Ending) (w' : World) : Prop :=
  (∃ f p : Int, e = .returned (.tuple #[zeroG, .int .i64 f, .int .i64 p]) ∧ BadAt N l f p ∧ Below w.heap.size w w') ∨ (∃ n : Nat, N = n ∧ Takes n l ∧ BuiltR w n l e w')
theorem buildR_any (N : Int) (ev : Value) (l : List Ed3) (w : World) (hr : EAt w ev l) (hlu : ∀ i, i < l.length → 0 ≤ (eAt l i).2.2) :
    Calls Try.prog 52 #[.agg #[.int .i64 N, ev]] w (BuiltP w N l) := by
  obtain ⟨ao, c, rfl, hc, hcm, h3⟩ := id hr
  by_cases hN : N < 0 ∨ 1048576 < N
  · exact (build_size N ao l.length c w hN).mono fun e w' h => .inl ⟨22, -1, h.1, .inl ⟨fun h => by obtain ⟨h1, h2, h3⟩ := h; omega, rfl, rfl⟩, h.2⟩
  · obtain ⟨n, rfl⟩ := Int.eq_ofNat_of_zero_le (show 0 ≤ N by omega)
    by_cases hT : Takes n l
    · exact (buildR_good n ao c l w hr hT).mono fun e w' h => .inr ⟨n, rfl, hT, h⟩
    · exact (buildR_bad n ao c l w hc (by omega) hr hlu hcm hT).mono fun e w' h => .inl h
end Go.Proofs.Ytmagigmcbegmiaa

/- graph.Build of edges that it does not take. -/
namespace Go.Proofs.Ytmagigmcbegmiaa
open Go.RowKit Go.Lib Go.Shelf
attribute [local go_sem] Oper.semAt_some
set_option linter.unusedVariables false
set_option linter.unusedSimpArgs false
set_option maxRecDepth 100000 in
theorem buildX_size (N : Int) (ao : Option Addr) (m c : Nat) (w : World) (hN : ¬ FitsI N m) :
    Calls Try.prog 30 #[.agg #[.int .i64 N, .slice ao m c]] w fun e w' => e = .returned (.tuple #[zeroG, .int .i64 22, .int .i64 (-1)]) ∧ Below w.heap.size w w' := by
  obtain ⟨w1, hw1⟩ : ∃ w1, w1 = (w.alloc (.cells #[.int .i64 N, .slice ao m c] 47)).alloc (.cells #[.int .i64 0, .slice none 0 0, .slice none 0 0, .slice none 0 0] 25) := ⟨_, rfl⟩
  have hs : (w.alloc (.cells #[.int .i64 N, .slice ao m c] 47)).heap.size = w.heap.size + 1 := by simp
  have HB : Hid (Below w.heap.size w w1) := by rw [hw1]; exact below_alloc (below_alloc (Below.refl _ _) _) _
  have hbox : w1.heap[w.heap.size]? = some (.cells #[.int .i64 N, .slice ao m c] 47 (0, 0)) := by
    rw [hw1]; exact (Below.heap_alloc _ _ _ (by rw [hs]; omega)).trans (heap_new _ _)
  have hres : w1.heap[w.heap.size + 1]? = some (.cells #[.int .i64 0, .slice none 0 0, .slice none 0 0, .slice none 0 0] 25 (0, 0)) := by
    have := heap_new (w.alloc (.cells #[.int .i64 N, .slice ao m c] 47)) (.cells #[.int .i64 0, .slice none 0 0, .slice none 0 0, .slice none 0 0] 25)
    rw [hs] at this; rw [hw1]; exact this
  have HR := hide hres
  have b0 := cell_of hbox (i := 0) rfl
  have b1 := cell_of hbox (i := 1) rfl
  have r0 := cell_of hres (i := 0) rfl
  have r1 := cell_of hres (i := 1) rfl
  have r2 := cell_of hres (i := 2) rfl
  have r3 := cell_of hres (i := 3) rfl
  have q0 := free_of hres 0
  have q1 := free_of hres 1
  have q2 := free_of hres 2
  have q3 := free_of hres 3
  clear hs hbox hres
  rw [hw1] at b0 b1 r0 r1 r2 r3 q0 q1 q2 q3
  have hff := fun W => fits_any N m W
  rw [decide_eq_false hN] at hff
  have HFF := hide hff
  clear hff hN
  go_enter Try.func30, Try.ntmps30
  go_wp2_with fail
  refine (HFF.out _).mono ?_
  rintro e w1' ⟨rfl, rfl⟩
  go_wp2_with fail
  rw [← hw1]
  exact bodyPost_ret (results_cell3 Try.results30 _ _ (w.heap.size + 1) 25 _ (0, 0) _ rfl HR.out Try.underlying25 rfl (by kernel_rfl) (.int .i64 22) (.int .i64 (-1)) rfl rfl) rfl ⟨rfl, HB.out⟩
set_option maxRecDepth 100000 in
set_option maxHeartbeats 4000000 in
theorem buildX_bad (n : Nat) (ao : Option Addr) (c : Nat) (l : List Ed3) (w : World) (hn : n ≤ 1048576) (hm : l.length ≤ 4194304) (hr : EAt w (.slice ao l.length c) l) (hlu : ∀ i, i < l.length → 0 ≤ (eAt l i).2.2) (hnt : ¬ Takes n l) :
    Calls Try.prog 30 #[.agg #[.int .i64 n, .slice ao l.length c]] w fun e w' => ∃ f p : Int, e = .returned (.tuple #[zeroG, .int .i64 f, .int .i64 p]) ∧ BadAt n l f p ∧ Below w.heap.size w w' := by
  obtain ⟨m, hme⟩ : ∃ m, m = l.length := ⟨_, rfl⟩
  have hff := fun W => fits_any n m W
  rw [show decide (FitsI n m) = true from decide_eq_true ⟨by omega, by omega, by omega⟩] at hff
  have HFF := hide hff
  have HLK := hide (fun W i (hi : i < l.length) => look_any n (eAt l i).2.1 (eAt l i).2.2 W)
  have HIV := hide (fun W i (hi : i < l.length) => isV_any n (eAt l i).1 W)
  rw [← hme] at hm ⊢
  have HR := hide hr
  have HM := hide hme
  have HNT := hide hnt
  have HLU := hide hlu
  have HB0 := hide (BMO.start w n ao m c)
  have b0 := cell_of HB0.out.box (i := 0) rfl
  have b1 := cell_of HB0.out.box (i := 1) rfl
  clear hr hnt hlu hme hff
  go_enter Try.func30, Try.ntmps30
  go_wp2_with fail
  refine (HFF.out _).mono ?_
  rintro e w1' ⟨rfl, rfl⟩
  go_wp2_with fail
  clear b0 b1
  go_loopw [5, 6, 7, 19] (fun t5 t6 t7 t wr => ∃ i : Nat, i ≤ m ∧ t = .int .i64 i ∧ (∀ j, j < i → fE n l j = 0) ∧ BMO w wr n ao m c) (fun _ _ _ t _ => m - (RowKit.intOf t).toNat)
  case atStart => exact ⟨0, by omega, rfl, fun j hj => absurd hj (Nat.not_lt_zero _), HB0.out⟩
  case round =>
    obtain ⟨i, him, rfl, hF, hB⟩ := hrel
    clear HB0
    have HB := hide hB
    have HFI := hide hF
    have b0 := cell_of hB.box (i := 0) rfl
    have b1 := cell_of hB.box (i := 1) rfl
    have r0 := cell_of hB.res (i := 0) rfl
    have r1 := cell_of hB.res (i := 1) rfl
    have r2 := cell_of hB.res (i := 2) rfl
    have r3 := cell_of hB.res (i := 3) rfl
    have q0 := free_of hB.res 0
    have q1 := free_of hB.res 1
    have q2 := free_of hB.res 2
    have q3 := free_of hB.res 3
    have hs1 := lt_of_heap hB.res
    clear hB hF
    by_cases hlt : i < m
    · have hil : i < l.length := by rw [← HM.out]; exact hlt
      obtain ⟨g, o, rfl, hgl, e0, e1, e2⟩ := (HR.out.below HB.out.bel).cellAt hil
      have HL2 := hide (fun W => HLK.out W i hil)
      have HI2 := hide (fun W => HIV.out W i hil)
      have hfe : fE n l i = if IsV n (eAt l i).1 then edgeNo n (eAt l i).2.1 (eAt l i).2.2 else 30 := rfl
      obtain ⟨x, hx⟩ : ∃ x, x = (eAt l i).1 := ⟨_, rfl⟩
      obtain ⟨y, hy⟩ : ∃ y, y = (eAt l i).2.1 := ⟨_, rfl⟩
      obtain ⟨z, hz⟩ : ∃ z, z = (eAt l i).2.2 := ⟨_, rfl⟩
      rw [← hx] at e0 HI2 hfe
      rw [← hy] at e1 HL2 hfe
      rw [← hz] at e2 HL2 hfe
      obtain ⟨f, hf⟩ : ∃ f, f = edgeNo n y z := ⟨_, rfl⟩
      rw [← hf] at HL2 hfe
      have HFE := hide hfe
      have hli : (i : Int) < (m : Int) := by omega
      clear hx hy hz hf hfe
      have HPU := hide (HB.out.put (.int .i64 0) (.slice none 0 0) (.slice none 0 0) (.slice none 0 0))
      have hrf : (((((wr.setCell ⟨w.heap.size + 1, 0, none⟩ (.int .i64 0)).setCell ⟨w.heap.size + 1, 1, none⟩ (.slice none 0 0)).setCell ⟨w.heap.size + 1, 2, none⟩ (.slice none 0 0)).setCell ⟨w.heap.size + 1, 3, none⟩ (.slice none 0 0)).alloc (.cells #[.int .i64 x, .int .i64 y, .int .u64 z] 50)).heap[w.heap.size + 1]? = some (.cells #[.int .i64 0, .slice none 0 0, .slice none 0 0, .slice none 0 0] 25 (0, 0)) :=
        (Below.heap_alloc _ _ _ (lt_of_heap HPU.out.1)).trans HPU.out.1
      have HRF := hide hrf
      have HBL := hide (below_alloc HPU.out.2.1 (.cells #[.int .i64 x, .int .i64 y, .int .u64 z] 50))
      clear hrf
      have a0 := cellAl (.cells #[.int .i64 x, .int .i64 y, .int .u64 z] 50) b0
      go_wp2_with fail
      refine (HL2.out _).mono ?_
      rintro e wL ⟨rfl, rfl⟩
      go_wp2_with fail
      refine (HI2.out _).mono ?_
      rintro e wL ⟨rfl, rfl⟩
      by_cases hv : IsV n x
      · have hd : decide (IsV n x) = true := decide_eq_true hv
        rw [hd]
        have hfe : fE n l i = f := by rw [HFE.out, if_pos hv]
        have HF2 := hide hfe
        clear hv hd hfe
        by_cases hf0 : f = 0
        · subst hf0
          go_wp2
          refine ⟨⟨i + 1, by omega, by simp, fun j hj => ?_, HB.out.below (below_alloc (Below.refl _ _) _)⟩, by simp [RowKit.intOf]; omega⟩
          rcases Nat.lt_or_ge j i with hji | hji
          · exact HFI.out j hji
          · obtain rfl : j = i := by omega
            exact HF2.out
        · go_wp2
          exact bodyPost_ret (results_cell3 Try.results30 _ _ (w.heap.size + 1) 25 _ (0, 0) _ rfl HRF.out Try.underlying25 rfl (by kernel_rfl) (.int .i64 f) (.int .i64 i) rfl rfl) rfl ⟨f, i, rfl, .inr ⟨⟨by omega, by omega, by have := HM.out; omega⟩, i, hil, rfl, HFI.out, HF2.out.symm, hf0⟩, HBL.out⟩
      · have hd : decide (IsV n x) = false := decide_eq_false hv
        rw [hd]
        have hfe : fE n l i = 30 := by rw [HFE.out, if_neg hv]
        have HF2 := hide hfe
        clear hv hd hfe
        go_wp2
        exact bodyPost_ret (results_cell3 Try.results30 _ _ (w.heap.size + 1) 25 _ (0, 0) _ rfl HRF.out Try.underlying25 rfl (by kernel_rfl) (.int .i64 30) (.int .i64 i) rfl rfl) rfl ⟨30, i, rfl, .inr ⟨⟨by omega, by omega, by have := HM.out; omega⟩, i, hil, rfl, HFI.out, HF2.out.symm, by decide⟩, HBL.out⟩
    · exfalso
      obtain rfl : m = i := by omega
      have hm := HM.out
      exact HNT.out (takes_ofB hn (by omega) (fun i hi => HFI.out i (by omega)) HLU.out)
/-- A graph that Build has made: each list in a block of its own. -/
def BuiltX (w : World) (n : Nat) (l : List Ed3) (e : Ending) (w' : World) : Prop :=
  ∃ G1 G2 G3 st tl wt nx, e = .returned (.tuple #[gAgg n (.slice (some ⟨G1, 0, none⟩) (n + 1) (n + 1)) (.slice (some ⟨G2, 0, none⟩) l.length l.length) (.slice (some ⟨G3, 0, none⟩) l.length l.length), .int .i64 0, .int .i64 0]) ∧ Arr w' G1 st ∧ Arr w' G2 tl ∧ ArrU w' G3 wt ∧ w.heap.size ≤ G1 ∧ w.heap.size ≤ G2 ∧ w.heap.size ≤ G3 ∧ G1 ≠ G2 ∧ Summed n l.length (eFrom l) n st ∧ Laying n l.length (eFrom l) (eTo l) (eWt l) l.length nx tl wt ∧ Below w.heap.size w w'
set_option maxRecDepth 100000 in
set_option maxHeartbeats 4000000 in
theorem build_goodX (n : Nat) (ao : Option Addr) (c : Nat) (l : List Ed3) (w : World) (hr : EAt w (.slice ao l.length c) l) (ht : Takes n l) :
    Calls Try.prog 30 #[.agg #[.int .i64 n, .slice ao l.length c]] w (BuiltX w n l) := by
  have hn := ht.n_le
  have hm := ht.m_le
  have HSQ := hide (fun x x' hb hx => values_seq n ao c l w x x' ht hr hb hx)
  have HAR := hide (fun x lb hs => callsIn_wide.1 (arrange_anyX 0 n l.length 88 (enters_of Try.func88 (by kernel_rfl) rfl) lb (eFrom l) (eTo l) (eWt l) x hn hm (fun i hi => by have := ht.efr i hi; unfold eFrom; omega) (fun i hi => by have := ht.eto i hi; unfold eTo; omega) (fun i hi => ht.ewt i hi) hs))
  obtain ⟨m, hme⟩ : ∃ m, m = l.length := ⟨_, rfl⟩
  have hff := fun W => fits_any n m W
  rw [show decide (FitsI n m) = true from decide_eq_true ⟨by omega, by omega, by omega⟩] at hff
  have HFF := hide hff
  have HLK := hide (fun W i (hi : i < l.length) => look_any n (eAt l i).2.1 (eAt l i).2.2 W)
  have HE0 := hide (fun i (hi : i < l.length) => show edgeNo n (eAt l i).2.1 (eAt l i).2.2 = 0 by
    have h2 := ht.eto i hi
    have h3 := ht.ewt i hi
    unfold edgeNo
    rw [if_pos (show IsV n (eAt l i).2.1 from h2), if_neg (by omega)])
  have HIV := hide (fun W i (hi : i < l.length) => isV_any n (eAt l i).1 W)
  have HI1 := hide (fun i (hi : i < l.length) => show decide (IsV n (eAt l i).1) = true from decide_eq_true (show IsV n (eAt l i).1 from ht.efr i hi))
  rw [← hme] at hm ⊢
  have HR := hide hr
  have HM := hide hme
  have HT := hide ht
  have HB0 := hide (BMO.start w n ao m c)
  have b0 := cell_of HB0.out.box (i := 0) rfl
  have b1 := cell_of HB0.out.box (i := 1) rfl
  clear hr ht hme hff
  go_enter Try.func30, Try.ntmps30
  go_wp2_with fail
  refine (HFF.out _).mono ?_
  rintro e w1' ⟨rfl, rfl⟩
  go_wp2_with fail
  clear b0 b1
  go_loopw [5, 6, 7, 19] (fun t5 t6 t7 t wr => ∃ i : Nat, i ≤ m ∧ t = .int .i64 i ∧ BMO w wr n ao m c) (fun _ _ _ t _ => m - (RowKit.intOf t).toNat)
  case atStart => exact ⟨0, by omega, rfl, HB0.out⟩
  case round =>
    obtain ⟨i, him, rfl, hB⟩ := hrel
    clear HB0
    have HB := hide hB
    have b0 := cell_of hB.box (i := 0) rfl
    have b1 := cell_of hB.box (i := 1) rfl
    have hs1 := lt_of_heap hB.res
    clear hB
    by_cases hlt : i < m
    · have hil : i < l.length := by rw [← HM.out]; exact hlt
      obtain ⟨g, o, rfl, hgl, e0, e1, e2⟩ := (HR.out.below HB.out.bel).cellAt hil
      have HL2 := hide (fun W => HLK.out W i hil)
      have HI2 := hide (fun W => HIV.out W i hil)
      have he0 := HE0.out i hil
      have hi1 := HI1.out i hil
      obtain ⟨x, hx⟩ : ∃ x, x = (eAt l i).1 := ⟨_, rfl⟩
      obtain ⟨y, hy⟩ : ∃ y, y = (eAt l i).2.1 := ⟨_, rfl⟩
      obtain ⟨z, hz⟩ : ∃ z, z = (eAt l i).2.2 := ⟨_, rfl⟩
      rw [he0] at HL2
      rw [hi1] at HI2
      rw [← hx] at e0 HI2
      rw [← hy] at e1 HL2
      rw [← hz] at e2 HL2
      have hli : (i : Int) < (m : Int) := by omega
      clear hx hy hz he0 hi1
      have a0 := cellAl (.cells #[.int .i64 x, .int .i64 y, .int .u64 z] 50) b0
      go_wp2_with fail
      refine (HL2.out _).mono ?_
      rintro e wL ⟨rfl, rfl⟩
      go_wp2_with fail
      refine (HI2.out _).mono ?_
      rintro e wL ⟨rfl, rfl⟩
      go_wp2
      exact ⟨⟨i + 1, by omega, by simp, HB.out.below (below_alloc (Below.refl _ _) _)⟩, by simp [RowKit.intOf]; omega⟩
    · obtain rfl : i = m := by omega
      have HLN := hide HM.out
      have hil := HM.out
      subst hil
      have HS2 := hide (fun x' hx => HSQ.out wr.drew x' (below_drew HB.out.bel) hx)
      clear HSQ HFF HLK HE0 HIV HI1 HR HM him hlt
      go_wp2_with fail
      go_region_with (first
        | (go_at_call 62; refine (callsIn_wide.1 (values_any 0 ao l.length c _)).mono ?_; rintro e9 w9 ⟨rfl, hw9⟩; have HS9 := hide (HS2.out w9 hw9); have HK9 := hide (show BMO w w9 n ao l.length c from HB.out.below (by rw [hw9]; exact below_alloc (below_drew (Below.refl _ _)) _)); have f0 := cell_of HK9.out.box (i := 0) rfl; clear hw9)
        | (go_at_call 61; refine (HAR.out _ _ HS9.out).mono ?_; rintro e8 w8 ⟨G1, G2, G3, st8, tl8, wt8, nx8, rfl, hA1, hA2, hA3, hG1, hG2, hG3, hG12, hSm, hLy, hb8⟩; have HK8 := hide (HK9.out.below hb8); have HA1 := hide hA1; have HA2 := hide hA2; have HA3 := hide hA3; have HSM := hide hSm; have HLY := hide hLy; have r0 := cell_of HK8.out.res (i := 0) rfl; have r1 := cell_of HK8.out.res (i := 1) rfl; have r2 := cell_of HK8.out.res (i := 2) rfl; have r3 := cell_of HK8.out.res (i := 3) rfl; have q0 := free_of HK8.out.res 0; have q1 := free_of HK8.out.res 1; have q2 := free_of HK8.out.res 2; have q3 := free_of HK8.out.res 3; clear hA1 hA2 hA3 hSm hLy hb8; unfold gAgg))
      all_goals
        go_wp2
        have hlt : w.heap.size + 1 < w9.heap.size := lt_of_heap HK9.out.res
        have HPU := HK8.out.put (.int .i64 n) (.slice (some ⟨G1, 0, none⟩) (n + 1) (n + 1)) (.slice (some ⟨G2, 0, none⟩) l.length l.length) (.slice (some ⟨G3, 0, none⟩) l.length l.length)
        exact bodyPost_ret (results_cell3 Try.results30 _ _ (w.heap.size + 1) 25 _ (0, 0) _ rfl HPU.1 Try.underlying25 rfl (by kernel_rfl) (.int .i64 0) (.int .i64 0) rfl rfl) rfl ⟨G1, G2, G3, _, _, _, _, rfl, (HPU.2.2 G1 (by omega)).trans HA1.out, (HPU.2.2 G2 (by omega)).trans HA2.out, (HPU.2.2 G3 (by omega)).trans HA3.out, by omega, by omega, by omega, hG12, HSM.out, HLY.out, HPU.2.1⟩
/-- graph.Build of any edges. -/
def BuiltQ (w : World) (N : Int) (l : List Ed3) (e : Ending) (w' : World) : Prop :=
  (∃ f p : Int, e = .returned (.tuple #[zeroG, .int .i64 f, .int .i64 p]) ∧ BadAt N l f p ∧ Below w.heap.size w w') ∨ (∃ n : Nat, N = n ∧ Takes n l ∧ BuiltX w n l e w')
theorem buildX_any (N : Int) (ev : Value) (l : List Ed3) (w : World) (hr : EAt w ev l) (hlu : ∀ i, i < l.length → 0 ≤ (eAt l i).2.2) :
    Calls Try.prog 30 #[.agg #[.int .i64 N, ev]] w (BuiltQ w N l) := by
  obtain ⟨ao, c, rfl, hc, hcm, h3⟩ := id hr
  by_cases hN : FitsI N l.length
  · obtain ⟨n, rfl⟩ := Int.eq_ofNat_of_zero_le hN.1
    by_cases hT : Takes n l
    · exact (build_goodX n ao c l w hr hT).mono fun e w' h => .inr ⟨n, rfl, hT, h⟩
    · exact (buildX_bad n ao c l w (by have := hN.2.1; omega) (by have := hN.2.2; omega) hr hlu hT).mono fun e w' h => .inl h
  · exact (buildX_size N ao l.length c w hN).mono fun e w' h => .inl ⟨22, -1, h.1, .inl ⟨hN, rfl, rfl⟩, h.2⟩
end Go.Proofs.Ytmagigmcbegmiaa
