/- The document's Build, where all edges are fine. -/
import Derived.Test.YtiohimbifjlfdaaGB
namespace Go.Proofs.Ytiohimbifjlfdaa
open Go.RowKit Go.Lib
set_option linter.unusedVariables false
set_option linter.unusedSimpArgs false
theorem RowAt.but {k : IntKind} {w0 x y : World} {R : Nat} {v : Value} {xs : List Int} (h : RowAt k x v xs) (hn : NewAt w0 v) (hR : R < w0.heap.size) (hk : ∀ j, j ≠ R → y.heap[j]? = x.heap[j]?) : RowAt k y v xs := by
  obtain ⟨g, n, c, rfl, hg⟩ := hn
  obtain ⟨ao, c', he, h1, h2, h3, h4⟩ := h
  simp only [Value.slice.injEq] at he
  obtain ⟨rfl, rfl, rfl⟩ := he
  refine ⟨_, _, rfl, h1, h2, h3, fun a ha i hi => ?_⟩
  have h5 := h4 a ha i hi
  cases ha
  rw [Addr.add_lit] at h5 ⊢
  simp only [World.cell?] at h5 ⊢
  rw [hk g (by omega)]
  exact h5
/-- What it answers. -/
def BuiltR (w : World) (n : Nat) (l : List Ed3) (e : Ending) (w' : World) : Prop :=
  ∃ va vb vc st tl wt nx, e = .returned (.tuple #[gAgg n va vb vc, .int .i64 0, .int .i64 0]) ∧ GIs w' n va vb vc st tl wt ∧ Summed n l.length (eFrom l) n st ∧ Laying n l.length (eFrom l) (eTo l) (eWt l) l.length nx tl wt ∧ Below w.heap.size w w' ∧ NewAt w va ∧ NewAt w vb ∧ NewAt w vc
theorem Try.results4 : Try.f4.results = #[.cell 2 28, .tmp 3, .tmp 4] := by kernel_rfl
set_option maxRecDepth 100000 in
set_option maxHeartbeats 4000000 in
theorem buildR_good (n : Nat) (ao : Option Addr) (c : Nat) (l : List Ed3) (w : World) (hr : EAt w (.slice ao l.length c) l) (ht : Takes n l) :
    Calls Try.prog 4 #[.agg #[.int .i64 n, .slice ao l.length c]] w (BuiltR w n l) := by
  have hn := ht.n_le
  have hm := ht.m_le
  have hlc : l.length ≤ c := by
    obtain ⟨ao', c', he, h1, _⟩ := hr
    simp only [Value.slice.injEq, true_and] at he
    obtain ⟨_, rfl⟩ := he
    exact h1
  have HLA := hide (fun W (h : Below w.heap.size w W) => laidO_any n ao c l W hlc (hr.below h) ht)
  obtain ⟨m, hme⟩ : ∃ m, m = l.length := ⟨_, rfl⟩
  rw [← hme] at hm hlc HLA ⊢
  have HR := hide hr; have HM := hide hme; have HT := hide ht
  have HB0 := hide (BMO.start w n ao m c)
  have b0 := cell_of HB0.out.box (i := 0) rfl
  have b1 := cell_of HB0.out.box (i := 1) rfl
  have hni : ¬ (1048576 : Int) < (n : Int) := by omega
  have hmi : ¬ (4194304 : Int) < (m : Int) := by omega
  obtain ⟨w1, hw1⟩ : ∃ w1, w1 = (w.alloc (.cells #[.int .i64 n, .slice ao m c] 24)).alloc (.cells #[.int .i64 0, .slice none 0 0, .slice none 0 0, .slice none 0 0] 28) := ⟨_, rfl⟩
  clear hr ht hme
  go_enter Try.func4, Try.ntmps4
  go_wp2_with fail
  rw [← hw1] at HB0 ⊢
  clear hw1 b0 b1
  go_loopw [5] (fun t wr => ∃ i : Nat, i ≤ m ∧ t = .int .i64 i ∧ BMO w wr n ao m c) (fun t _ => m - (RowKit.intOf t).toNat)
  case atStart => exact ⟨0, by omega, rfl, HB0.out⟩
  case round =>
    obtain ⟨i, him, rfl, hB⟩ := hrel
    clear HB0
    have HB := hide hB
    have b0 := cell_of hB.box (i := 0) rfl
    have b1 := cell_of hB.box (i := 1) rfl
    clear hB
    by_cases hlt : i < m
    · have hil : i < l.length := by rw [← HM.out]; exact hlt
      have hrw := HR.out.below HB.out.bel
      obtain ⟨g, o, rfl, hgw, e0, e1, e2⟩ := hrw.cellAt hil
      obtain ⟨h1, h2⟩ := HT.out.efr i hil
      obtain ⟨h3, h4⟩ := HT.out.eto i hil
      obtain ⟨h5, h6⟩ := HT.out.ewt i hil
      obtain ⟨x1, hx1⟩ : ∃ x, x = (eAt l i).1 := ⟨_, rfl⟩
      obtain ⟨x2, hx2⟩ : ∃ x, x = (eAt l i).2.1 := ⟨_, rfl⟩
      obtain ⟨x3, hx3⟩ : ∃ x, x = (eAt l i).2.2 := ⟨_, rfl⟩
      rw [← hx1] at e0 h1 h2
      rw [← hx2] at e1 h3 h4
      rw [← hx3] at e2 h5 h6
      have hb := below_allocG (Below.refl wr.heap.size wr) (.cells #[.int .i64 x1, .int .i64 x2, .int .u64 x3] 48)
      have HBA := hide (HB.out.below hb)
      have s0 := cell_of HBA.out.box (i := 0) rfl
      have s1 := cell_of HBA.out.box (i := 1) rfl
      have k1 : ¬ x1 < 0 := by omega
      have k2 : ¬ (n : Int) ≤ x1 := by omega
      have k3 : ¬ x2 < 0 := by omega
      have k4 : ¬ (n : Int) ≤ x2 := by omega
      have k5 : ¬ (4294967295 : Int) < x3 := by omega
      have hii : (i : Int) < (m : Int) := by omega
      clear hx1 hx2 hx3 hb hrw h1 h2 h3 h4 h5 h6
      go_wp2_with fail
      refine ⟨⟨i + 1, by omega, by simp, HBA.out⟩, by simp [RowKit.intOf]; omega⟩
    · obtain rfl : m = i := by omega
      have hla := HLA.out wr HB.out.bel
      have HLA2 := hide hla
      have hrs := lt_of_heap HB.out.res
      have HRS := hide hrs
      clear hla hrs
      go_wp2_with fail
      refine HLA2.out.mono ?_
      rintro e w8 ⟨va, vb, vc, st, tl, wt, nx, rfl, hgi, hsm, hly, hb8, hna, hnb, hnc⟩
      have HB8 := hide (HB.out.below hb8)
      have HGI := hide hgi; have HSL := hide (And.intro hsm hly); have HN := hide (And.intro hna (And.intro hnb hnc))
      obtain ⟨ao8, ca8, rfl⟩ := hgi.s.shape
      obtain ⟨bo8, cb8, rfl⟩ := hgi.t.shape
      obtain ⟨co8, cc8, rfl⟩ := hgi.u.shape
      have r0 := cell_of HB8.out.res (i := 0) rfl
      have r1 := cell_of HB8.out.res (i := 1) rfl
      have r2 := cell_of HB8.out.res (i := 2) rfl
      have r3 := cell_of HB8.out.res (i := 3) rfl
      have q0 := free_of HB8.out.res 0
      have q1 := free_of HB8.out.res 1
      have q2 := free_of HB8.out.res 2
      have q3 := free_of HB8.out.res 3
      have HSZ := hide HB.out.bel.size
      unfold gAgg
      clear hgi hsm hly hb8 hna hnb hnc b0 b1
      go_wp2_with fail
      have HPU := HB8.out.put (.int .i64 n) (.slice ao8 st.length ca8) (.slice bo8 tl.length cb8) (.slice co8 wt.length cc8)
      have hsub : ∀ v, NewAt wr v → NewAt w v := fun v ⟨g, n, c, h1, h2⟩ => ⟨g, n, c, h1, Nat.le_trans HSZ.out h2⟩
      have hsl := HSL.out
      refine bodyPost_ret (results_cell3 Try.results4 _ _ (w.heap.size + 1) 28 _ (0, 0) _ rfl HPU.1 Try.underlying28 rfl (by kernel_rfl) (.int .i64 0) (.int .i64 0) rfl rfl) rfl ⟨_, _, _, _, _, _, nx, rfl, ⟨HGI.out.s.but HN.out.1 HRS.out HPU.2.2, HGI.out.t.but HN.out.2.1 HRS.out HPU.2.2, HGI.out.u.but HN.out.2.2 HRS.out HPU.2.2⟩, hsl.1, hsl.2, HPU.2.1, hsub _ HN.out.1, hsub _ HN.out.2.1, hsub _ HN.out.2.2⟩
end Go.Proofs.Ytiohimbifjlfdaa
