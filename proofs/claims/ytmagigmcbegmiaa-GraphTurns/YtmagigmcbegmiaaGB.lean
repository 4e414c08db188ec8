/- graph.Build, where the edges are fine. -/
import Derived.Test.YtmagigmcbegmiaaGE
import Derived.Test.YtmagigmcbegmiaaGA2
import Derived.Test.YtmagigmcbegmiaaChecksWalk
import Derived.Deep.RegionHeld3
import Derived.Deep.Draws
namespace Go.Proofs.Ytmagigmcbegmiaa
open Go.RowKit Go.Lib Go.Shelf
set_option linter.unusedVariables false
attribute [local go_sem] Oper.semAt_some
def eFrom (l : List Ed3) (i : Nat) : Nat := (eAt l i).1.toNat
def eTo (l : List Ed3) (i : Nat) : Nat := (eAt l i).2.1.toNat
def eWt (l : List Ed3) (i : Nat) : Int := (eAt l i).2.2
/-- What Build takes. -/
structure Takes (n : Nat) (l : List Ed3) : Prop where
  n_le : n ≤ 1048576
  m_le : l.length ≤ 4194304
  efr : ∀ i, i < l.length → 0 ≤ (eAt l i).1 ∧ (eAt l i).1 < n
  eto : ∀ i, i < l.length → 0 ≤ (eAt l i).2.1 ∧ (eAt l i).2.1 < n
  ewt : ∀ i, i < l.length → 0 ≤ (eAt l i).2.2 ∧ (eAt l i).2.2 ≤ 4294967295
theorem results_cell3 {P : Program} {fn : Func} {p u v : Tmp} {ty : TypeId} (h : fn.results = #[.cell p ty, .tmp u, .tmp v]) (tmps : Array Value) (w : World) (g : Nat) (t : TypeId) (cs : Array Value) (fr : Nat × Nat) (d : TypeDesc)
    (hp : tmps.getD p undef = .pointer (some ⟨g, 0, none⟩)) (hg : w.heap[g]? = some (.cells cs t fr))
    (hu : P.underlying ty = some d) (hd : (match d with | .struct _ | .array _ _ => true | _ => false) = true) (hi : (P.info? ty).map (·.size) = some cs.size) (x y : Value) (hx : tmps.getD u undef = x) (hy : tmps.getD v undef = y) :
    (results fn tmps).run P w = .ok (.tuple #[.agg cs, x, y]) w := by
  subst hx hy
  have hp' : tmps[p]?.getD undef = .pointer (some ⟨g, 0, none⟩) := by simpa using hp
  simp only [results, h]
  simp [Result.andThen, hp', asAddr, run_loadVar_row w g t ty cs fr d hg hu hd hi]
structure BMO (w wr : World) (n : Nat) (ao : Option Addr) (len c : Nat) : Prop where
  box : wr.heap[w.heap.size]? = some (.cells #[.int .i64 n, .slice ao len c] 47 (0, 0))
  res : wr.heap[w.heap.size + 1]? = some (.cells #[.int .i64 0, .slice none 0 0, .slice none 0 0, .slice none 0 0] 25 (0, 0))
  bel : Below w.heap.size w wr
theorem BMO.start (w : World) (n : Nat) (ao : Option Addr) (len c : Nat) : BMO w ((w.alloc (.cells #[.int .i64 n, .slice ao len c] 47)).alloc (.cells #[.int .i64 0, .slice none 0 0, .slice none 0 0, .slice none 0 0] 25)) n ao len c := by
  have hs : (w.alloc (.cells #[.int .i64 n, .slice ao len c] 47)).heap.size = w.heap.size + 1 := by simp
  refine ⟨?_, ?_, below_alloc (below_alloc (Below.refl _ _) _) _⟩
  · exact (Below.heap_alloc _ _ _ (by rw [hs]; omega)).trans (heap_new _ _)
  · have := heap_new (w.alloc (.cells #[.int .i64 n, .slice ao len c] 47)) (.cells #[.int .i64 0, .slice none 0 0, .slice none 0 0, .slice none 0 0] 25)
    rw [hs] at this; exact this
theorem BMO.below {w wr w' : World} {n len c : Nat} {ao : Option Addr} (h : BMO w wr n ao len c) (hb : Below wr.heap.size wr w') : BMO w w' n ao len c :=
  ⟨(hb.block _ (lt_of_heap h.box)).trans h.box, (hb.block _ (lt_of_heap h.res)).trans h.res, below_on h.bel hb⟩
theorem BMO.put {w wr : World} {n len c : Nat} {ao : Option Addr} (h : BMO w wr n ao len c) (y0 y1 y2 y3 : Value) :
    ((((wr.setCell ⟨w.heap.size + 1, 0, none⟩ y0).setCell ⟨w.heap.size + 1, 1, none⟩ y1).setCell ⟨w.heap.size + 1, 2, none⟩ y2).setCell ⟨w.heap.size + 1, 3, none⟩ y3).heap[w.heap.size + 1]? = some (.cells #[y0, y1, y2, y3] 25 (0, 0)) ∧
    Below w.heap.size w ((((wr.setCell ⟨w.heap.size + 1, 0, none⟩ y0).setCell ⟨w.heap.size + 1, 1, none⟩ y1).setCell ⟨w.heap.size + 1, 2, none⟩ y2).setCell ⟨w.heap.size + 1, 3, none⟩ y3) ∧
    ∀ k, k ≠ w.heap.size + 1 → ((((wr.setCell ⟨w.heap.size + 1, 0, none⟩ y0).setCell ⟨w.heap.size + 1, 1, none⟩ y1).setCell ⟨w.heap.size + 1, 2, none⟩ y2).setCell ⟨w.heap.size + 1, 3, none⟩ y3).heap[k]? = wr.heap[k]? := by
  refine ⟨by rw [heap_set (heap_set (heap_set (heap_set h.res _) _) _) _]; rfl, ?_, fun k hk => ?_⟩
  · exact (((h.bel.setCell (p := ⟨w.heap.size + 1, 0, none⟩) (by simp) _).setCell (p := ⟨w.heap.size + 1, 1, none⟩) (by simp) _).setCell (p := ⟨w.heap.size + 1, 2, none⟩) (by simp) _).setCell (p := ⟨w.heap.size + 1, 3, none⟩) (by simp) _
  · rw [Below.heap_setCell _ _ _ _ (by exact hk), Below.heap_setCell _ _ _ _ (by exact hk), Below.heap_setCell _ _ _ _ (by exact hk), Below.heap_setCell _ _ _ _ (by exact hk)]
theorem Try.results30 : Try.f30.results = #[.cell 2 25, .tmp 3, .tmp 4] := by kernel_rfl
theorem upto_congr {α : Type} {f g : Nat → α} {k : Nat} (h : ∀ i, i < k → f i = g i) : upto f k = upto g k := by
  unfold upto
  exact List.map_congr_left fun i hi => h i (List.mem_range.1 hi)
theorem values_seq (n : Nat) (ao : Option Addr) (c : Nat) (l : List Ed3) (w0 x x' : World) (ht : Takes n l) (he : EAt w0 (.slice ao l.length c) l) (hb : Below w0.heap.size w0 x) (hx : x' = x.alloc (.cells #[.slice ao l.length c] 45)) :
    ∀ Tt : Nat → Prop, (∀ k, Tt k → x'.heap.size ≤ k) → Gw Tt Try.prog 88 #[.pointer (some ⟨x.heap.size, 0, none⟩)] encE (upto (fEd (eFrom l) (eTo l) (eWt l)) l.length) x' := by
  intro Tt hT
  have hs : x'.heap.size = x.heap.size + 1 := by rw [hx]; simp
  have e1 : upto (fEd (eFrom l) (eTo l) (eWt l)) l.length = upto (eAt l) l.length := upto_congr fun i hi => by
    have h1 := ht.efr i hi
    have h2 := ht.eto i hi
    unfold fEd eFrom eTo eWt
    rw [Int.toNat_of_nonneg h1.1, Int.toNat_of_nonneg h2.1]
  rw [e1]
  have hB : x'.heap[x.heap.size]? = some (.cells #[.slice ao l.length c] 45 (0, 0)) := by rw [hx]; exact heap_new _ _
  exact (values1_gives Tt ao c x.heap.size l w0 x' ht.m_le he (by rw [hx]; exact below_alloc hb _) (fun k hk => by have := hT k hk; have := hb.size; omega) hB).wide
theorem gis_bounded {B : Nat} {w' : World} {N : Int} {va vb vc : Value} {st tl wt : List Int} (h : ∀ Z : World, (∀ k, B ≤ k → Z.heap[k]? = w'.heap[k]?) → GIs Z N va vb vc st tl wt) :
    ∀ Z : World, w'.heap.size ≤ Z.heap.size → (∀ k, B ≤ k → k < w'.heap.size → Z.heap[k]? = w'.heap[k]?) → GIs Z N va vb vc st tl wt := by
  intro Z hs hk
  have h1 := h { Z with heap := Z.heap.extract 0 w'.heap.size } (fun k hB => by
    show (Z.heap.extract 0 w'.heap.size)[k]? = _
    rcases Nat.lt_or_ge k w'.heap.size with hl | hl
    · rw [Array.getElem?_extract, Nat.min_eq_left hs, if_pos (by omega), Nat.zero_add]; exact hk k hB hl
    · rw [Array.getElem?_eq_none (by simp; omega), Array.getElem?_eq_none hl])
  refine h1.below ⟨rfl, rfl, rfl, ?_, fun i hi => ?_⟩
  · show (Z.heap.extract 0 w'.heap.size).size ≤ Z.heap.size
    simp; omega
  · have hi' : i < (Z.heap.extract 0 w'.heap.size).size := hi
    show Z.heap[i]? = (Z.heap.extract 0 w'.heap.size)[i]?
    simp at hi'
    rw [Array.getElem?_extract, Nat.min_eq_left hs, if_pos (by omega), Nat.zero_add]
/-- A graph that Build has made, in every world whose blocks from w's end on are those of w'. -/
def BuiltW (w : World) (n : Nat) (l : List Ed3) (e : Ending) (w' : World) : Prop :=
  ∃ va vb vc st tl wt nx, e = .returned (.tuple #[gAgg n va vb vc, .int .i64 0, .int .i64 0]) ∧ (∀ Z : World, w'.heap.size ≤ Z.heap.size → (∀ k, w.heap.size ≤ k → k < w'.heap.size → Z.heap[k]? = w'.heap[k]?) → GIs Z n va vb vc st tl wt) ∧ Summed n l.length (eFrom l) n st ∧ Laying n l.length (eFrom l) (eTo l) (eWt l) l.length nx tl wt ∧ Below w.heap.size w w'
set_option maxRecDepth 100000 in
set_option maxHeartbeats 4000000 in
theorem build_good (n : Nat) (ao : Option Addr) (c : Nat) (l : List Ed3) (w : World) (hr : EAt w (.slice ao l.length c) l) (ht : Takes n l) :
    Calls Try.prog 30 #[.agg #[.int .i64 n, .slice ao l.length c]] w (BuiltW w n l) := by
  have hn := ht.n_le
  have hm := ht.m_le
  have HSQ := hide (fun x x' hb hx => values_seq n ao c l w x x' ht hr hb hx)
  have HAR := hide (fun x lb hs => callsIn_wide.1 (arrange_any 0 n l.length 88 (enters_of Try.func88 (by kernel_rfl) rfl) lb (eFrom l) (eTo l) (eWt l) x hn hm (fun i hi => by have := ht.efr i hi; unfold eFrom; omega) (fun i hi => by have := ht.eto i hi; unfold eTo; omega) (fun i hi => ht.ewt i hi) hs))
  obtain ⟨m, hme⟩ : ∃ m, m = l.length := ⟨_, rfl⟩
  have hff := fun W => fits_any n m W
  rw [show decide (FitsI n m) = true from decide_eq_true ⟨by omega, by omega, by omega⟩] at hff
  have HFF := hide hff
  have HLK := hide (fun W i (hi : i < l.length) => look_any n (eAt l i).2.1 (eAt l i).2.2 W)
  have HE0 := hide (fun i (hi : i < l.length) => show edgeNo n (eAt l i).2.1 (eAt l i).2.2 = 0 by
    have h2 := ht.eto i hi
    have h3 := ht.ewt i hi
    unfold edgeNo
    rw [if_pos (show IsV n (eAt l i).2.1 from h2), if_neg (by omega)])
  have HIV := hide (fun W i (hi : i < l.length) => isV_any n (eAt l i).1 W)
  have HI1 := hide (fun i (hi : i < l.length) => show decide (IsV n (eAt l i).1) = true from decide_eq_true (show IsV n (eAt l i).1 from ht.efr i hi))
  rw [← hme] at hm ⊢
  have HR := hide hr
  have HM := hide hme
  have HT := hide ht
  have HB0 := hide (BMO.start w n ao m c)
  have b0 := cell_of HB0.out.box (i := 0) rfl
  have b1 := cell_of HB0.out.box (i := 1) rfl
  clear hr ht hme hff
  go_enter Try.func30, Try.ntmps30
  go_wp2_with fail
  refine (HFF.out _).mono ?_
  rintro e w1' ⟨rfl, rfl⟩
  go_wp2_with fail
  clear b0 b1
  go_loopw [5, 6, 7, 19] (fun t5 t6 t7 t wr => ∃ i : Nat, i ≤ m ∧ t = .int .i64 i ∧ BMO w wr n ao m c) (fun _ _ _ t _ => m - (RowKit.intOf t).toNat)
  case atStart => exact ⟨0, by omega, rfl, HB0.out⟩
  case round =>
    obtain ⟨i, him, rfl, hB⟩ := hrel
    clear HB0
    have HB := hide hB
    have b0 := cell_of hB.box (i := 0) rfl
    have b1 := cell_of hB.box (i := 1) rfl
    have hs1 := lt_of_heap hB.res
    clear hB
    by_cases hlt : i < m
    · have hil : i < l.length := by rw [← HM.out]; exact hlt
      obtain ⟨g, o, rfl, hgl, e0, e1, e2⟩ := (HR.out.below HB.out.bel).cellAt hil
      have HL2 := hide (fun W => HLK.out W i hil)
      have HI2 := hide (fun W => HIV.out W i hil)
      have he0 := HE0.out i hil
      have hi1 := HI1.out i hil
      obtain ⟨x, hx⟩ : ∃ x, x = (eAt l i).1 := ⟨_, rfl⟩
      obtain ⟨y, hy⟩ : ∃ y, y = (eAt l i).2.1 := ⟨_, rfl⟩
      obtain ⟨z, hz⟩ : ∃ z, z = (eAt l i).2.2 := ⟨_, rfl⟩
      rw [he0] at HL2
      rw [hi1] at HI2
      rw [← hx] at e0 HI2
      rw [← hy] at e1 HL2
      rw [← hz] at e2 HL2
      have hli : (i : Int) < (m : Int) := by omega
      clear hx hy hz he0 hi1
      have a0 := cellAl (.cells #[.int .i64 x, .int .i64 y, .int .u64 z] 50) b0
      go_wp2_with fail
      refine (HL2.out _).mono ?_
      rintro e wL ⟨rfl, rfl⟩
      go_wp2_with fail
      refine (HI2.out _).mono ?_
      rintro e wL ⟨rfl, rfl⟩
      go_wp2
      exact ⟨⟨i + 1, by omega, by simp, HB.out.below (below_alloc (Below.refl _ _) _)⟩, by simp [RowKit.intOf]; omega⟩
    · obtain rfl : i = m := by omega
      have HLN := hide HM.out
      have hil := HM.out
      subst hil
      have HS2 := hide (fun x' hx => HSQ.out wr.drew x' (below_drew HB.out.bel) hx)
      clear HSQ HFF HLK HE0 HIV HI1 HR HM him hlt
      go_wp2_with fail
      go_region_with (first
        | (go_at_call 62; refine (callsIn_wide.1 (values_any 0 ao l.length c _)).mono ?_; rintro e9 w9 ⟨rfl, hw9⟩; have HS9 := hide (HS2.out w9 hw9); have HK9 := hide (show BMO w w9 n ao l.length c from HB.out.below (by rw [hw9]; exact below_alloc (below_drew (Below.refl _ _)) _)); have f0 := cell_of HK9.out.box (i := 0) rfl; clear hw9)
        | (go_at_call 61; refine (HAR.out _ _ HS9.out).mono ?_; rintro e8 w8 ⟨va8, vb8, vc8, st8, tl8, wt8, nx8, rfl, hGI, hSm, hLy, hb8⟩; obtain ⟨ao8, ca8, rfl⟩ := (hGI w8 (fun _ _ => rfl)).s.shape; obtain ⟨bo8, cb8, rfl⟩ := (hGI w8 (fun _ _ => rfl)).t.shape; obtain ⟨co8, cc8, rfl⟩ := (hGI w8 (fun _ _ => rfl)).u.shape; have HK8 := hide (HK9.out.below hb8); have HGI := hide hGI; have HSM := hide hSm; have HLY := hide hLy; have r0 := cell_of HK8.out.res (i := 0) rfl; have r1 := cell_of HK8.out.res (i := 1) rfl; have r2 := cell_of HK8.out.res (i := 2) rfl; have r3 := cell_of HK8.out.res (i := 3) rfl; have q0 := free_of HK8.out.res 0; have q1 := free_of HK8.out.res 1; have q2 := free_of HK8.out.res 2; have q3 := free_of HK8.out.res 3; clear hGI hSm hLy hb8; unfold gAgg))
      all_goals
        go_wp2
        have hlt : w.heap.size + 1 < w9.heap.size := lt_of_heap HK9.out.res
        have HPU := HK8.out.put (.int .i64 n) (.slice ao8 st8.length ca8) (.slice bo8 tl8.length cb8) (.slice co8 wt8.length cc8)
        exact bodyPost_ret (results_cell3 Try.results30 _ _ (w.heap.size + 1) 25 _ (0, 0) _ rfl HPU.1 Try.underlying25 rfl (by kernel_rfl) (.int .i64 0) (.int .i64 0) rfl rfl) rfl ⟨_, _, _, _, _, _, _, rfl, gis_bounded (B := w.heap.size) (fun Z hZ => HGI.out Z (fun k hk => (hZ k (by omega)).trans (HPU.2.2 k (by omega)))), HSM.out, HLY.out, HPU.2.1⟩

end Go.Proofs.Ytmagigmcbegmiaa
