/- circleBehind. -/
import Derived.Test.YtacmlilcamkndaaIx
namespace Go.Proofs.Ytacmlilcamkndaa
open Go.RowKit Go.Lib
set_option linter.unusedVariables false
set_option linter.unusedSimpArgs false
/-- How many cells of a block are false. -/
def offs (w : World) (g : Nat) : Nat := match w.heap[g]? with
  | some (.cells a _ _) => a.toList.countP (fun v => match v with | .bool b => !b | _ => false)
  | _ => 0
theorem offs_of {w : World} {g n : Nat} {K : Nat → Bool} (h : BArr w g (btab n K)) : offs w g = (List.range n).countP (fun x => !K x) := by
  unfold BArr at h
  unfold offs
  rw [h]
  simp only [bCells, btab, List.map_map, List.countP_map]
  rfl
theorem off_less {n a : Nat} {K : Nat → Bool} (ha : a < n) (hK : K a = false) : (List.range n).countP (fun x => !(if x = a then true else K x)) < (List.range n).countP (fun x => !K x) := by
  induction n with
  | zero => omega
  | succ n ih =>
    rw [List.range_succ, List.countP_append, List.countP_append, List.countP_singleton, List.countP_singleton]
    by_cases e : a = n
    · subst e
      have h1 : (List.range a).countP (fun x => !(if x = a then true else K x)) = (List.range a).countP (fun x => !K x) := by
        apply List.countP_congr
        intro x hx
        have := List.mem_range.1 hx
        rw [if_neg (by omega)]
      rw [h1]
      simp [hK]
    · have := ih (by omega)
      rw [if_neg (show ¬ n = a by omega)]
      omega
theorem least_round {f : Nat → Nat} {v : Nat} : ∀ d, 1 ≤ d → itr f v d = v → ∃ t, 1 ≤ t ∧ itr f v t = v ∧ ∀ x, 1 ≤ x → x < t → itr f v x ≠ v := by
  intro d
  induction d using Nat.strongRecOn with
  | _ d ih =>
    intro h1 h2
    by_cases h : ∃ x, 1 ≤ x ∧ x < d ∧ itr f v x = v
    · obtain ⟨x, h3, h4, h5⟩ := h
      exact ih x h4 h3 h5
    · exact ⟨d, h1, h2, fun x h3 h4 h5 => h ⟨x, h3, h4, h5⟩⟩
/-- Which have been met. -/
def met (f : Nat → Nat) (v k x : Nat) : Bool := (List.range k).any (fun i => decide (itr f v i = x))
theorem met_iff {f : Nat → Nat} {v k x : Nat} : met f v k x = true ↔ ∃ i, i < k ∧ itr f v i = x := by simp [met]
theorem met_zero (f : Nat → Nat) (v : Nat) : met f v 0 = fun _ => false := funext fun x => by simp [met]
theorem met_next {f : Nat → Nat} {v k a : Nat} (h : a = itr f v k) : (fun x => if x = a then true else met f v k x) = met f v (k + 1) := funext fun x => by
  simp only [met, List.range_succ, List.any_append, List.any_cons, List.any_nil, Bool.or_false]
  by_cases e : x = a
  · rw [if_pos e, ← h, e]; simp
  · rw [if_neg e, ← h, decide_eq_false (fun h => e h.symm)]; simp
structure CM (w wr : World) (E C n : Nat) (fr pl : Nat → Int) (K : Nat → Bool) : Prop where
  bel : Below w.heap.size w wr
  ent : E2 wr E (ent n fr pl)
  car : BArr wr C (btab n K)
  wE : w.heap.size ≤ E
  EC : E < C
theorem CM.put {w wr : World} {E C n : Nat} {fr pl : Nat → Int} {K : Nat → Bool} (h : CM w wr E C n fr pl K) (i : Nat) (b : Bool) : CM w (wr.setCell ⟨C, i, none⟩ (.bool b)) E C n fr pl (fun v => if v = i then b else K v) := by
  have h1 := h.wE; have h2 := h.EC
  have hc : Chg (fun k => k = C) wr (wr.setCell ⟨C, i, none⟩ (.bool b)) := (Chg.refl (fun k => k = C) wr).setCell (p := ⟨C, i, none⟩) rfl _
  exact ⟨Chg.below h.bel hc (fun k hk => by omega) h.bel.size, hc.heap h.ent (by omega), h.car.put i b, h1, h2⟩
structure CN (w wr : World) (E n : Nat) (fr pl : Nat → Int) (cv : Value) (l : List Int) : Prop where
  bel : Below w.heap.size w wr
  ent : E2 wr E (ent n fr pl)
  own : wr.ownsRow (E + 1) 3 1 cv l.length (ivs l)
  wE : w.heap.size ≤ E
section
variable {w wr : World} {E n : Nat} {fr pl : Nat → Int} {cv : Value} {l : List Int}
theorem CN.own_lt (h : CN w wr E n fr pl cv l) : ∀ k, cv.ownBlock = some k → E + 1 ≤ k ∧ k < wr.heap.size := fun k hk => World.ownsRow.lt h.own k hk
theorem CN.came (h : CN w wr E n fr pl cv l) {o : Obj} {x : Int} {g cap : Nat} {w2 : World} (hown : w2.ownsRow (E + 1) 3 1 (.slice (some ⟨g, 0, none⟩) (l.length + 1) cap) (l.length + 1) (ivs l ++ [.int .i64 x])) (hgrow : (wr.alloc o).grownBy w2 cv.ownBlock) :
    CN w w2 E n fr pl (.slice (some ⟨g, 0, none⟩) (l ++ [x]).length cap) (l ++ [x]) := by
  have hwE := h.wE
  have hc : Chg (fun k => cv.ownBlock = some k) wr w2 := ((Chg.refl _ wr).alloc o).grown hgrow (fun k hk => .inl hk)
  have hno : ∀ k, k ≤ E → ¬ cv.ownBlock = some k := fun k hk h3 => by have := h.own_lt k h3; omega
  refine ⟨Chg.below h.bel hc (fun k hk => by have := h.own_lt k hk; omega) h.bel.size, hc.heap h.ent (hno _ (Nat.le_refl _)), ?_, hwE⟩
  rw [List.length_append, List.length_singleton, show ivs (l ++ [x]) = ivs l ++ [.int .i64 x] by simp [ivs]]
  exact hown
end
theorem tab_more (n : Nat) (f : Nat → Int) : tab (n + 1) f = tab n f ++ [f n] := by simp [tab, List.range_succ]
set_option maxRecDepth 100000 in
set_option maxHeartbeats 8000000 in
theorem behind_any (n : Nat) (va vb vc cv : Value) (st tl wt L : List Int) (w : World) (hgi : GIs w n va vb vc st tl wt) (hg : Good n st tl wt) (hcv : RowAt .i64 w cv L) (hf : Fin n st tl L) (hLn : L.length < n) (hL : ∀ v, v ∈ L → 0 ≤ v ∧ v < (n : Int)) :
    Calls Try.prog 22 #[gAgg n va vb vc, cv] w fun e w' => ∃ v c, e = .returned v ∧ RowAt .i64 w' v c ∧ Ci n st tl c ∧ Below w.heap.size w w' := by
  obtain ⟨i4, hi4, hz4, hs4, hy4⟩ := info_parts Try.info4
  obtain ⟨i3, hi3, hz3, hs3, hy3⟩ := info_parts Try.info3q
  have hnl := hg.n_le
  have HG := hide hg
  have HNL := hide hnl
  have HF := hide hf
  have HLX := hide (left_ex hLn)
  have hbox := heap_new w (.cells #[.int .i64 n, va, vb, vc] 25)
  have c0 := cell_of hbox (i := 0) rfl
  have c1 := cell_of hbox (i := 1) rfl
  have c2 := cell_of hbox (i := 2) rfl
  have c3 := cell_of hbox (i := 3) rfl
  have hB0 : Below w.heap.size w (w.alloc (.cells #[.int .i64 n, va, vb, vc] 25)) := below_alloc (Below.refl _ _) _
  have HC := hide (entries_any n va vb vc cv st tl wt L _ (hgi.below hB0) hg (hcv.below hB0) hL (by omega) (by omega))
  have HB0 := hide hB0
  have HBX := hide hbox
  unfold gAgg at HC ⊢
  clear hgi hg hcv hf hLn hL hbox hB0
  go_enter Try.func22, Try.ntmps22
  go_wp2_with fail
  refine HC.out.mono ?_
  rintro e w2 ⟨E, fr, pl, rfl, he2, hef, hwE, hb2⟩
  have HEF := hide hef
  have hbx2 : w2.heap[w.heap.size]? = some (.cells #[.int .i64 n, va, vb, vc] 25 (0, 0)) := (hb2.block _ (by simp)).trans HBX.out
  have HE2 := hide he2
  have HWE : Hid (w.heap.size ≤ E) := by simp at hwE; show _ ≤ _; omega
  have HB2 := hide (below_on HB0.out hb2)
  have HBX2 := hide hbx2
  have hix : ∃ v, v < n ∧ pl v ≠ -1 := by
    obtain ⟨x, h1, h2⟩ := HLX.out
    obtain ⟨e, u, h3, _⟩ := EF.at HG.out HF.out hef h1 h2
    exact ⟨x, h1, by omega⟩
  have HI := hide (index_any n E fr pl w2 (by omega) he2 hix)
  unfold fnv at HI
  clear c0 c1 c2 c3 hef he2 hwE hb2 hbx2 hix HC HB0 HBX HLX
  go_wp2_with fail
  refine HI.out.mono ?_
  rintro e w3 ⟨v0, rfl, hv0, hp0, hb3⟩
  have HV0 : Hid (¬ (v0 : Int) ∈ L) := EF.some HF.out HEF.out hv0 hp0
  have HB3 := hide (below_on HB2.out hb3)
  have HE3 : Hid (E2 w3 E (ent n fr pl)) := (hb3.block _ (lt_of_heap HE2.out)).trans HE2.out
  have HBX3 : Hid (w3.heap[w.heap.size]? = some (.cells #[.int .i64 n, va, vb, vc] 25 (0, 0))) := (hb3.block _ (lt_of_heap HBX2.out)).trans HBX2.out
  obtain ⟨f, hfd⟩ : ∃ f : Nat → Nat, f = fun v => (fr v).toNat := ⟨_, rfl⟩
  obtain ⟨g, hgd⟩ : ∃ g : Nat → Nat, g = fun v => (pl v).toNat := ⟨_, rfl⟩
  have HRD : Hid (Rd n st tl L f g ∧ ∀ v, v < n → ¬ (v : Int) ∈ L → fr v = (f v : Int) ∧ pl v = (g v : Int)) := by
    refine ⟨⟨fun v h1 h2 => ?_⟩, fun v h1 h2 => ?_⟩
    · obtain ⟨e, u, h3, h4, h5⟩ := EF.at HG.out HF.out HEF.out h1 h2
      rw [hfd, hgd]; simp only [h3, h4, Int.toNat_natCast]; exact h5
    · obtain ⟨e, u, h3, h4, h5⟩ := EF.at HG.out HF.out HEF.out h1 h2
      rw [hfd, hgd]; simp only [h3, h4, Int.toNat_natCast]; exact ⟨trivial, trivial⟩
  have b0 := cell_of HBX3.out (i := 0) rfl
  clear hb3 HB2 HE2 HBX2 HI HEF hfd hgd hp0
  go_upto_region 4 with (first
    | (at_make; refine wpList_make_full _ rfl _ _ 48 rfl w3.heap.size 4 i4 (.bool false) 1 Try.underlying48 hi4 hz4 hs4 _ _ _ _ n rfl rfl rfl rfl (by rw [hy4]; omega) (by unfold maxLen; omega) (Nat.le_refl _) ?_; intro w4 hown hgrow)
    | fail)
  have hb4 : Below w3.heap.size w3 w4 := (Below.refl _ _).grown hgrow (Nat.le_refl _) (by intro j hj; cases hj)
  have HX : Hid (CM w w4 E w3.heap.size n fr pl (met f v0 0)) := by
    rw [met_zero]
    exact ⟨below_on HB3.out hb4, (hb4.block _ (lt_of_heap HE3.out)).trans HE3.out, barr_made hown, HWE.out, lt_of_heap HE3.out⟩
  generalize w3.heap.size = C at HX ⊢
  clear hown hgrow hb4 HB3 HE3 HBX3 b0
  go_loopw [6] (fun t wr => ∃ k : Nat, t = .int .i64 (itr f v0 k) ∧ CM w wr E C n fr pl (met f v0 k)) (fun _ wr => offs wr C)
  case atStart => exact ⟨0, rfl, HX.out⟩
  case round =>
    obtain ⟨k, rfl, hx⟩ := hrel
    have HXR := hide hx
    clear hx HX
    obtain ⟨hvn, hvL⟩ := HRD.out.1.itr hv0 HV0.out k
    obtain ⟨v, hv⟩ : ∃ v, v = itr f v0 k := ⟨_, rfl⟩
    have HV := hide hv
    rw [← hv] at hvn hvL ⊢
    have y0 := HXR.out.car.cell v hvn
    have yf := HXR.out.car.free v
    obtain ⟨hfr, hpl⟩ := HRD.out.2 v hvn hvL
    have HVL := hide hvL
    clear hv hvL
    by_cases hm : met f v0 k v = true
    · rw [hm] at y0
      obtain ⟨j, hjk, hj⟩ := met_iff.1 hm
      obtain ⟨d, hd1, hd2⟩ := round_back (f := f) (v := v0) hjk (by rw [hj]; exact HV.out)
      rw [← HV.out] at hd2
      obtain ⟨t, ht1, ht2, ht3⟩ := least_round d hd1 hd2
      have HT1 := hide ht1; have HT2 := hide ht2; have HT3 := hide ht3
      clear hj hjk hd1 hd2 ht1 ht2 ht3
      have z0 := HXR.out.ent.cell (v * 2) (by rw [ent_len]; omega)
      have z1 := HXR.out.ent.cell (v * 2 + 1) (by rw [ent_len]; omega)
      rw [ent_fr _ _ hvn, hfr] at z0
      rw [ent_pl _ _ hvn, hpl] at z1
      have z0' : (wr.alloc (.cells #[.int .i64 (g v : Int)] 3)).cell? ⟨E, v * 2, none⟩ = some (.int .i64 (f v : Int)) := Lib.cell?_alloc_some _ z0
      have HN1 : Hid (CN w (wr.alloc (.cells #[.int .i64 (g v : Int)] 3)) E n fr pl (.slice (some ⟨wr.heap.size, 0, none⟩) 1 1) (tab 1 (fun a => (g (itr f v a) : Int)))) := by
        have h1 := HXR.out
        have hb : Below wr.heap.size wr (wr.alloc (.cells #[.int .i64 (g v : Int)] 3)) := below_alloc (Below.refl _ _) _
        refine ⟨below_on h1.bel hb, (hb.block _ (lt_of_heap h1.ent)).trans h1.ent, ⟨by simp [ivs, tab], .inr ⟨wr.heap.size, 1, _, by rw [tab_length], lt_of_heap h1.ent, heap_new _ _, by rw [tab_length]; exact Nat.le_refl _, by unfold maxLen; omega, by simp, by simp [ivs, tab, itr]⟩⟩, h1.wE⟩
      clear hm hfr hpl
      go_wp2_with fail
      have HCI := hide (ci_made HG.out HRD.out.1 hvn HVL.out HT1.out HT2.out HT3.out)
      have HTN : Hid (t ≤ n) := by
        have := HCI.out.few
        rw [List.length_reverse, tab_length] at this
        exact this
      clear z0 z1 z0' y0 yf HXR
      go_loopw [8, 9] (fun c x wr => ∃ i : Nat, 1 ≤ i ∧ i ≤ t ∧ x = .int .i64 (itr f v i) ∧ CN w wr E n fr pl c (tab i (fun a => (g (itr f v a) : Int)))) (fun c _ _ => t - lenV c)
      case atStart => exact ⟨1, Nat.le_refl _, HT1.out, rfl, HN1.out⟩
      case round =>
        obtain ⟨i, hi1, hit, rfl, hx⟩ := hrel
        have HXR := hide hx
        have HLN := hide (lenV_own hx.own)
        rw [tab_length] at HLN
        clear hx HN1
        obtain ⟨u, hu⟩ : ∃ u, u = itr f v i := ⟨_, rfl⟩
        have HU := hide hu
        rw [← hu]
        by_cases hlt : i < t
        · have huv : ¬ (u : Int) = (v : Int) := fun h => HT3.out i hi1 hlt (by rw [← hu]; omega)
          obtain ⟨hun, huL⟩ := HRD.out.1.itr hvn HVL.out i
          rw [← hu] at hun huL
          obtain ⟨hfr, hpl⟩ := HRD.out.2 u hun huL
          have z1 := HXR.out.ent.cell (u * 2 + 1) (by rw [ent_len]; omega)
          rw [ent_pl _ _ hun, hpl] at z1
          have HOA := hide (own_chg (S := fun _ => False) HXR.out.own ((Chg.refl _ wr).alloc (.cells #[.int .i64 (g u : Int)] 3)) (fun _ _ h => h))
          rw [tab_length] at HOA
          have hEs : E + 1 ≤ wr.heap.size := Nat.succ_le_of_lt (lt_of_heap HXR.out.ent)
          have HFR := hide hfr
          clear hu huL hfr hpl
          go_upto_region 10 with (first
            | (at_builtin; refine wpList_append_lies _ rfl (.tmp 50) (.tmp 56) 22 rfl (E + 1) 3 i3 (.int .i64 0) 1 8 Try.underlying22 hi3 hz3 hs3 hy3 rfl (by omega) _ i (ivs (tab i (fun a => (g (itr f v a) : Int)))) rfl HOA.out ⟨wr.heap.size, 0, none⟩ 1 1 [.int .i64 (g u : Int)] rfl rfl (one_at wr _ _) (by simp [Value.oneCell']) (by omega) (by unfold maxLen; have := HTN.out; have := HNL.out; omega) (by have := HTN.out; have := HNL.out; omega) (by simp; omega) (wr.heap.size + 1) (by simp) ?_; intro g8 cap8 w8 hown hgrow hat hltg)
            | fail)
          have HX8 : Hid (CN w w8 E n fr pl (.slice (some ⟨g8, 0, none⟩) (i + 1) cap8) (tab (i + 1) (fun a => (g (itr f v a) : Int)))) := by
            have := HXR.out.came (x := (g u : Int)) (by rw [tab_length]; exact hown) hgrow
            have e : tab i (fun a => (g (itr f v a) : Int)) ++ [(g u : Int)] = tab (i + 1) (fun a => (g (itr f v a) : Int)) := by rw [tab_more, HU.out]
            rw [e, tab_length] at this
            exact this
          clear hown hgrow hat hltg HOA
          have y0 := HX8.out.ent.cell (u * 2) (by rw [ent_len]; omega)
          rw [ent_fr _ _ hun, HFR.out] at y0
          go_wp2_with fail
          refine ⟨⟨i + 1, Nat.succ_le_succ (Nat.zero_le _), hlt, ?_, HX8.out⟩, ?_⟩
          · rw [HU.out]; rfl
          · have := HLN.out
            show t - (i + 1) < t - lenV u8
            omega
        · have hite : i = t := by omega
          subst hite
          have huv : u = v := by rw [hu]; exact HT2.out
          have hbv : ((u : Int) != (v : Int)) = false := by rw [huv]; simp
          clear huv
          obtain ⟨g9, c9, he9⟩ : ∃ g9 c9, u8 = .slice (some ⟨g9, 0, none⟩) i c9 := by
            obtain ⟨_, ⟨rfl, h0⟩ | ⟨g9, cap, cur, he, _⟩⟩ := HXR.out.own
            · rw [tab_length] at h0; omega
            · rw [tab_length] at he; exact ⟨g9, cap, he⟩
          subst he9
          obtain ⟨r1, r2, r3, r4, r5⟩ := RowW.of_owns HXR.out.own
          have HRV := hide (reverse_any g9 c9 _ wr w.heap.size (by have := HXR.out.wE; omega) r1 (by rw [tab_length]; have := HTN.out; have := HNL.out; omega) r2 r3)
          rw [tab_length] at HRV
          have HR2 := hide r2; have HR3 := hide r3
          clear r1 r2 r3 r4 r5 hu hit hlt hi1
          go_wp2_with fail
          refine HRV.out.mono ?_
          rintro e w9 ⟨rfl, hw9, hb9⟩
          have HW9 := hide (hw9.row (c := c9) (by rw [List.length_reverse]; exact HR2.out) HR3.out)
          rw [List.length_reverse, tab_length] at HW9
          have HB9 := hide (HXR.out.bel.trans hb9)
          clear hw9 hb9 HRV
          go_wp2_with fail
          go_ret
          exact ⟨_, _, rfl, HW9.out, HCI.out, HB9.out⟩
    · have hm : met f v0 k v = false := by simpa using hm
      rw [hm] at y0
      have z0 : (wr.setCell ⟨C, v, none⟩ (.bool true)).cell? ⟨E, v * 2, none⟩ = some (.int .i64 (f v : Int)) := by
        have := (HXR.out.put v true).ent.cell (v * 2) (by rw [ent_len]; omega)
        rw [ent_fr _ _ hvn, hfr] at this
        exact this
      have HX2 : Hid (CM w (wr.setCell ⟨C, v, none⟩ (.bool true)) E C n fr pl (met f v0 (k + 1))) := by
        have := HXR.out.put v true
        rw [met_next HV.out] at this
        exact this
      have HME : Hid (offs (wr.setCell ⟨C, v, none⟩ (.bool true)) C < offs wr C) := by
        have h1 := offs_of (HXR.out.put v true).car
        have h2 := offs_of HXR.out.car
        have h3 := off_less hvn hm
        show _ < _
        omega
      clear hfr hpl hm
      go_wp2_with fail
      go_roundw
      case rel => exact ⟨k + 1, by rw [HV.out]; rfl, HX2.out⟩
      case measure => exact HME.out
end Go.Proofs.Ytacmlilcamkndaa
