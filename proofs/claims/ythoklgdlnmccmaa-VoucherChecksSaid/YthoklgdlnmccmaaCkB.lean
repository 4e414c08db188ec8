import Derived.Test.YthoklgdlnmccmaaCkA
import Derived.Deep.AppendLies
import Derived.BigQuiet
import Derived.BigRegion
import Derived.Test.YthoklgdlnmccmaaFrom
import Derived.Test.YthoklgdlnmccmaaVMk
/- The reference's least: each vertex' least start. -/
namespace Go.Proofs.Ythoklgdlnmccmaa
open Go.RowKit Go.Lib
set_option linter.unusedVariables false
/-- A list of words in a row of one's own: its first cells. -/
def NU (w : World) (G : Nat) (s : List Int) : Prop := ∃ cur, w.heap[G]? = some (.cells cur 22 (0, 0)) ∧ cur.toList.take s.length = s.map (Value.int .u64)
theorem NU.at {w : World} {G : Nat} {s : List Int} (h : NU w G s) {i : Nat} (hi : i < s.length) : w.cell? ⟨G, i, none⟩ = some (.int .u64 (at_ s i)) := by
  obtain ⟨cur, h1, h2⟩ := h
  refine cell_of h1 ?_
  have h3 : (cur.toList.take s.length)[i]? = (s.map (Value.int .u64))[i]? := by rw [h2]
  rw [List.getElem?_take_of_lt hi] at h3
  simp only [Array.getElem?_toList] at h3
  rw [h3]
  simp [at_, hi]
theorem NU.free {w : World} {G : Nat} {s : List Int} (h : NU w G s) (i : Nat) : w.frozen? ⟨G, i, none⟩ = false := by
  obtain ⟨cur, h1, _⟩ := h
  exact free_of h1 i
theorem NU.put {w : World} {G : Nat} {s : List Int} (h : NU w G s) (i : Nat) (x : Int) : NU (w.setCell ⟨G, i, none⟩ (.int .u64 x)) G (s.set i x) := by
  obtain ⟨cur, h1, h2⟩ := h
  refine ⟨_, heap_set h1 _, ?_⟩
  rw [Array.toList_setIfInBounds, List.length_set, List.take_set, h2, List.map_set]
theorem NU.drewN {w : World} {G : Nat} {s : List Int} (h : NU w G s) (m : Nat) : NU (w.drewN m) G s := by
  obtain ⟨cur, h1, h2⟩ := h
  exact ⟨cur, ((below_drewN (Below.refl w.heap.size w) m).block _ (lt_of_heap h1)).trans h1, h2⟩
theorem NU.row {w : World} {G n c : Nat} {s : List Int} (h : NU w G s) (hn : s.length = n) (hc : n ≤ c) (hm : c ≤ 9223372036854775807) : RowAt .u64 w (.slice (some ⟨G, 0, none⟩) n c) s := by
  subst hn
  refine ⟨_, _, rfl, hc, hm, (fun e => by cases e), fun a ha i hi => ?_⟩
  cases ha
  rw [Addr.add_lit, Nat.zero_add, h.at hi]
  simp [at_, List.getD]
theorem ck_one (w : World) (x : Value) (t : TypeId) : ∀ j u, [x][j]? = some u → (w.alloc (.cells #[x] t)).cell? ((⟨w.heap.size, 0, none⟩ : Addr).add j) = some u := by
  intro j u hj
  have hh : (w.alloc (.cells #[x] t)).heap[w.heap.size]? = some (.cells #[x] t (0, 0)) := heap_new _ _
  rw [Addr.add_lit]
  match j, hj with
  | 0, hj => simp at hj; subst hj; exact cell_of hh rfl
theorem grow1_below {wc X X0 wE : World} {e n : Nat} {v1 : Value} {xs : List Value} (hb : Below wc.heap.size wc X) (ho : X0.ownsRow wc.heap.size e 1 v1 n xs) (hg : X.grownBy wE v1.ownBlock) : Below wc.heap.size wc wE := by
  refine hb.grown hg hb.size ?_
  intro k hk
  obtain ⟨_, ⟨rfl, _⟩ | ⟨g', cap', cur', rfl, hg', _⟩⟩ := ho
  · simp [Value.ownBlock] at hk
  · simp [Value.ownBlock] at hk; omega
theorem own_cap1 {w : World} {B e g n cap : Nat} {xs : List Value} (h : w.ownsRow B e 1 (.slice (some ⟨g, 0, none⟩) n cap) n xs) : n ≤ cap ∧ cap ≤ 9223372036854775807 := by
  obtain ⟨_, ⟨he, _⟩ | ⟨g', cap', cur', he, _, _, h1, h2, _⟩⟩ := h
  · cases he
  · simp only [Value.slice.injEq] at he
    obtain ⟨_, _, rfl⟩ := he
    exact ⟨h1, h2⟩
theorem nu_of {w : World} {B g n cap : Nat} {s : List Int} (h : w.ownsRow B 22 1 (.slice (some ⟨g, 0, none⟩) n cap) n (s.map (Value.int .u64))) (hs : s.length = n) : NU w g s := by
  subst hs
  obtain ⟨_, ⟨he, _⟩ | ⟨g', cap', cur', he, _, hh, _, _, _, htake⟩⟩ := h
  · cases he
  · simp only [Value.slice.injEq, Option.some.injEq, Addr.mk.injEq] at he
    obtain ⟨⟨rfl, _⟩, _⟩ := he
    exact ⟨cur', hh, by simpa using htake⟩
theorem ck_set {L : List Int} {v : Nat} (h : v < L.length) : L.set v (at_ L v) = L := by
  apply List.ext_getElem?
  intro i
  rw [List.getElem?_set]
  by_cases e : v = i
  · subst e; simp [at_, h]
  · simp [e]
set_option maxRecDepth 100000 in
set_option maxHeartbeats 4000000 in
theorem least_zero (sv : Value) (w : World) (hs : SAt w sv []) : Calls Try.prog 114 #[.int .i64 0, sv] w fun e w' => e = .returned (.slice none 0 0) ∧ Below w.heap.size w w' := by
  obtain ⟨so, sc, rfl, hsc, hscm⟩ := hs.shape
  clear hs
  go_enter Try.func114, Try.ntmps114
  go_wp2
  refine wp_loop_rounds 1 ?_
  rw [rounds_succ]
  go_wp2
  refine wp_loop_rounds 1 ?_
  rw [rounds_succ]
  go_wp2
  go_ret
  exact ⟨rfl, Below.refl _ _⟩
set_option maxRecDepth 100000 in
set_option maxHeartbeats 8000000 in
theorem least_pos (n : Nat) (sv : Value) (S : List Pr) (w : World) (hn0 : 0 < n) (hn : n ≤ 1048576) (hs : SAt w sv S) (hok : Sok n S) (hS : S.length * 16 ≤ 140737488353280) :
    Calls Try.prog 114 #[.int .i64 n, sv] w fun e w' => ∃ G c B, e = .returned (.slice (some ⟨G, 0, none⟩) n c) ∧ NU w' G B ∧ n ≤ c ∧ c ≤ 9223372036854775807 ∧ Beg n S B S.length ∧ Below w.heap.size w w' := by
  obtain ⟨i0, hi, hz0, hz1, hz2⟩ := info_parts Try.info22
  obtain ⟨so, sc, rfl, hsc, hscm⟩ := hs.shape
  have HS := hide hs; have HOK := hide hok
  obtain ⟨M, hM⟩ : ∃ M, M = S.length := ⟨_, rfl⟩
  have HM := hide hM
  rw [← hM] at hsc hS ⊢
  clear hs hok hM
  go_enter Try.func114, Try.ntmps114
  go_wp2_with fail
  go_loopw [6, 5] (fun t u wr => ∃ (i : Nat), i ≤ n ∧ t = .int .i64 i ∧ wr.ownsRow w.heap.size 22 1 u i ((List.replicate i Nev).map (Value.int .u64)) ∧ Below w.heap.size w wr) (fun t _ _ => n - (RowKit.intOf t).toNat)
  case atStart => exact ⟨0, Nat.zero_le _, rfl, ⟨rfl, .inl ⟨rfl, rfl⟩⟩, Below.refl _ _⟩
  case round =>
    obtain ⟨i, hin, rfl, hown, hB⟩ := hrel
    by_cases hlt : i < n
    · have HO := hide hown; have HB := hide hB
      have hsz := hB.size
      clear hown hB
      go_wp2_with (first
        | (at_builtin; refine wpList_append_lies _ rfl (.tmp 13) (.tmp 14) 30 rfl w.heap.size 22 i0 (.int .u64 0) 1 8 Try.underlying30 hi hz0 hz1 hz2 rfl (by omega) _ i ((List.replicate i Nev).map (Value.int .u64)) rfl (HO.out.alloc _) ⟨wr.heap.size, 0, none⟩ 1 1 [.int .u64 18446744073709551615] rfl rfl (ck_one wr _ _) (by simp [Value.oneCell']) (by omega) (by unfold maxLen; omega) (by omega) (by simp; omega) _ rfl ?_; intro g cap w2 hown hgrow hat hlt2; have HO2 := hide hown; have HB2 := hide (grow1_below (below_alloc HB.out _) HO.out hgrow); clear hown hgrow hat hlt2)
        | fail)
      refine ⟨⟨i + 1, by omega, by simp, ?_, HB2.out⟩, by simp [RowKit.intOf]; omega⟩
      have e : (List.replicate (i + 1) Nev).map (Value.int .u64) = (List.replicate i Nev).map (Value.int .u64) ++ [.int .u64 18446744073709551615] := by
        rw [List.replicate_succ', List.map_append]; rfl
      rw [e]
      exact HO2.out
    · have hin2 : i = n := by omega
      subst hin2
      obtain ⟨G, cap, hu, hG, hGs⟩ := hown.form hn0
      subst hu
      have hnu : NU wr G (tab i fun _ => Nev) := nu_of (by have e : (tab i fun _ => Nev) = List.replicate i Nev := (by apply List.ext_getElem <;> simp [tab]); rw [e]; exact hown) (tab_length _ _)
      have hcp := own_cap1 hown
      have HN := hide hnu; have HB := hide hB
      clear hown hB hnu
      go_wp2_with fail
      go_loopw [7] (fun t wr => ∃ (j : Nat) (B : List Int), j ≤ M ∧ t = .int .i64 j ∧ Beg i S B j ∧ NU wr G B ∧ Below w.heap.size w wr) (fun t _ => M - (RowKit.intOf t).toNat)
      case atStart => exact ⟨0, _, Nat.zero_le _, rfl, beg_zero i S, HN.out, HB.out⟩
      case round =>
        obtain ⟨j, B, hjM, rfl, hBeg, hN, hB⟩ := hrel
        clear HN HB
        by_cases hlt2 : j < M
        · have hjS : j < S.length := by have := HM.out; omega
          obtain ⟨g, o, he, p0, p1⟩ := (HS.out.below hB).cellAt j hjS
          subst he
          have hsk := HOK.out j hjS
          obtain ⟨v, hv⟩ : ∃ v : Nat, (sAt S j).1 = (v : Int) := ⟨(sAt S j).1.toNat, by omega⟩
          have hvn : v < i := by omega
          obtain ⟨x, hx⟩ : ∃ x, x = (sAt S j).2 := ⟨_, rfl⟩
          rw [hv] at p0
          rw [← hx] at p1
          have n0 := hN.at (i := v) (by rw [hBeg.len]; exact hvn)
          have n1 := hN.free v
          obtain ⟨y, hy⟩ : ∃ y, y = at_ B v := ⟨_, rfl⟩
          rw [← hy] at n0
          have HBEG := hide (beg_step hBeg hjS HOK.out hv)
          rw [← hx, ← hy] at HBEG
          have HY := hide hy
          have HLL := hide hBeg.len
          have HN2 := hide hN; have HB2 := hide hB
          have hvi : (v : Int) < (i : Int) := by omega
          clear hx hy hv hsk hBeg hN hB
          by_cases hxy : x < y
          · have E : decide (x < y) = true := decide_eq_true hxy
            go_wp2_with fail
            go_quiet (fail)
            go_wp2_with fail
            go_region
            all_goals
              go_wp2_with fail
              refine ⟨⟨j + 1, B.set v x, by omega, by simp, ?_, (HN2.out.drewN _).put v x, (below_drewN HB2.out _).setCell (p := ⟨G, v, none⟩) hG _⟩, by simp [RowKit.intOf]; omega⟩
              have h := HBEG.out
              rw [Int.min_eq_right (by omega)] at h
              exact h
          · have E : decide (x < y) = false := decide_eq_false hxy
            go_wp2_with fail
            go_quiet (fail)
            go_wp2_with fail
            refine ⟨⟨j + 1, B, by omega, by simp, ?_, HN2.out.drewN _, below_drewN HB2.out _⟩, by simp [RowKit.intOf]; omega⟩
            have h := HBEG.out
            rw [Int.min_eq_left (by omega), HY.out, ck_set (by rw [HLL.out]; exact hvn)] at h
            exact h
        · have hjM2 : j = S.length := by have := HM.out; omega
          have HE : Hid (∃ G' c B, (Ending.returned (.slice (some ⟨G, 0, none⟩) i cap) = .returned (.slice (some ⟨G', 0, none⟩) i c)) ∧ NU wr G' B ∧ i ≤ c ∧ c ≤ 9223372036854775807 ∧ Beg i S B M ∧ Below w.heap.size w wr) := ⟨G, cap, B, rfl, hN, hcp.1, hcp.2, by rw [HM.out, ← hjM2]; exact hBeg, hB⟩
          clear hBeg hN hB hjM2
          go_wp2
          go_ret
          exact HE.out
end Go.Proofs.Ythoklgdlnmccmaa

/- The reference's reason, plain: By names the one edge that may be tight. -/
namespace Go.Proofs.Ythoklgdlnmccmaa
set_option linter.unusedVariables false
section
variable {n : Nat} {st tl wt : List Int} {k : Int} {V Y D B : List Int}
theorem tiP_iff (m v : Nat) : tiP n st tl wt k V Y D m v = true ↔ ∃ e, e < m ∧ tiE n st tl wt k V Y D e v = true := by
  induction m with
  | zero => simp [tiP]
  | succ m ih =>
    simp only [tiP, Bool.or_eq_true, ih]
    constructor
    · rintro (⟨e, h1, h2⟩ | h)
      · exact ⟨e, by omega, h2⟩
      · exact ⟨m, by omega, h⟩
    · rintro ⟨e, h1, h2⟩
      rcases Nat.lt_or_ge e m with h | h
      · exact .inl ⟨e, h, h2⟩
      · obtain rfl : e = m := by omega
        exact .inr h2
theorem abP_iff (m v : Nat) : abP n st tl wt k V m v = true ↔ ∃ e, e < m ∧ abE n st tl wt k V e v = true := by
  induction m with
  | zero => simp [abP]
  | succ m ih =>
    simp only [abP, Bool.or_eq_true, ih]
    constructor
    · rintro (⟨e, h1, h2⟩ | h)
      · exact ⟨e, by omega, h2⟩
      · exact ⟨m, by omega, h⟩
    · rintro ⟨e, h1, h2⟩
      rcases Nat.lt_or_ge e m with h | h
      · exact .inl ⟨e, h, h2⟩
      · obtain rfl : e = m := by omega
        exact .inr h2
/-- What the reference asks where By names an edge. -/
def tiR (n : Nat) (st tl wt : List Int) (k : Int) (V Y D : List Int) (v : Nat) : Bool := decide ((0 ≤ at_ Y v ∧ at_ Y v < (tl.length : Int)) ∧ tiE n st tl wt k V Y D (at_ Y v).toNat v = true)
theorem tiR_is (v : Nat) : tiP n st tl wt k V Y D tl.length v = tiR n st tl wt k V Y D v := by
  rw [Bool.eq_iff_iff, tiP_iff]
  unfold tiR
  rw [decide_eq_true_iff]
  constructor
  · rintro ⟨e, h1, h2⟩
    have h3 : at_ Y v = (e : Int) := by unfold tiE at h2; exact (of_decide_eq_true h2).2.2.1
    refine ⟨by omega, ?_⟩
    rw [h3, Int.toNat_natCast]
    exact h2
  · rintro ⟨⟨h1, h2⟩, h3⟩
    exact ⟨(at_ Y v).toNat, by omega, h3⟩
/-- What reason answers. -/
def rsn (n : Nat) (st tl wt : List Int) (k : Int) (V Y D B : List Int) (v : Nat) : Bool := if at_ Y v = -1 then decide (at_ D v = 0 ∧ at_ V v = at_ B v) else tiR n st tl wt k V Y D v
theorem okAt_rsn (v : Nat) : okAt n st tl wt k V Y D B v = (!(abP n st tl wt k V tl.length v || decide (at_ B v < at_ V v)) && rsn n st tl wt k V Y D B v) := by
  unfold okAt hv rsn
  rw [tiR_is]
  by_cases h1 : at_ B v < at_ V v
  · simp [h1]
  · cases h2 : abP n st tl wt k V tl.length v
    · simp [h1]
    · simp [h1]
end
end Go.Proofs.Ythoklgdlnmccmaa

/- The reference's reason. -/
namespace Go.Proofs.Ythoklgdlnmccmaa
open Go.RowKit Go.Lib
set_option linter.unusedVariables false
set_option maxRecDepth 100000 in
set_option maxHeartbeats 8000000 in
theorem reason_any (n v : Nat) (va vb vc : Value) (st tl wt : List Int) (k : Int) (fv bgv l1 l2 l3 : Value) (V Y D B : List Int) (w : World) (hg : GIs w n va vb vc st tl wt) (hgd : Good n st tl wt) (hwb : ∀ e, 0 ≤ at_ wt e ∧ at_ wt e ≤ 18446744073709551615) (hvn : v < n)
    (hf : RowAt .i64 w fv (tab tl.length fun p => (src st n p : Int))) (hbg : RowAt .u64 w bgv B) (h1 : RowAt .u64 w l1 V) (h2 : RowAt .i64 w l2 Y) (h3 : RowAt .i64 w l3 D) (hV : V.length = n) (hY : Y.length = n) (hD : D.length = n) (hBl : B.length = n) (hVb : ∀ v, 0 ≤ at_ V v ∧ at_ V v ≤ 18446744073709551615) (hDb : ∀ v, at_ D v ≤ 9223372036854775807) (hDl : ∀ v, -9223372036854775808 ≤ at_ D v) :
    Calls Try.prog 115 #[gAgg n va vb vc, .int .i64 k, fv, bgv, .agg #[l1, l2, l3], .int .i64 v] w fun e w' => e = .returned (.bool (rsn n st tl wt k V Y D B v)) ∧ Below w.heap.size w w' := by
  have hn := hgd.n_le
  have hm := hgd.m_le
  obtain ⟨ao, ca, rfl⟩ := hg.s.shape
  obtain ⟨bo, cb, rfl⟩ := hg.t.shape
  obtain ⟨co, cc, rfl⟩ := hg.u.shape
  obtain ⟨g1, p1, k1, rfl, _, _, _⟩ := h1.spot (by intro h; rw [h] at hV; simp at hV; omega)
  obtain ⟨g2, p2, k2, rfl, _, _, _⟩ := h2.spot (by intro h; rw [h] at hY; simp at hY; omega)
  obtain ⟨g3, p3, k3, rfl, _, _, _⟩ := h3.spot (by intro h; rw [h] at hD; simp at hD; omega)
  obtain ⟨g4, p4, k4, rfl, _, _, _⟩ := hbg.spot (by intro h; rw [h] at hBl; simp at hBl; omega)
  obtain ⟨fo, fc, rfl⟩ := hf.shape
  rw [tab_length] at *
  obtain ⟨W, hW⟩ : ∃ W, W = (w.alloc (.cells #[.int .i64 n, .slice ao st.length ca, .slice bo tl.length cb, .slice co wt.length cc] 32)).alloc (.cells #[.slice (some ⟨g1, p1, none⟩) V.length k1, .slice (some ⟨g2, p2, none⟩) Y.length k2, .slice (some ⟨g3, p3, none⟩) D.length k3] 103) := ⟨_, rfl⟩
  have hbW : Below w.heap.size w W := by rw [hW]; exact below_alloc (below_alloc (Below.refl _ _) _) _
  have hA : W.heap[w.heap.size]? = some (.cells #[.int .i64 n, .slice ao st.length ca, .slice bo tl.length cb, .slice co wt.length cc] 32 (0, 0)) := by
    rw [hW, heap_alloc_old _ _ (by simp)]; exact heap_new _ _
  have hBx : W.heap[w.heap.size + 1]? = some (.cells #[.slice (some ⟨g1, p1, none⟩) V.length k1, .slice (some ⟨g2, p2, none⟩) Y.length k2, .slice (some ⟨g3, p3, none⟩) D.length k3] 103 (0, 0)) := by
    rw [hW]
    have := heap_new (w.alloc (.cells #[.int .i64 n, .slice ao st.length ca, .slice bo tl.length cb, .slice co wt.length cc] 32)) (.cells #[.slice (some ⟨g1, p1, none⟩) V.length k1, .slice (some ⟨g2, p2, none⟩) Y.length k2, .slice (some ⟨g3, p3, none⟩) D.length k3] 103)
    simpa using this
  have x2 := cell_of hA (i := 2) rfl
  have x3 := cell_of hA (i := 3) rfl
  have q0 := cell_of hBx (i := 0) rfl
  have q1 := cell_of hBx (i := 1) rfl
  have q2 := cell_of hBx (i := 2) rfl
  obtain ⟨a, ha⟩ : ∃ a, a = at_ V v := ⟨_, rfl⟩
  obtain ⟨b, hb⟩ : ∃ b, b = at_ Y v := ⟨_, rfl⟩
  obtain ⟨d, hd⟩ : ∃ d, d = at_ D v := ⟨_, rfl⟩
  obtain ⟨bv, hbv⟩ : ∃ bv, bv = at_ B v := ⟨_, rfl⟩
  have a0 := (h1.below hbW).cellOf (i := v) (by omega)
  have a1 := (h2.below hbW).cellOf (i := v) (by omega)
  have a2 := (h3.below hbW).cellOf (i := v) (by omega)
  have a3 := (hbg.below hbW).cellOf (i := v) (by omega)
  rw [← ha] at a0
  rw [← hb] at a1
  rw [← hd] at a2
  rw [← hbv] at a3
  have i1 : (v : Int) < (V.length : Int) := by omega
  have i2 : (v : Int) < (Y.length : Int) := by omega
  have i3 : (v : Int) < (D.length : Int) := by omega
  have i4 : (v : Int) < (B.length : Int) := by omega
  have HB := hide hbW
  have hdb := hDb v
  have hdl := hDl v
  rw [← hd] at hdb hdl
  obtain ⟨R, hR⟩ : ∃ R, R = rsn n st tl wt k V Y D B v := ⟨_, rfl⟩
  rw [← hR]
  by_cases e1 : b = -1
  · have E1 : (b == -1) = true := by simp [e1]
    have hR2 : R = decide (d = 0 ∧ a = bv) := by rw [hR]; unfold rsn; rw [← hb, if_pos e1, ← ha, ← hd, ← hbv]
    clear hR
    unfold gAgg
    by_cases e3 : d = 0
    · have E3 : (d == 0) = true := by simp [e3]
      by_cases e4 : a = bv
      · have E4 : (a == bv) = true := by simp [e4]
        have hR3 : R = true := by rw [hR2]; simp [e3, e4]
        subst hR3
        clear e1 e3 e4 hR2 hg hgd hwb hf hbg h1 h2 h3 hV hY hD hBl hVb hDb hDl hA hBx ha hb hd hbv hbW
        subst hW
        go_enter Try.func115, Try.ntmps115
        go_wp2_with fail
        go_quiet (fail)
        go_wp2
        go_ret
        exact ⟨rfl, below_drewN HB.out _⟩
      · have E4 : (a == bv) = false := by simp [e4]
        have hR3 : R = false := by rw [hR2]; simp [e4]
        subst hR3
        clear e1 e3 e4 hR2 hg hgd hwb hf hbg h1 h2 h3 hV hY hD hBl hVb hDb hDl hA hBx ha hb hd hbv hbW
        subst hW
        go_enter Try.func115, Try.ntmps115
        go_wp2_with fail
        go_quiet (fail)
        go_wp2
        go_ret
        exact ⟨rfl, below_drewN HB.out _⟩
    · have E3 : (d == 0) = false := by simp [e3]
      have hR3 : R = false := by rw [hR2]; simp [e3]
      subst hR3
      clear e1 e3 hR2 hg hgd hwb hf hbg h1 h2 h3 hV hY hD hBl hVb hDb hDl hA hBx ha hb hd hbv hbW
      subst hW
      go_enter Try.func115, Try.ntmps115
      go_wp2_with fail
      go_quiet (fail)
      go_wp2
      go_ret
      exact ⟨rfl, below_drewN HB.out _⟩
  · have E1 : (b == -1) = false := by simp [e1]
    have hR2 : R = tiR n st tl wt k V Y D v := by rw [hR]; unfold rsn; rw [← hb, if_neg e1]
    clear hR
    by_cases e2 : 0 ≤ b ∧ b < (tl.length : Int)
    · obtain ⟨e, rfl⟩ : ∃ e : Nat, b = (e : Int) := ⟨b.toNat, by omega⟩
      have hem : e < tl.length := by omega
      have hwl := hgd.w_len
      obtain ⟨gt, pt, kt, hee, _, _, _⟩ := hg.t.spot (by intro h; rw [h] at hem; exact absurd hem (Nat.not_lt_zero _))
      simp only [Value.slice.injEq] at hee
      obtain ⟨rfl, hz9, rfl⟩ := hee
      clear hz9
      obtain ⟨gw, pw, kw, hee, _, _, _⟩ := hg.u.spot (by intro h; rw [h] at hwl; simp at hwl; omega)
      simp only [Value.slice.injEq] at hee
      obtain ⟨rfl, hz9, rfl⟩ := hee
      clear hz9
      obtain ⟨gf, pf, kf, hee, _, _, _⟩ := hf.spot (by intro h; have h9 := tab_length tl.length (fun p => (src st n p : Int)); rw [h] at h9; simp at h9; omega)
      simp only [Value.slice.injEq] at hee
      obtain ⟨rfl, hz9, rfl⟩ := hee
      clear hz9
      have hvt := hgd.vtx e hem
      obtain ⟨t, ht⟩ : ∃ t : Nat, at_ tl e = (t : Int) := ⟨(at_ tl e).toNat, by omega⟩
      have b0 := (hg.below hbW).t.cellOf hem
      rw [ht] at b0
      have hun := src_lt hgd hem
      obtain ⟨u, hu⟩ : ∃ u, u = src st n e := ⟨_, rfl⟩
      rw [← hu] at hun
      have b1 := (hf.below hbW).cellOf (i := e) (by rw [tab_length]; exact hem)
      rw [tab_at _ _ _ hem, ← hu] at b1
      obtain ⟨y, hy⟩ : ∃ y, y = at_ V u := ⟨_, rfl⟩
      obtain ⟨du, hdu⟩ : ∃ du, du = at_ D u := ⟨_, rfl⟩
      obtain ⟨z, hz⟩ : ∃ z, z = at_ wt e := ⟨_, rfl⟩
      have b2 := (h1.below hbW).cellOf (i := u) (by omega)
      have b3 := (h3.below hbW).cellOf (i := u) (by omega)
      have b4 := (hg.below hbW).u.cellOf (i := e) (by omega)
      rw [← hy] at b2
      rw [← hdu] at b3
      rw [← hz] at b4
      have hyb := hVb u
      have hzb := hwb e
      rw [← hy] at hyb
      rw [← hz] at hzb
      have j1 : (u : Int) < (V.length : Int) := by omega
      have j3 : (u : Int) < (D.length : Int) := by omega
      have j4 : (e : Int) < (wt.length : Int) := by omega
      have hR3 : R = decide (t = v ∧ y ≠ Nev ∧ a = ext k y z ∧ 0 ≤ du ∧ 1 ≤ d ∧ d - 1 = du) := by
        rw [hR2]
        unfold tiR tiE
        rw [← hb, Int.toNat_natCast, ← hu, ← hy, ← hz, ← ha, ← hd, ← hdu, Bool.eq_iff_iff, decide_eq_true_iff, decide_eq_true_iff, decide_eq_true_iff]
        have htv : tov tl e = t := by unfold tov; rw [ht]; exact Int.toNat_natCast _
        rw [htv]
        constructor
        · rintro ⟨_, h1, h2, _, h3, h4, h5, h6⟩; exact ⟨h1, h2, h3, h4, h5, h6⟩
        · rintro ⟨h1, h2, h3, h4, h5, h6⟩; exact ⟨e2, h1, h2, rfl, h3, h4, h5, h6⟩
      have HR := hide hR3
      have hte : 0 ≤ (e : Int) ∧ (e : Int) < (tl.length : Int) := e2
      unfold gAgg
      clear hR2 hR3 hg hgd hwb hf hbg h1 h2 h3 hV hY hD hBl hVb hDb hDl hA hBx ha hb hd hbv hbW hu hy hdu hz ht hvt hwl e2
      subst hW
      by_cases et : t = v
      · have ET : ((t : Int) != (v : Int)) = false := by simp [et]
        have hw9 : IntKind.i64.wrap (d - 1) = d - 1 ∨ d < 1 := by
          rcases Int.lt_or_le d 1 with h | h
          · exact .inr h
          · exact .inl (IntWalk.i64_in (d - 1) (by omega))
        by_cases c1 : y = 18446744073709551615
        · have C1 : (y == 18446744073709551615) = true := by simp [c1]
          have hR4 : R = false := by rw [HR.out]; exact decide_eq_false (fun h => h.2.1 c1)
          subst hR4
          clear et c1 hw9
          go_enter Try.func115, Try.ntmps115
          go_wp2_with fail
          go_quiet (fail)
          go_wp2
          go_ret
          exact ⟨rfl, below_drewN HB.out _⟩
        · have C1 : (y == 18446744073709551615) = false := by simp [c1]
          by_cases c2 : du < 0
          · have C2 : decide (du < 0) = true := decide_eq_true c2
            have hR4 : R = false := by rw [HR.out]; exact decide_eq_false (fun h => by omega)
            subst hR4
            clear et c1 hw9
            go_enter Try.func115, Try.ntmps115
            go_wp2_with fail
            go_quiet (fail)
            go_wp2
            go_ret
            exact ⟨rfl, below_drewN HB.out _⟩
          · have C2 : decide (du < 0) = false := decide_eq_false c2
            by_cases c3 : d < 1
            · have C3 : decide (d < 1) = true := decide_eq_true c3
              have hR4 : R = false := by rw [HR.out]; exact decide_eq_false (fun h => by omega)
              subst hR4
              clear et c1 hw9
              go_enter Try.func115, Try.ntmps115
              go_wp2_with fail
              go_quiet (fail)
              go_wp2
              go_ret
              exact ⟨rfl, below_drewN HB.out _⟩
            · have C3 : decide (d < 1) = false := decide_eq_false c3
              have hw8 : IntKind.i64.wrap (d - 1) = d - 1 := by rcases hw9 with h | h; exact h; exact absurd h c3
              by_cases c4 : d - 1 = du
              · have C4 : (d - 1 != du) = false := by simp [c4]
                have hR4 : R = decide (a = ext k y z) := by
                  rw [HR.out, Bool.eq_iff_iff, decide_eq_true_iff, decide_eq_true_iff]
                  exact ⟨fun h => h.2.2.1, fun h => ⟨et, c1, h, by omega, by omega, c4⟩⟩
                obtain ⟨l, hl⟩ : ∃ l, l = ext k y z := ⟨_, rfl⟩
                rw [← hl] at hR4
                have HEX := hide (fun (W : World) => refExtend_any k y z W hyb.1 hyb.2 hzb.1 hzb.2)
                rw [← hl] at HEX
                have HR5 := hide hR4
                clear et c1 hw9 c4 hR4 hl HR
                go_enter Try.func115, Try.ntmps115
                go_wp2_with fail
                go_quiet (fail)
                go_wp2_with fail
                have dk : ∀ {bk o : Nat} {val : Value} {W0 : World}, W0.cell? ⟨bk, o, none⟩ = some val → (W0.drewN nq).cell? ⟨bk, o, none⟩ = some val := fun {bk o val W0} h => (below_cell (below_drewN (Below.refl W0.heap.size W0) nq) (block_of_cell h)).trans h
                have r0 := dk q0
                have r1 := dk a0
                have r2 := dk b2
                have r3 := dk x3
                have r4 := dk b4
                have HBX := hide (below_drewN HB.out nq)
                generalize (World.drewN _ nq) = X at r0 r1 r2 r3 r4 HBX ⊢
                clear dk q0 q1 q2 a0 a1 a2 a3 x2 x3 b0 b1 b2 b3 b4 HB
                have s0 : ∀ x : GW X, x.world.cell? ⟨w.heap.size + 1, 0, none⟩ = some (.slice (some ⟨g1, p1, none⟩) V.length k1) := fun x => (below_cell x.bel (block_of_cell r0)).trans r0
                have s1 : ∀ x : GW X, x.world.cell? ⟨g1, p1 + v, none⟩ = some (.int .u64 a) := fun x => (below_cell x.bel (block_of_cell r1)).trans r1
                have s2 : ∀ x : GW X, x.world.cell? ⟨g1, p1 + u, none⟩ = some (.int .u64 y) := fun x => (below_cell x.bel (block_of_cell r2)).trans r2
                have s3 : ∀ x : GW X, x.world.cell? ⟨w.heap.size, 3, none⟩ = some (.slice (some ⟨gw, pw, none⟩) wt.length cc) := fun x => (below_cell x.bel (block_of_cell r3)).trans r3
                have s4 : ∀ x : GW X, x.world.cell? ⟨gw, pw + e, none⟩ = some (.int .u64 z) := fun x => (below_cell x.bel (block_of_cell r4)).trans r4
                have HEXG : Hid (∀ x : GW X, Calls Try.prog 73 #[.int .i64 k, .int .u64 y, .int .u64 z] x.world fun e w' => e = .returned (.int .u64 l) ∧ Below x.world.heap.size x.world w') := fun x => (HEX.out x.world).mono fun e w' h => ⟨h.1, by rw [h.2]; exact Below.refl _ _⟩
                refine wp_region_gw (by kernel_rfl) (by kernel_rfl) ?_
                repeat (go_big_quiet_step (first
                  | (go_at_call 73; with_reducible exact gw_of (HEXG.out _))
                  | rfl))
                refine wpQuiet_nil ?_
                intro _ hw'
                obtain ⟨xg, hw''⟩ := hw'
                subst hw''
                go_wp2
                go_ret
                exact ⟨by rw [HR5.out]; simp; rw [Bool.eq_iff_iff]; simp, below_on HBX.out xg.bel⟩
              · have C4 : (d - 1 != du) = true := by simp [c4]
                have hR4 : R = false := by rw [HR.out]; exact decide_eq_false (fun h => c4 h.2.2.2.2.2)
                subst hR4
                clear et c1 hw9 c4
                go_enter Try.func115, Try.ntmps115
                go_wp2_with fail
                go_quiet (fail)
                go_wp2
                go_ret
                exact ⟨rfl, below_drewN HB.out _⟩
      · have ET : ((t : Int) != (v : Int)) = true := by simp; omega
        have hR4 : R = false := by rw [HR.out]; exact decide_eq_false (fun h => et h.1)
        subst hR4
        clear et
        go_enter Try.func115, Try.ntmps115
        go_wp2
        go_ret
        exact ⟨rfl, HB.out⟩
    · have hR3 : R = false := by rw [hR2]; unfold tiR; rw [← hb]; exact decide_eq_false (fun h => e2 h.1)
      subst hR3
      unfold gAgg
      clear hR2 hg hgd hwb hf hbg h1 h2 h3 hV hY hD hBl hVb hDb hDl hA hBx ha hb hd hbv hbW
      by_cases e3 : b < 0
      · have E3 : decide (b < 0) = true := decide_eq_true e3
        clear e2
        subst hW
        go_enter Try.func115, Try.ntmps115
        go_wp2
        go_ret
        exact ⟨rfl, HB.out⟩
      · have E3 : decide (b < 0) = false := decide_eq_false e3
        have E4 : (tl.length : Int) ≤ b := by omega
        clear e2
        subst hW
        go_enter Try.func115, Try.ntmps115
        go_wp2
        go_ret
        exact ⟨rfl, HB.out⟩
end Go.Proofs.Ythoklgdlnmccmaa

/- The reference's Check where the arguments may be. -/
namespace Go.Proofs.Ythoklgdlnmccmaa
open Go.RowKit Go.Lib
set_option linter.unusedVariables false
theorem Try.info4b : (Try.prog.info? 4).map (fun i => (i.zero, i.size, i.bytes)) = some (some (.bool false), 1, 1) := by kernel_rfl
/-- A list of Booleans of one's own. -/
def BA (w : World) (K n : Nat) (f : Nat → Bool) : Prop := ∃ cs : Array Value, w.heap[K]? = some (.cells cs 4 (0, 0)) ∧ cs.size = n ∧ ∀ j, j < n → cs[j]? = some (.bool (f j))
theorem BA.at {w : World} {K n : Nat} {f : Nat → Bool} (h : BA w K n f) {j : Nat} (hj : j < n) : w.cell? ⟨K, j, none⟩ = some (.bool (f j)) := by
  obtain ⟨cs, h1, _, h3⟩ := h
  exact cell_of h1 (h3 j hj)
theorem BA.free {w : World} {K n : Nat} {f : Nat → Bool} (h : BA w K n f) (i : Nat) : w.frozen? ⟨K, i, none⟩ = false := by
  obtain ⟨cs, h1, _⟩ := h
  exact free_of h1 i
theorem BA.lt {w : World} {K n : Nat} {f : Nat → Bool} (h : BA w K n f) : K < w.heap.size := by
  obtain ⟨cs, h1, _⟩ := h
  exact lt_of_heap h1
theorem BA.below {w w' : World} {K n : Nat} {f : Nat → Bool} (h : BA w K n f) (hb : Below w.heap.size w w') : BA w' K n f := by
  obtain ⟨cs, h1, h2⟩ := h
  exact ⟨cs, (hb.block _ (lt_of_heap h1)).trans h1, h2⟩
theorem BA.ext {w : World} {K n : Nat} {f f' : Nat → Bool} (h : BA w K n f) (he : ∀ v, v < n → f v = f' v) : BA w K n f' := by
  obtain ⟨cs, h1, h2, h3⟩ := h
  exact ⟨cs, h1, h2, fun j hj => by rw [← he j hj]; exact h3 j hj⟩
theorem BA.put {w : World} {K n : Nat} {f : Nat → Bool} (h : BA w K n f) {i : Nat} (hi : i < n) (x : Bool) : BA (w.setCell ⟨K, i, none⟩ (.bool x)) K n (fun j => if j = i then x else f j) := by
  obtain ⟨cs, h1, h2, h3⟩ := h
  refine ⟨_, heap_set h1 _, by simpa using h2, fun j hj => ?_⟩
  by_cases e : j = i
  · subst e; simp [Array.getElem?_setIfInBounds]; omega
  · simp only [if_neg e]; rw [Array.getElem?_setIfInBounds_ne (by omega)]; exact h3 j hj
theorem ba_made {w : World} {base g n : Nat} (h : w.ownsRow base 4 1 (.slice (some ⟨g, 0, none⟩) n n) n (madeCells (Value.bool false).cells (n * 1)).toList) : BA w g n (fun _ => false) ∧ base ≤ g := by
  obtain ⟨h1, ⟨he, _⟩ | ⟨g', cap, cur, he, hg, hh, hnc, hcm, hcur, htake⟩⟩ := h
  · simp at he
  · simp only [Value.slice.injEq, Option.some.injEq, Addr.mk.injEq, true_and, and_true] at he
    obtain ⟨rfl, rfl⟩ := he
    rw [List.take_of_length_le (by simp; omega)] at htake
    refine ⟨⟨cur, hh, by omega, fun j hj => ?_⟩, hg⟩
    have h3 : cur.toList[j]? = ((madeCells (Value.bool false).cells (n * 1)).toList)[j]? := by rw [htake]
    simp only [Array.getElem?_toList] at h3
    rw [h3, made_at _ (by omega)]
    simp [Value.cells, Nat.mod_one]
theorem abP_step {n : Nat} {st tl wt : List Int} {k : Int} {V : List Int} {p t : Nat} (ht : tov tl p = t) (c : Bool) (hc : c = decide (at_ V (src st n p) ≠ Nev ∧ ext k (at_ V (src st n p)) (at_ wt p) < at_ V t)) (v : Nat) :
    abP n st tl wt k V (p + 1) v = if v = t then (abP n st tl wt k V p v || c) else abP n st tl wt k V p v := by
  simp only [abP]
  by_cases e : v = t
  · subst e
    rw [if_pos rfl]
    have e1 : abE n st tl wt k V p v = c := by rw [hc]; unfold abE; simp [ht]
    rw [e1]
  · rw [if_neg e]
    have e1 : abE n st tl wt k V p v = false := by unfold abE; simp [ht]; intro h; exact absurd h.symm e
    rw [e1, Bool.or_false]
set_option maxRecDepth 100000 in
set_option maxHeartbeats 8000000 in
theorem refCheck_good (n : Nat) (va vb vc : Value) (st tl wt : List Int) (k : Int) (sv : Value) (S : List Pr) (l1 l2 l3 : Value) (V Y D B : List Int) (w : World) (hg : GIs w n va vb vc st tl wt) (hgd : Good n st tl wt) (hwb : ∀ e, 0 ≤ at_ wt e ∧ at_ wt e ≤ 18446744073709551615) (hn0 : 0 < n)
    (hs : SAt w sv S) (hok : Sok n S) (hS : S.length * 16 ≤ 140737488353280) (hno : srchNo n st tl wt k S = 0) (hB : Beg n S B S.length) (h1 : RowAt .u64 w l1 V) (h2 : RowAt .i64 w l2 Y) (h3 : RowAt .i64 w l3 D) (hV : V.length = n) (hY : Y.length = n) (hD : D.length = n) (hVb : ∀ v, 0 ≤ at_ V v ∧ at_ V v ≤ 18446744073709551615) (hDb : ∀ v, at_ D v ≤ 9223372036854775807) (hDl : ∀ v, -9223372036854775808 ≤ at_ D v) :
    Calls Try.prog 65 #[gAgg n va vb vc, .int .i64 k, sv, .agg #[l1, l2, l3]] w fun e w' => e = .returned (.tuple #[.int .i64 (ckAns (okAt n st tl wt k V Y D B) n).1, .int .i64 (ckAns (okAt n st tl wt k V Y D B) n).2]) ∧ Below w.heap.size w w' := by
  have hn := hgd.n_le
  have hst : st.length ≤ 17592186044416 := by have := hgd.s_len; omega
  have hto : tl.length ≤ 17592186044416 := by have := hgd.m_le; omega
  have hwt : wt.length ≤ 17592186044416 := by have := hgd.w_len; have := hgd.m_le; omega
  obtain ⟨i0, hi, hz0, hz1, hz2⟩ := info_parts Try.info4b
  obtain ⟨ao, ca, rfl⟩ := hg.s.shape
  obtain ⟨bo, cb, rfl⟩ := hg.t.shape
  obtain ⟨co, cc, rfl⟩ := hg.u.shape
  obtain ⟨so, sc, rfl, hsc, hscm⟩ := hs.shape
  obtain ⟨g1, p1, k1, rfl, _, _, _⟩ := h1.spot (by intro h; rw [h] at hV; simp at hV; omega)
  obtain ⟨o2, k2, rfl⟩ := h2.shape
  obtain ⟨o3, k3, rfl⟩ := h3.shape
  obtain ⟨W1, hW1⟩ : ∃ W1, W1 = (w.alloc (.cells #[.int .i64 n, .slice ao st.length ca, .slice bo tl.length cb, .slice co wt.length cc] 32)).alloc (.cells #[.slice (some ⟨g1, p1, none⟩) V.length k1, .slice o2 Y.length k2, .slice o3 D.length k3] 103) := ⟨_, rfl⟩
  have hbW : Below w.heap.size w W1 := by rw [hW1]; exact below_alloc (below_alloc (Below.refl _ _) _) _
  have hA : W1.heap[w.heap.size]? = some (.cells #[.int .i64 n, .slice ao st.length ca, .slice bo tl.length cb, .slice co wt.length cc] 32 (0, 0)) := by
    rw [hW1, heap_alloc_old _ _ (by simp)]; exact heap_new _ _
  have hBx : W1.heap[w.heap.size + 1]? = some (.cells #[.slice (some ⟨g1, p1, none⟩) V.length k1, .slice o2 Y.length k2, .slice o3 D.length k3] 103 (0, 0)) := by
    rw [hW1]
    have := heap_new (w.alloc (.cells #[.int .i64 n, .slice ao st.length ca, .slice bo tl.length cb, .slice co wt.length cc] 32)) (.cells #[.slice (some ⟨g1, p1, none⟩) V.length k1, .slice o2 Y.length k2, .slice o3 D.length k3] 103)
    simpa using this
  have HSE := hide (refSearch_good n _ _ _ st tl wt k _ S W1 (hg.below hbW) hno hst hto hwt hwb (hs.below hbW) (fun j hj => (hok j hj).2.1) hS)
  have HG := hide (hg.below hbW); have HS := hide (hs.below hbW); have H1 := hide (h1.below hbW); have H2 := hide (h2.below hbW); have H3 := hide (h3.below hbW)
  have HBW := hide hbW; have HA := hide hA; have HBX := hide hBx; have HGD := hide hgd; have HWB := hide hwb; have HOK := hide hok; have HBG := hide hB; have HVB := hide hVb; have HDB := hide hDb; have HDLo := hide hDl; have HVL := hide hV; have HYL := hide hY; have HDL := hide hD
  have c0 := cell_of hA (i := 0) rfl
  have c1 := cell_of hA (i := 1) rfl
  have c2 := cell_of hA (i := 2) rfl
  have c3 := cell_of hA (i := 3) rfl
  obtain ⟨ok, hokd⟩ : ∃ ok, ok = okAt n st tl wt k V Y D B := ⟨_, rfl⟩
  have HO := hide hokd
  rw [← hokd]
  clear hokd
  unfold gAgg at HSE ⊢
  clear hg hs h1 h2 h3 hbW hA hBx hgd hwb hok hno hB hVb hDb hDl hV hY hD
  subst hW1
  go_enter Try.func65, Try.ntmps65
  go_wp2_with fail
  generalize ((w.alloc (.cells #[.int .i64 n, .slice ao st.length ca, .slice bo tl.length cb, .slice co wt.length cc] 32)).alloc (.cells #[.slice (some ⟨g1, p1, none⟩) V.length k1, .slice o2 Y.length k2, .slice o3 D.length k3] 103)) = W1 at HSE HG HS H1 H2 H3 HBW HA HBX c0 c1 c2 c3 ⊢
  refine HSE.out.mono ?_
  rintro e w2 ⟨Gx, Lx, rfl, _, _, _, hb2⟩
  have HB2 := hide hb2
  have HA2 := hide ((hb2.block _ (lt_of_heap HA.out)).trans HA.out)
  have HX2 := hide ((hb2.block _ (lt_of_heap HBX.out)).trans HBX.out)
  have d0 := cell_of HA2.out (i := 0) rfl
  have d1 := cell_of HA2.out (i := 1) rfl
  have d2 := cell_of HA2.out (i := 2) rfl
  have d3 := cell_of HA2.out (i := 3) rfl
  have v0 := cell_of HX2.out (i := 0) rfl
  have v1 := cell_of HX2.out (i := 1) rfl
  have v2 := cell_of HX2.out (i := 2) rfl
  have e1 : ((V.length : Int) != (n : Int)) = false := by rw [HVL.out]; simp
  have e2 : ((Y.length : Int) != (n : Int)) = false := by rw [HYL.out]; simp
  have e3 : ((D.length : Int) != (n : Int)) = false := by rw [HDL.out]; simp
  clear c0 c1 c2 c3 hb2 HSE
  go_wp2_with fail
  have HFR := hide (from_any n _ _ _ st tl wt w2 (HG.out.below HB2.out) HGD.out)
  unfold gAgg at HFR
  refine HFR.out.mono ?_
  rintro e w3 ⟨F0, rfl, hF0, hb3⟩
  have HB3 := hide (below_on HB2.out hb3)
  have HF3 := hide hF0
  have HA3 := hide ((hb3.block _ (lt_of_heap HA2.out)).trans HA2.out)
  have c0 := cell_of HA3.out (i := 0) rfl
  clear d0 d1 d2 d3 v0 v1 v2 e1 e2 e3 hF0 hb3 HFR HA2 HX2
  go_wp2_with fail
  refine (least_pos n _ S w3 hn0 hn (HS.out.below HB3.out) HOK.out hS).mono ?_
  rintro e w4 ⟨GB, cB, B', rfl, hNU, hcb1, hcb2, hBeg, hb4⟩
  obtain rfl : B = B' := HBG.out.only hBeg
  have HB4 := hide (below_on HB3.out hb4)
  have HF4 := hide (HF3.out.below hb4)
  have HN4 := hide (hNU.row hBeg.len hcb1 hcb2)
  have HBL := hide hBeg.len
  have HA4 := hide ((hb4.block _ (lt_of_heap HA3.out)).trans HA3.out)
  have HX4 := hide ((HB4.out.block _ (lt_of_heap HBX.out)).trans HBX.out)
  have c0 := cell_of HA4.out (i := 0) rfl
  clear hNU hBeg hb4 HF3 HA3
  go_wp2_with (at_make; refine wpList_make_full _ rfl _ _ 57 rfl w4.heap.size 4 i0 (.bool false) 1 Try.underlying57 hi hz0 hz1 _ _ _ _ n rfl rfl rfl rfl (by rw [hz2]; omega) (by unfold maxLen; omega) (Nat.le_refl _) ?_; intro w5 hown hgrow)
  have hBA := (ba_made hown).1
  have hb5 : Below w4.heap.size w4 w5 := (Below.refl _ _).grown hgrow (Nat.le_refl _) (by intro k hk; cases hk)
  have HBA := hide hBA
  have HB5 := hide hb5
  have HG4 := hide (HG.out.below HB4.out)
  have H14 := hide (H1.out.below HB4.out); have H24 := hide (H2.out.below HB4.out); have H34 := hide (H3.out.below HB4.out)
  clear hown hgrow hBA hb5 c0
  obtain ⟨K, hKe⟩ : ∃ K, K = w4.heap.size := ⟨_, rfl⟩
  rw [← hKe] at HBA ⊢
  have hKl : w4.heap.size ≤ K := by omega
  clear hKe
  go_loopw [15, 16] (fun t _ wr => ∃ p : Nat, p ≤ tl.length ∧ t = .int .i64 p ∧ BA wr K n (abP n st tl wt k V p) ∧ Below w4.heap.size w4 wr) (fun t _ _ => tl.length - (RowKit.intOf t).toNat)
  case atStart => exact ⟨0, Nat.zero_le _, rfl, HBA.out.ext (fun v hv => rfl), HB5.out⟩
  case round =>
    obtain ⟨p, hpm, rfl, hBA, hB⟩ := hrel
    clear HBA HB5
    have hbx := (hB.block _ (lt_of_heap HA4.out)).trans HA4.out
    have hvx := (hB.block _ (lt_of_heap HX4.out)).trans HX4.out
    have x2 := cell_of hbx (i := 2) rfl
    by_cases hlt : p < tl.length
    · as_aux_lemma =>
      have hwl := HGD.out.w_len
      obtain ⟨gt, pt, kt, hee, _, _, _⟩ := HG4.out.t.spot (by intro h; rw [h] at hlt; exact absurd hlt (Nat.not_lt_zero _))
      simp only [Value.slice.injEq] at hee
      obtain ⟨rfl, hz9, rfl⟩ := hee
      clear hz9
      obtain ⟨gw, pw, kw, hee, _, _, _⟩ := HG4.out.u.spot (by intro h; rw [h] at hwl; simp at hwl; omega)
      simp only [Value.slice.injEq] at hee
      obtain ⟨rfl, hz9, rfl⟩ := hee
      clear hz9
      have hvt := HGD.out.vtx p hlt
      obtain ⟨t, ht⟩ : ∃ t : Nat, at_ tl p = (t : Int) := ⟨(at_ tl p).toNat, by omega⟩
      have htn : t < n := by omega
      obtain ⟨u, hu⟩ : ∃ u, u = src st n p := ⟨_, rfl⟩
      have hun : u < n := by rw [hu]; exact src_lt HGD.out hlt
      have f0 := (HF4.out.below hB).cellOf (i := p) (by rw [tab_length]; exact hlt)
      rw [Nat.zero_add, tab_at _ _ _ hlt, ← hu] at f0
      obtain ⟨y, hy⟩ : ∃ y, y = at_ V u := ⟨_, rfl⟩
      obtain ⟨a, ha⟩ : ∃ a, a = at_ V t := ⟨_, rfl⟩
      obtain ⟨z, hz⟩ : ∃ z, z = at_ wt p := ⟨_, rfl⟩
      have hyb := HVB.out u
      have hzb := HWB.out p
      rw [← hy] at hyb
      rw [← hz] at hzb
      have htov : tov tl p = t := by unfold tov; rw [ht]; exact Int.toNat_natCast _
      have j1 : (u : Int) < (V.length : Int) := by rw [HVL.out]; omega
      have j2 : (t : Int) < (V.length : Int) := by rw [HVL.out]; omega
      have j3 : (p : Int) < (wt.length : Int) := by omega
      have j4 : (p : Int) < (tl.length : Int) := by omega
      have HBA := hide hBA; have HB := hide hB
      have HT := hide ht; have HU := hide hu; have HY := hide hy; have HAV := hide ha; have HZ := hide hz; have HTO := hide htov
      have s0 : ∀ x : GW wr, x.world.cell? ⟨w.heap.size + 1, 0, none⟩ = some (.slice (some ⟨g1, p1, none⟩) V.length k1) := fun x => cell_of ((x.bel.block _ (lt_of_heap hvx)).trans hvx) rfl
      have s1 : ∀ x : GW wr, x.world.cell? ⟨g1, p1 + u, none⟩ = some (.int .u64 y) := fun x => by rw [HY.out]; exact (H14.out.below (below_on HB.out x.bel)).cellOf (by rw [HVL.out]; exact hun)
      have s2 : ∀ x : GW wr, x.world.cell? ⟨w.heap.size, 2, none⟩ = some (.slice (some ⟨gt, pt, none⟩) tl.length cb) := fun x => cell_of ((x.bel.block _ (lt_of_heap hbx)).trans hbx) rfl
      have s3 : ∀ x : GW wr, x.world.cell? ⟨gt, pt + p, none⟩ = some (.int .i64 (t : Int)) := fun x => by rw [← HT.out]; exact (HG4.out.below (below_on HB.out x.bel)).t.cellOf hlt
      have s4 : ∀ x : GW wr, x.world.cell? ⟨g1, p1 + t, none⟩ = some (.int .u64 a) := fun x => by rw [HAV.out]; exact (H14.out.below (below_on HB.out x.bel)).cellOf (by rw [HVL.out]; exact htn)
      have s5 : ∀ x : GW wr, x.world.cell? ⟨w.heap.size, 3, none⟩ = some (.slice (some ⟨gw, pw, none⟩) wt.length cc) := fun x => cell_of ((x.bel.block _ (lt_of_heap hbx)).trans hbx) rfl
      have s6 : ∀ x : GW wr, x.world.cell? ⟨gw, pw + p, none⟩ = some (.int .u64 z) := fun x => by rw [HZ.out]; exact (HG4.out.below (below_on HB.out x.bel)).u.cellOf (by rw [HGD.out.w_len]; exact hlt)
      clear hBA hB ht hu hy ha hz htov hvt hwl hvx hbx
      by_cases c1 : y = 18446744073709551615
      · have C1 : (y != 18446744073709551615) = false := by simp [c1]
        have HC1 := hide c1
        clear c1
        go_wp2_with fail
        refine wp_region_gw (by kernel_rfl) (by kernel_rfl) ?_
        repeat (go_big_quiet_step (first
          | rfl))
        refine wpQuiet_nil ?_
        intro _ hw'
        obtain ⟨xg, hw''⟩ := hw'
        subst hw''
        have HBA2 := hide (HBA.out.below xg.bel)
        have HB2' := hide (below_on HB.out xg.bel)
        have hbx2 := (HB2'.out.block _ (lt_of_heap HA4.out)).trans HA4.out
        have y2 := cell_of hbx2 (i := 2) rfl
        have y3 := (HG4.out.below HB2'.out).t.cellOf hlt
        rw [HT.out] at y3
        generalize xg.world = wB at HBA2 HB2' y2 y3 ⊢
        clear s0 s1 s2 s3 s4 s5 s6 xg hbx2
        go_wp2_with fail
        refine ⟨⟨p + 1, by omega, by simp, HBA2.out.ext (fun v hv => ?_), HB2'.out⟩, by simp [RowKit.intOf]; omega⟩
        rw [abP_step HTO.out false (decide_eq_false (by rw [← HU.out, ← HY.out, ← HZ.out, ← HAV.out]; intro h; exact h.1 HC1.out)).symm v]
        simp
      · have C1 : (y != 18446744073709551615) = true := by simp [c1]
        have HC1 := hide c1
        obtain ⟨l, hl⟩ : ∃ l, l = ext k y z := ⟨_, rfl⟩
        have HL := hide hl
        have HEXG : Hid (∀ x : GW wr, Calls Try.prog 73 #[.int .i64 k, .int .u64 y, .int .u64 z] x.world fun e w' => e = .returned (.int .u64 l) ∧ Below x.world.heap.size x.world w') := fun x => (refExtend_any k y z x.world hyb.1 hyb.2 hzb.1 hzb.2).mono fun e w' h => ⟨by rw [HL.out]; exact h.1, by rw [h.2]; exact Below.refl _ _⟩
        clear c1 hl
        by_cases c2 : l < a
        · have C2 : decide (l < a) = true := decide_eq_true c2
          have HC2 := hide c2
          clear c2
          go_wp2_with fail
          refine wp_region_gw (by kernel_rfl) (by kernel_rfl) ?_
          repeat (go_big_quiet_step (first
            | (go_at_call 73; with_reducible exact gw_of (HEXG.out _))
            | rfl))
          refine wpQuiet_nil ?_
          intro _ hw'
          obtain ⟨xg, hw''⟩ := hw'
          subst hw''
          have HBA2 := hide (HBA.out.below xg.bel)
          have HB2' := hide (below_on HB.out xg.bel)
          have hbx2 := (HB2'.out.block _ (lt_of_heap HA4.out)).trans HA4.out
          have y2 := cell_of hbx2 (i := 2) rfl
          have y3 := (HG4.out.below HB2'.out).t.cellOf hlt
          rw [HT.out] at y3
          generalize xg.world = wB at HBA2 HB2' y2 y3 ⊢
          clear s0 s1 s2 s3 s4 s5 s6 xg hbx2
          have f1 := HBA2.out.at htn
          have f2 := HBA2.out.free t
          go_wp2_with fail
          refine ⟨⟨p + 1, by omega, by simp, (HBA2.out.put htn true).ext (fun v hv => ?_), HB2'.out.setCell (p := ⟨K, t, none⟩) hKl _⟩, by simp [RowKit.intOf]; omega⟩
          rw [abP_step HTO.out true (decide_eq_true (by rw [← HU.out, ← HY.out, ← HZ.out, ← HAV.out, ← HL.out]; exact ⟨HC1.out, HC2.out⟩)).symm v]
          simp
        · have C2 : decide (l < a) = false := decide_eq_false c2
          have HC2 := hide c2
          clear c2
          go_wp2_with fail
          refine wp_region_gw (by kernel_rfl) (by kernel_rfl) ?_
          repeat (go_big_quiet_step (first
            | (go_at_call 73; with_reducible exact gw_of (HEXG.out _))
            | rfl))
          refine wpQuiet_nil ?_
          intro _ hw'
          obtain ⟨xg, hw''⟩ := hw'
          subst hw''
          have HBA2 := hide (HBA.out.below xg.bel)
          have HB2' := hide (below_on HB.out xg.bel)
          have hbx2 := (HB2'.out.block _ (lt_of_heap HA4.out)).trans HA4.out
          have y2 := cell_of hbx2 (i := 2) rfl
          have y3 := (HG4.out.below HB2'.out).t.cellOf hlt
          rw [HT.out] at y3
          generalize xg.world = wB at HBA2 HB2' y2 y3 ⊢
          clear s0 s1 s2 s3 s4 s5 s6 xg hbx2
          go_wp2_with fail
          refine ⟨⟨p + 1, by omega, by simp, HBA2.out.ext (fun v hv => ?_), HB2'.out⟩, by simp [RowKit.intOf]; omega⟩
          rw [abP_step HTO.out false (decide_eq_false (by rw [← HU.out, ← HY.out, ← HZ.out, ← HAV.out]; rw [← HL.out]; intro h; have h9 := HC2.out; have h8 := h.2; omega)).symm v]
          simp
    · have hpe : p = tl.length := by omega
      have HBA0 : Hid (BA wr K n (abP n st tl wt k V tl.length)) := by rw [← hpe]; exact hBA
      have HB0 := hide hB
      have b0' := cell_of hbx (i := 0) rfl
      clear hBA hB hbx hvx hpe
      go_wp2_with fail
      clear x2 b0'
      go_loopw [17] (fun t wr => ∃ i : Nat, i ≤ n ∧ t = .int .i64 i ∧ (∀ v, v < i → ok v = true) ∧ BA wr K n (abP n st tl wt k V tl.length) ∧ Below w4.heap.size w4 wr) (fun t _ => n - (RowKit.intOf t).toNat)
      case atStart => exact ⟨0, Nat.zero_le _, rfl, fun v hv => absurd hv (Nat.not_lt_zero _), HBA0.out, HB0.out⟩
      case round =>
        obtain ⟨i, hin, rfl, hall, hBA, hB⟩ := hrel
        clear HBA0 HB0
        have HALL := hide hall; have HBA := hide hBA; have HB := hide hB
        have hbx := (hB.block _ (lt_of_heap HA4.out)).trans HA4.out
        have hvx := (hB.block _ (lt_of_heap HX4.out)).trans HX4.out
        have x0 := cell_of hbx (i := 0) rfl
        clear hall hBA hB
        by_cases hlt2 : i < n
        · obtain ⟨ab, hab⟩ : ∃ ab, ab = abP n st tl wt k V tl.length i := ⟨_, rfl⟩
          obtain ⟨a, ha⟩ : ∃ a, a = at_ V i := ⟨_, rfl⟩
          obtain ⟨bv, hbv⟩ : ∃ bv, bv = at_ B i := ⟨_, rfl⟩
          obtain ⟨R, hR⟩ : ∃ R, R = rsn n st tl wt k V Y D B i := ⟨_, rfl⟩
          have HOI : Hid (ok i = (!(ab || decide (bv < a)) && R)) := by rw [HO.out, hab, ha, hbv, hR]; exact okAt_rsn i
          have j1 : (i : Int) < (V.length : Int) := by rw [HVL.out]; omega
          have j2 : (i : Int) < (n : Int) := by omega
          have s0 : ∀ x : GW wr, x.world.cell? ⟨K, i, none⟩ = some (.bool ab) := fun x => by rw [hab]; exact (HBA.out.below x.bel).at hlt2
          have s1 : ∀ x : GW wr, x.world.cell? ⟨w.heap.size + 1, 0, none⟩ = some (.slice (some ⟨g1, p1, none⟩) V.length k1) := fun x => cell_of ((x.bel.block _ (lt_of_heap hvx)).trans hvx) rfl
          have s2 : ∀ x : GW wr, x.world.cell? ⟨g1, p1 + i, none⟩ = some (.int .u64 a) := fun x => by rw [ha]; exact (H14.out.below (below_on HB.out x.bel)).cellOf (by rw [HVL.out]; exact hlt2)
          have s3 : ∀ x : GW wr, x.world.cell? ⟨GB, i, none⟩ = some (.int .u64 bv) := fun x => by
            have h9 := (HN4.out.below (below_on HB.out x.bel)).cellOf (i := i) (by rw [HBL.out]; exact hlt2)
            rw [Nat.zero_add, ← hbv] at h9
            exact h9
          have s4 : ∀ x : GW wr, x.world.cell? ⟨w.heap.size, 0, none⟩ = some (.int .i64 n) := fun x => cell_of ((x.bel.block _ (lt_of_heap hbx)).trans hbx) rfl
          have s5 : ∀ x : GW wr, x.world.cell? ⟨w.heap.size, 1, none⟩ = some (.slice ao st.length ca) := fun x => cell_of ((x.bel.block _ (lt_of_heap hbx)).trans hbx) rfl
          have s6 : ∀ x : GW wr, x.world.cell? ⟨w.heap.size, 2, none⟩ = some (.slice bo tl.length cb) := fun x => cell_of ((x.bel.block _ (lt_of_heap hbx)).trans hbx) rfl
          have s7 : ∀ x : GW wr, x.world.cell? ⟨w.heap.size, 3, none⟩ = some (.slice co wt.length cc) := fun x => cell_of ((x.bel.block _ (lt_of_heap hbx)).trans hbx) rfl
          have s8 : ∀ x : GW wr, x.world.cell? ⟨w.heap.size + 1, 1, none⟩ = some (.slice o2 Y.length k2) := fun x => cell_of ((x.bel.block _ (lt_of_heap hvx)).trans hvx) rfl
          have s9 : ∀ x : GW wr, x.world.cell? ⟨w.heap.size + 1, 2, none⟩ = some (.slice o3 D.length k3) := fun x => cell_of ((x.bel.block _ (lt_of_heap hvx)).trans hvx) rfl
          have HRS := hide (fun (x : GW wr) => reason_any n i _ _ _ st tl wt k _ _ _ _ _ V Y D B x.world (HG4.out.below (below_on HB.out x.bel)) HGD.out HWB.out hlt2 (HF4.out.below (below_on HB.out x.bel)) (HN4.out.below (below_on HB.out x.bel)) (H14.out.below (below_on HB.out x.bel)) (H24.out.below (below_on HB.out x.bel)) (H34.out.below (below_on HB.out x.bel)) HVL.out HYL.out HDL.out HBL.out HVB.out HDB.out HDLo.out)
          rw [← hR] at HRS
          unfold gAgg at HRS
          clear hab ha hbv hR hbx hvx
          cases ab with
          | true =>
            go_wp2_with fail
            refine wp_region_gw (by kernel_rfl) (by kernel_rfl) ?_
            repeat (go_big_quiet_step (first
              | rfl))
            refine wpQuiet_nil ?_
            intro _ hw'
            obtain ⟨xg, hw''⟩ := hw'
            subst hw''
            have HBA2 := hide (HBA.out.below xg.bel)
            have HB2' := hide (below_on HB.out xg.bel)
            generalize xg.world = wB at HBA2 HB2' ⊢
            clear s0 s1 s2 s3 s4 s5 s6 s7 s8 s9 HRS xg
            have HANS := hide (ck_some (ok := ok) hlt2 (by rw [HOI.out]; simp) HALL.out)
            have HEND := hide (below_on HBW.out (below_on HB4.out HB2'.out))
            go_wp2
            go_ret2
            exact ⟨by rw [HANS.out]; rfl, HEND.out⟩
          | false =>
            by_cases c2 : bv < a
            · have C2 : decide (bv < a) = true := decide_eq_true c2
              clear c2
              go_wp2_with fail
              refine wp_region_gw (by kernel_rfl) (by kernel_rfl) ?_
              repeat (go_big_quiet_step (first
                | rfl))
              refine wpQuiet_nil ?_
              intro _ hw'
              obtain ⟨xg, hw''⟩ := hw'
              subst hw''
              have HBA2 := hide (HBA.out.below xg.bel)
              have HB2' := hide (below_on HB.out xg.bel)
              generalize xg.world = wB at HBA2 HB2' ⊢
              clear s0 s1 s2 s3 s4 s5 s6 s7 s8 s9 HRS xg
              have HANS := hide (ck_some (ok := ok) hlt2 (by rw [HOI.out, C2]; simp) HALL.out)
              have HEND := hide (below_on HBW.out (below_on HB4.out HB2'.out))
              go_wp2
              go_ret2
              exact ⟨by rw [HANS.out]; rfl, HEND.out⟩
            · have C2 : decide (bv < a) = false := decide_eq_false c2
              clear c2
              cases R with
              | true =>
                go_wp2_with fail
                refine wp_region_gw (by kernel_rfl) (by kernel_rfl) ?_
                repeat (go_big_quiet_step (first
                  | (go_at_call 115; with_reducible exact gw_of (HRS.out _))
                  | rfl))
                refine wpQuiet_nil ?_
                intro _ hw'
                obtain ⟨xg, hw''⟩ := hw'
                subst hw''
                have HBA2 := hide (HBA.out.below xg.bel)
                have HB2' := hide (below_on HB.out xg.bel)
                generalize xg.world = wB at HBA2 HB2' ⊢
                clear s0 s1 s2 s3 s4 s5 s6 s7 s8 s9 HRS xg
                go_wp2_with fail
                refine ⟨⟨i + 1, by omega, by simp, fun v hv => ?_, HBA2.out, HB2'.out⟩, by simp [RowKit.intOf]; omega⟩
                rcases Nat.lt_or_ge v i with h | h
                · exact HALL.out v h
                · obtain rfl : v = i := by omega
                  rw [HOI.out, C2]; rfl
              | false =>
                go_wp2_with fail
                refine wp_region_gw (by kernel_rfl) (by kernel_rfl) ?_
                repeat (go_big_quiet_step (first
                  | (go_at_call 115; with_reducible exact gw_of (HRS.out _))
                  | rfl))
                refine wpQuiet_nil ?_
                intro _ hw'
                obtain ⟨xg, hw''⟩ := hw'
                subst hw''
                have HBA2 := hide (HBA.out.below xg.bel)
                have HB2' := hide (below_on HB.out xg.bel)
                generalize xg.world = wB at HBA2 HB2' ⊢
                clear s0 s1 s2 s3 s4 s5 s6 s7 s8 s9 HRS xg
                have HANS := hide (ck_some (ok := ok) hlt2 (by rw [HOI.out, C2]; simp) HALL.out)
                have HEND := hide (below_on HBW.out (below_on HB4.out HB2'.out))
                go_wp2
                go_ret2
                exact ⟨by rw [HANS.out]; rfl, HEND.out⟩
        · have HANS := hide (ck_none (fun u hu => HALL.out u (by omega)) : ckAns ok n = (0, 0))
          have HEND := hide (below_on HBW.out (below_on HB4.out HB.out))
          clear hbx hvx
          go_wp2
          go_ret2
          exact ⟨by rw [HANS.out]; rfl, HEND.out⟩
end Go.Proofs.Ythoklgdlnmccmaa

/- The reference's Check where the arguments have an error; of no vertices. -/
namespace Go.Proofs.Ythoklgdlnmccmaa
open Go.RowKit Go.Lib
set_option linter.unusedVariables false
set_option maxRecDepth 100000 in
set_option maxHeartbeats 4000000 in
theorem refCheck_bad (N : Int) (va vb vc : Value) (st tl wt : List Int) (k : Int) (sv : Value) (S : List Pr) (l1 l2 l3 : Value) (V Y D : List Int) (w : World) (hg : GIs w N va vb vc st tl wt) (hst : st.length ≤ 17592186044416) (hto : tl.length ≤ 17592186044416) (hwt : wt.length ≤ 17592186044416)
    (hs : SAt w sv S) (hS : S.length * 16 ≤ 140737488353280) (hno : srchNo N st tl wt k S ≠ 0) (h1 : RowAt .u64 w l1 V) (h2 : RowAt .i64 w l2 Y) (h3 : RowAt .i64 w l3 D) :
    Calls Try.prog 65 #[gAgg N va vb vc, .int .i64 k, sv, .agg #[l1, l2, l3]] w fun e w' => e = .returned (.tuple #[.int .i64 (srchNo N st tl wt k S), .int .i64 0]) ∧ Below w.heap.size w w' := by
  obtain ⟨ao, ca, rfl⟩ := hg.s.shape
  obtain ⟨bo, cb, rfl⟩ := hg.t.shape
  obtain ⟨co, cc, rfl⟩ := hg.u.shape
  obtain ⟨so, sc, rfl, hsc, hscm⟩ := hs.shape
  obtain ⟨o1, k1, rfl⟩ := h1.shape
  obtain ⟨o2, k2, rfl⟩ := h2.shape
  obtain ⟨o3, k3, rfl⟩ := h3.shape
  obtain ⟨W1, hW1⟩ : ∃ W1, W1 = (w.alloc (.cells #[.int .i64 N, .slice ao st.length ca, .slice bo tl.length cb, .slice co wt.length cc] 32)).alloc (.cells #[.slice o1 V.length k1, .slice o2 Y.length k2, .slice o3 D.length k3] 103) := ⟨_, rfl⟩
  have hbW : Below w.heap.size w W1 := by rw [hW1]; exact below_alloc (below_alloc (Below.refl _ _) _) _
  have hA : W1.heap[w.heap.size]? = some (.cells #[.int .i64 N, .slice ao st.length ca, .slice bo tl.length cb, .slice co wt.length cc] 32 (0, 0)) := by
    rw [hW1, heap_alloc_old _ _ (by simp)]; exact heap_new _ _
  have hBx : W1.heap[w.heap.size + 1]? = some (.cells #[.slice o1 V.length k1, .slice o2 Y.length k2, .slice o3 D.length k3] 103 (0, 0)) := by
    rw [hW1]
    have := heap_new (w.alloc (.cells #[.int .i64 N, .slice ao st.length ca, .slice bo tl.length cb, .slice co wt.length cc] 32)) (.cells #[.slice o1 V.length k1, .slice o2 Y.length k2, .slice o3 D.length k3] 103)
    simpa using this
  have HTS := hide (refSearch_bad N _ _ _ st tl wt k _ S W1 (hg.below hbW) hno hst hto hwt (hs.below hbW) hS)
  have HBW := hide hbW; have HA := hide hA; have HBX := hide hBx
  have c0 := cell_of hA (i := 0) rfl
  have c1 := cell_of hA (i := 1) rfl
  have c2 := cell_of hA (i := 2) rfl
  have c3 := cell_of hA (i := 3) rfl
  obtain ⟨x, hx⟩ : ∃ x, x = srchNo N st tl wt k S := ⟨_, rfl⟩
  rw [← hx] at HTS hno ⊢
  have hxb : (x != 0) = true := by simp [hno]
  unfold gAgg at HTS ⊢
  clear hg hs h1 h2 h3 hbW hA hBx hno hx
  go_enter Try.func65, Try.ntmps65
  go_wp2_with fail
  rw [← hW1]
  clear hW1
  refine HTS.out.mono ?_
  rintro e w2 ⟨rfl, hb2⟩
  have HB2 := hide (below_on HBW.out hb2)
  clear hb2 HTS c0 c1 c2 c3
  go_wp2
  go_ret2
  exact ⟨rfl, HB2.out⟩
set_option maxRecDepth 100000 in
set_option maxHeartbeats 4000000 in
theorem refCheck_len (N : Int) (va vb vc : Value) (st tl wt : List Int) (k : Int) (sv : Value) (S : List Pr) (l1 l2 l3 : Value) (V Y D : List Int) (w : World) (hg : GIs w N va vb vc st tl wt) (hst : st.length ≤ 17592186044416) (hto : tl.length ≤ 17592186044416) (hwt : wt.length ≤ 17592186044416)
    (hs : SAt w sv S) (hS : S.length * 16 ≤ 140737488353280) (hwb : ∀ e, 0 ≤ at_ wt e ∧ at_ wt e ≤ 18446744073709551615) (hw : ∀ j, j < S.length → 0 ≤ (sAt S j).2) (hno : srchNo N st tl wt k S = 0) (hlen : ¬ ((V.length : Int) = N ∧ (Y.length : Int) = N ∧ (D.length : Int) = N)) (h1 : RowAt .u64 w l1 V) (h2 : RowAt .i64 w l2 Y) (h3 : RowAt .i64 w l3 D) :
    Calls Try.prog 65 #[gAgg N va vb vc, .int .i64 k, sv, .agg #[l1, l2, l3]] w fun e w' => e = .returned (.tuple #[.int .i64 (34), .int .i64 0]) ∧ Below w.heap.size w w' := by
  obtain ⟨ao, ca, rfl⟩ := hg.s.shape
  obtain ⟨bo, cb, rfl⟩ := hg.t.shape
  obtain ⟨co, cc, rfl⟩ := hg.u.shape
  obtain ⟨so, sc, rfl, hsc, hscm⟩ := hs.shape
  obtain ⟨o1, k1, rfl⟩ := h1.shape
  obtain ⟨o2, k2, rfl⟩ := h2.shape
  obtain ⟨o3, k3, rfl⟩ := h3.shape
  obtain ⟨W1, hW1⟩ : ∃ W1, W1 = (w.alloc (.cells #[.int .i64 N, .slice ao st.length ca, .slice bo tl.length cb, .slice co wt.length cc] 32)).alloc (.cells #[.slice o1 V.length k1, .slice o2 Y.length k2, .slice o3 D.length k3] 103) := ⟨_, rfl⟩
  have hbW : Below w.heap.size w W1 := by rw [hW1]; exact below_alloc (below_alloc (Below.refl _ _) _) _
  have hA : W1.heap[w.heap.size]? = some (.cells #[.int .i64 N, .slice ao st.length ca, .slice bo tl.length cb, .slice co wt.length cc] 32 (0, 0)) := by
    rw [hW1, heap_alloc_old _ _ (by simp)]; exact heap_new _ _
  have hBx : W1.heap[w.heap.size + 1]? = some (.cells #[.slice o1 V.length k1, .slice o2 Y.length k2, .slice o3 D.length k3] 103 (0, 0)) := by
    rw [hW1]
    have := heap_new (w.alloc (.cells #[.int .i64 N, .slice ao st.length ca, .slice bo tl.length cb, .slice co wt.length cc] 32)) (.cells #[.slice o1 V.length k1, .slice o2 Y.length k2, .slice o3 D.length k3] 103)
    simpa using this
  obtain ⟨n, hNn, hgd, hsn⟩ := srch_good hno
  subst hNn
  have HTS := hide (refSearch_good n _ _ _ st tl wt k _ S W1 (hg.below hbW) hno hst hto hwt hwb (hs.below hbW) hw hS)
  have HBW := hide hbW; have HA := hide hA; have HBX := hide hBx
  have c0 := cell_of hA (i := 0) rfl
  have c1 := cell_of hA (i := 1) rfl
  have c2 := cell_of hA (i := 2) rfl
  have c3 := cell_of hA (i := 3) rfl
  unfold gAgg at HTS ⊢
  clear hg hs h1 h2 h3 hbW hA hBx hno hgd hsn hwb hw
  go_enter Try.func65, Try.ntmps65
  go_wp2_with fail
  rw [← hW1]
  clear hW1
  refine HTS.out.mono ?_
  rintro e w2 ⟨Gx, Lx, rfl, _, _, _, hb2⟩
  have HB2 := hide (below_on HBW.out hb2)
  have HA2 := hide ((hb2.block _ (lt_of_heap HA.out)).trans HA.out)
  have HX2 := hide ((hb2.block _ (lt_of_heap HBX.out)).trans HBX.out)
  have d0 := cell_of HA2.out (i := 0) rfl
  have v0 := cell_of HX2.out (i := 0) rfl
  have v1 := cell_of HX2.out (i := 1) rfl
  have v2 := cell_of HX2.out (i := 2) rfl
  clear hb2 HTS c0 c1 c2 c3
  by_cases e1 : (V.length : Int) = (n : Int)
  · by_cases e2 : (Y.length : Int) = (n : Int)
    · have e3 : ¬ (D.length : Int) = (n : Int) := fun h => hlen ⟨e1, e2, h⟩
      have E1 : ((V.length : Int) != (n : Int)) = false := by simp [e1]
      have E2 : ((Y.length : Int) != (n : Int)) = false := by simp [e2]
      have E3 : ((D.length : Int) != (n : Int)) = true := by simp [e3]
      clear e1 e2 e3 hlen
      go_wp2
      go_ret2
      exact ⟨rfl, HB2.out⟩
    · have E1 : ((V.length : Int) != (n : Int)) = false := by simp [e1]
      have E2 : ((Y.length : Int) != (n : Int)) = true := by simp [e2]
      clear e1 e2 hlen
      go_wp2
      go_ret2
      exact ⟨rfl, HB2.out⟩
  · have E1 : ((V.length : Int) != (n : Int)) = true := by simp [e1]
    clear e1 hlen
    go_wp2
    go_ret2
    exact ⟨rfl, HB2.out⟩
end Go.Proofs.Ythoklgdlnmccmaa

/- The reference's Check of no vertices. -/
namespace Go.Proofs.Ythoklgdlnmccmaa
open Go.RowKit Go.Lib
set_option linter.unusedVariables false
set_option maxRecDepth 100000 in
set_option maxHeartbeats 8000000 in
theorem refCheck_zero (n : Nat) (va vb vc : Value) (st tl wt : List Int) (k : Int) (sv : Value) (S : List Pr) (l1 l2 l3 : Value) (V Y D B : List Int) (w : World) (hg : GIs w n va vb vc st tl wt) (hgd : Good n st tl wt) (hwb : ∀ e, 0 ≤ at_ wt e ∧ at_ wt e ≤ 18446744073709551615) (hn0 : n = 0)
    (hs : SAt w sv S) (hok : Sok n S) (hS : S.length * 16 ≤ 140737488353280) (hno : srchNo n st tl wt k S = 0) (hB : Beg n S B S.length) (h1 : RowAt .u64 w l1 V) (h2 : RowAt .i64 w l2 Y) (h3 : RowAt .i64 w l3 D) (hV : V.length = n) (hY : Y.length = n) (hD : D.length = n) (hVb : ∀ v, 0 ≤ at_ V v ∧ at_ V v ≤ 18446744073709551615) (hDb : ∀ v, at_ D v ≤ 9223372036854775807) (hDl : ∀ v, -9223372036854775808 ≤ at_ D v) :
    Calls Try.prog 65 #[gAgg n va vb vc, .int .i64 k, sv, .agg #[l1, l2, l3]] w fun e w' => e = .returned (.tuple #[.int .i64 (ckAns (okAt n st tl wt k V Y D B) n).1, .int .i64 (ckAns (okAt n st tl wt k V Y D B) n).2]) ∧ Below w.heap.size w w' := by
  have hn := hgd.n_le
  have htl : tl.length = 0 := by
    rcases Nat.eq_zero_or_pos tl.length with h | h
    · exact h
    · have := hgd.vtx 0 h; omega
  have hSe : S = [] := by
    rcases S with _ | ⟨s, S⟩
    · rfl
    · have := (hok 0 (by simp)).1; omega
  have hst : st.length ≤ 17592186044416 := by have := hgd.s_len; omega
  have hto : tl.length ≤ 17592186044416 := by have := hgd.m_le; omega
  have hwt : wt.length ≤ 17592186044416 := by have := hgd.w_len; have := hgd.m_le; omega
  obtain ⟨i0, hi, hz0, hz1, hz2⟩ := info_parts Try.info4b
  have HN0 := hide hn0; have HTL := hide htl; have HSE0 := hide hSe
  have hni : ¬ (0 : Int) < (n : Int) := by omega
  have hti : ¬ (0 : Int) < (tl.length : Int) := by omega
  clear htl hSe hn0
  obtain ⟨ao, ca, rfl⟩ := hg.s.shape
  obtain ⟨bo, cb, rfl⟩ := hg.t.shape
  obtain ⟨co, cc, rfl⟩ := hg.u.shape
  obtain ⟨so, sc, rfl, hsc, hscm⟩ := hs.shape
  obtain ⟨o1, k1, rfl⟩ := h1.shape
  obtain ⟨o2, k2, rfl⟩ := h2.shape
  obtain ⟨o3, k3, rfl⟩ := h3.shape
  obtain ⟨W1, hW1⟩ : ∃ W1, W1 = (w.alloc (.cells #[.int .i64 n, .slice ao st.length ca, .slice bo tl.length cb, .slice co wt.length cc] 32)).alloc (.cells #[.slice o1 V.length k1, .slice o2 Y.length k2, .slice o3 D.length k3] 103) := ⟨_, rfl⟩
  have hbW : Below w.heap.size w W1 := by rw [hW1]; exact below_alloc (below_alloc (Below.refl _ _) _) _
  have hA : W1.heap[w.heap.size]? = some (.cells #[.int .i64 n, .slice ao st.length ca, .slice bo tl.length cb, .slice co wt.length cc] 32 (0, 0)) := by
    rw [hW1, heap_alloc_old _ _ (by simp)]; exact heap_new _ _
  have hBx : W1.heap[w.heap.size + 1]? = some (.cells #[.slice o1 V.length k1, .slice o2 Y.length k2, .slice o3 D.length k3] 103 (0, 0)) := by
    rw [hW1]
    have := heap_new (w.alloc (.cells #[.int .i64 n, .slice ao st.length ca, .slice bo tl.length cb, .slice co wt.length cc] 32)) (.cells #[.slice o1 V.length k1, .slice o2 Y.length k2, .slice o3 D.length k3] 103)
    simpa using this
  have HSE := hide (refSearch_good n _ _ _ st tl wt k _ S W1 (hg.below hbW) hno hst hto hwt hwb (hs.below hbW) (fun j hj => (hok j hj).2.1) hS)
  have HG := hide (hg.below hbW); have HS := hide (hs.below hbW); have H1 := hide (h1.below hbW); have H2 := hide (h2.below hbW); have H3 := hide (h3.below hbW)
  have HBW := hide hbW; have HA := hide hA; have HBX := hide hBx; have HGD := hide hgd; have HWB := hide hwb; have HOK := hide hok; have HBG := hide hB; have HVB := hide hVb; have HDB := hide hDb; have HDLo := hide hDl; have HVL := hide hV; have HYL := hide hY; have HDL := hide hD
  have c0 := cell_of hA (i := 0) rfl
  have c1 := cell_of hA (i := 1) rfl
  have c2 := cell_of hA (i := 2) rfl
  have c3 := cell_of hA (i := 3) rfl
  obtain ⟨ok, hokd⟩ : ∃ ok, ok = okAt n st tl wt k V Y D B := ⟨_, rfl⟩
  have HO := hide hokd
  rw [← hokd]
  clear hokd
  unfold gAgg at HSE ⊢
  clear hg hs h1 h2 h3 hbW hA hBx hgd hwb hok hno hB hVb hDb hDl hV hY hD
  subst hW1
  go_enter Try.func65, Try.ntmps65
  go_wp2_with fail
  generalize ((w.alloc (.cells #[.int .i64 n, .slice ao st.length ca, .slice bo tl.length cb, .slice co wt.length cc] 32)).alloc (.cells #[.slice o1 V.length k1, .slice o2 Y.length k2, .slice o3 D.length k3] 103)) = W1 at HSE HG HS H1 H2 H3 HBW HA HBX c0 c1 c2 c3 ⊢
  refine HSE.out.mono ?_
  rintro e w2 ⟨Gx, Lx, rfl, _, _, _, hb2⟩
  have HB2 := hide hb2
  have HA2 := hide ((hb2.block _ (lt_of_heap HA.out)).trans HA.out)
  have HX2 := hide ((hb2.block _ (lt_of_heap HBX.out)).trans HBX.out)
  have d0 := cell_of HA2.out (i := 0) rfl
  have d1 := cell_of HA2.out (i := 1) rfl
  have d2 := cell_of HA2.out (i := 2) rfl
  have d3 := cell_of HA2.out (i := 3) rfl
  have v0 := cell_of HX2.out (i := 0) rfl
  have v1 := cell_of HX2.out (i := 1) rfl
  have v2 := cell_of HX2.out (i := 2) rfl
  have e1 : ((V.length : Int) != (n : Int)) = false := by rw [HVL.out]; simp
  have e2 : ((Y.length : Int) != (n : Int)) = false := by rw [HYL.out]; simp
  have e3 : ((D.length : Int) != (n : Int)) = false := by rw [HDL.out]; simp
  clear c0 c1 c2 c3 hb2 HSE
  go_wp2_with fail
  have HFR := hide (from_any n _ _ _ st tl wt w2 (HG.out.below HB2.out) HGD.out)
  unfold gAgg at HFR
  refine HFR.out.mono ?_
  rintro e w3 ⟨F0, rfl, hF0, hb3⟩
  have HB3 := hide (below_on HB2.out hb3)
  have HA3 := hide ((hb3.block _ (lt_of_heap HA2.out)).trans HA2.out)
  have c0 := cell_of HA3.out (i := 0) rfl
  clear d0 d1 d2 d3 v0 v1 v2 e1 e2 e3 hF0 hb3 HFR HA2 HX2
  go_wp2_with fail
  have HLZ : Hid (Calls Try.prog 114 #[.int .i64 (n : Int), .slice so S.length sc] w3 fun e w' => e = .returned (.slice none 0 0) ∧ Below w3.heap.size w3 w') := by
    rw [HN0.out]
    exact least_zero _ w3 (by have := HS.out.below HB3.out; rw [HSE0.out] at this ⊢; exact this)
  refine HLZ.out.mono ?_
  rintro e w4 ⟨rfl, hb4⟩
  have HB4 := hide (below_on HB3.out hb4)
  have HA4 := hide ((hb4.block _ (lt_of_heap HA3.out)).trans HA3.out)
  have c0 := cell_of HA4.out (i := 0) rfl
  clear hb4 HA3 HLZ
  go_wp2_with (at_make; refine wpList_make_full _ rfl _ _ 57 rfl w4.heap.size 4 i0 (.bool false) 1 Try.underlying57 hi hz0 hz1 _ _ _ _ n rfl rfl rfl rfl (by rw [hz2]; omega) (by unfold maxLen; omega) (Nat.le_refl _) ?_; intro w5 hown hgrow)
  have hb5 : Below w4.heap.size w4 w5 := (Below.refl _ _).grown hgrow (Nat.le_refl _) (by intro k hk; cases hk)
  have HA5 := hide ((hb5.block _ (lt_of_heap HA4.out)).trans HA4.out)
  have HB5 := hide (below_on HBW.out (below_on HB4.out hb5))
  have x0 := cell_of HA5.out (i := 0) rfl
  have x2 := cell_of HA5.out (i := 2) rfl
  have HANS : Hid (ckAns ok n = (0, 0)) := ck_none (fun u hu => by have := HN0.out; omega)
  clear hown hgrow hb5 c0
  refine wp_loop_rounds 1 ?_
  rw [rounds_succ]
  go_wp2
  refine wp_loop_rounds 1 ?_
  rw [rounds_succ]
  go_wp2
  go_ret2
  exact ⟨by rw [HANS.out]; rfl, HB5.out⟩
end Go.Proofs.Ythoklgdlnmccmaa

/- Both Checks: one answer. -/
namespace Go.Proofs.Ythoklgdlnmccmaa
open Go.RowKit Go.Lib
set_option linter.unusedVariables false
structure Checks2 (N : Int) (st tl wt : List Int) (k : Int) (S : List Pr) (V Y D : List Int) (x y : Int) : Prop where
  p : ∀ a b c sv l1 l2 l3 W, GIs W N a b c st tl wt → SAt W sv S → RowAt .u64 W l1 V → RowAt .i64 W l2 Y → RowAt .i64 W l3 D → Calls Try.prog 64 #[gAgg N a b c, .int .i64 k, sv, .agg #[l1, l2, l3]] W fun e w' => e = .returned (.tuple #[.int .i64 x, .int .i64 y]) ∧ Below W.heap.size W w'
  r : ∀ a b c sv l1 l2 l3 W, GIs W N a b c st tl wt → SAt W sv S → RowAt .u64 W l1 V → RowAt .i64 W l2 Y → RowAt .i64 W l3 D → Calls Try.prog 65 #[gAgg N a b c, .int .i64 k, sv, .agg #[l1, l2, l3]] W fun e w' => e = .returned (.tuple #[.int .i64 x, .int .i64 y]) ∧ Below W.heap.size W w'
theorem checks_both (N : Int) (st tl wt : List Int) (k : Int) (S : List Pr) (V Y D : List Int) (hst : st.length ≤ 17592186044416) (hto : tl.length ≤ 17592186044416) (hwt : wt.length ≤ 17592186044416) (hwb : ∀ e, 0 ≤ at_ wt e ∧ at_ wt e ≤ 18446744073709551615) (hw : ∀ j, j < S.length → 0 ≤ (sAt S j).2) (hS : S.length * 16 ≤ 140737488353280)
    (hVb : ∀ v, 0 ≤ at_ V v ∧ at_ V v ≤ 18446744073709551615) (hDb : ∀ v, at_ D v ≤ 9223372036854775807) (hDl : ∀ v, -9223372036854775808 ≤ at_ D v) : ∃ x y, Checks2 N st tl wt k S V Y D x y := by
  by_cases hno : srchNo N st tl wt k S = 0
  · by_cases hl : (V.length : Int) = N ∧ (Y.length : Int) = N ∧ (D.length : Int) = N
    · obtain ⟨n, rfl, hgd, hsn⟩ := srch_good hno
      have hok := sok_of hsn hw
      obtain ⟨B, hB⟩ := beg_is hok
      have hkd : 1 ≤ k ∧ k ≤ 4 := by
        unfold srchNo at hno
        by_cases hc : fstNo n st tl wt k = 0
        · exact (fst_good hc).1
        · rw [if_neg hc] at hno; exact absurd hno hc
      refine ⟨_, _, fun a b c sv l1 l2 l3 W h1 h2 h3 h4 h5 => check_good n a b c st tl wt k sv S l1 l2 l3 V Y D B W h1 hgd hwb h2 hok hS hno hkd hB h3 h4 h5 (by omega) (by omega) (by omega) hVb hDb, fun a b c sv l1 l2 l3 W h1 h2 h3 h4 h5 => ?_⟩
      rcases Nat.eq_zero_or_pos n with h0 | h0
      · exact refCheck_zero n a b c st tl wt k sv S l1 l2 l3 V Y D B W h1 hgd hwb h0 h2 hok hS hno hB h3 h4 h5 (by omega) (by omega) (by omega) hVb hDb hDl
      · exact refCheck_good n a b c st tl wt k sv S l1 l2 l3 V Y D B W h1 hgd hwb h0 h2 hok hS hno hB h3 h4 h5 (by omega) (by omega) (by omega) hVb hDb hDl
    · exact ⟨_, _, fun a b c sv l1 l2 l3 W h1 h2 h3 h4 h5 => check_len N a b c st tl wt k sv S l1 l2 l3 V Y D W h1 hst hto hwt h2 hno hl h3 h4 h5, fun a b c sv l1 l2 l3 W h1 h2 h3 h4 h5 => refCheck_len N a b c st tl wt k sv S l1 l2 l3 V Y D W h1 hst hto hwt h2 hS hwb hw hno hl h3 h4 h5⟩
  · exact ⟨_, _, fun a b c sv l1 l2 l3 W h1 h2 h3 h4 h5 => check_bad N a b c st tl wt k sv S l1 l2 l3 V Y D W h1 hst hto hwt h2 hno h3 h4 h5, fun a b c sv l1 l2 l3 W h1 h2 h3 h4 h5 => refCheck_bad N a b c st tl wt k sv S l1 l2 l3 V Y D W h1 hst hto hwt h2 hS hno h3 h4 h5⟩
end Go.Proofs.Ythoklgdlnmccmaa

/- VoucherChecks: the walk. -/
namespace Go.Proofs.Ythoklgdlnmccmaa
open Go.RowKit Go.Lib
set_option linter.unusedVariables false
theorem G2.lo {w : World} {b b' g1 c1 g2 c2 g3 c3 : Nat} {st tl wt : List Int} (h : G2 w b g1 c1 g2 c2 g3 c3 st tl wt) (hb : b' ≤ b) : G2 w b' g1 c1 g2 c2 g3 c3 st tl wt := ⟨h.s, h.t, h.u, Nat.le_trans hb h.b1, Nat.le_trans hb h.b2, Nat.le_trans hb h.b3⟩
theorem V2.lo {w : World} {b b' g1 c1 g2 c2 g3 c3 : Nat} {st tl wt : List Int} (h : V2 w b g1 c1 g2 c2 g3 c3 st tl wt) (hb : b' ≤ b) : V2 w b' g1 c1 g2 c2 g3 c3 st tl wt := ⟨h.s, h.t, h.u, Nat.le_trans hb h.b1, Nat.le_trans hb h.b2, Nat.le_trans hb h.b3⟩
theorem S2.lo {w : World} {b b' g c : Nat} {S : List Pr} (h : S2 w b g c S) (hb : b' ≤ b) : S2 w b' g c S := ⟨h.all, h.le, h.cap, Nat.le_trans hb h.b1⟩
set_option maxRecDepth 100000 in
theorem no_is (x : Int) (w : World) : Calls Try.prog 62 #[.int .i64 x] w fun e w' => e = .returned (.int .i64 x) ∧ w' = w := by
  go_enter Try.func62, Try.ntmps62
  go_wp2
  go_ret
  exact ⟨rfl, rfl⟩
set_option maxRecDepth 100000 in
set_option maxHeartbeats 8000000 in
theorem checks_law (N : Int) (va vb vc : Value) (st tl wt : List Int) (k : Int) (sv : Value) (S : List Pr) (l1 l2 l3 : Value) (V Y D : List Int) (w : World) (hg : GIs w N va vb vc st tl wt) (hst : st.length * 8 ≤ 140737488351232) (hto : tl.length * 8 ≤ 140737488351232) (hwt : wt.length * 8 ≤ 140737488351232) (hwb : ∀ e, 0 ≤ at_ wt e ∧ at_ wt e ≤ 18446744073709551615)
    (hs : SAt w sv S) (hw : ∀ j, j < S.length → 0 ≤ (sAt S j).2) (hS : S.length * 16 ≤ 140737488353280) (h1 : RowAt .u64 w l1 V) (h2 : RowAt .i64 w l2 Y) (h3 : RowAt .i64 w l3 D) (hV : V.length * 8 ≤ 140737488351232) (hY : Y.length * 8 ≤ 140737488351232) (hD : D.length * 8 ≤ 140737488351232) (hVb : ∀ v, 0 ≤ at_ V v ∧ at_ V v ≤ 18446744073709551615) (hDb : ∀ v, at_ D v ≤ 9223372036854775807) (hDl : ∀ v, -9223372036854775808 ≤ at_ D v) :
    Calls Try.prog 16 #[gAgg N va vb vc, .int .i64 k, sv, .agg #[l1, l2, l3]] w fun e w' => e = .returned (.bool true) ∧ Below w.heap.size w w' := by
  obtain ⟨xx, yy, hC⟩ := checks_both N st tl wt k S V Y D (by omega) (by omega) (by omega) hwb hw hS hVb hDb hDl
  have HP := hide hC.p
  have HR := hide hC.r
  clear hC hwb hw hVb hDb hDl
  obtain ⟨ao, ca, rfl⟩ := hg.s.shape
  obtain ⟨bo, cb, rfl⟩ := hg.t.shape
  obtain ⟨co, cc, rfl⟩ := hg.u.shape
  obtain ⟨so, sc, rfl, hsc, hscm⟩ := hs.shape
  obtain ⟨o1, k1, rfl⟩ := h1.shape
  obtain ⟨o2, k2, rfl⟩ := h2.shape
  obtain ⟨o3, k3, rfl⟩ := h3.shape
  obtain ⟨W1, hW1⟩ : ∃ W1, W1 = (w.alloc (.cells #[.int .i64 N, .slice ao st.length ca, .slice bo tl.length cb, .slice co wt.length cc] 32)).alloc (.cells #[.slice o1 V.length k1, .slice o2 Y.length k2, .slice o3 D.length k3] 103) := ⟨_, rfl⟩
  have hbW : Below w.heap.size w W1 := by rw [hW1]; exact below_alloc (below_alloc (Below.refl _ _) _) _
  have hA : W1.heap[w.heap.size]? = some (.cells #[.int .i64 N, .slice ao st.length ca, .slice bo tl.length cb, .slice co wt.length cc] 32 (0, 0)) := by
    rw [hW1, heap_alloc_old _ _ (by simp)]; exact heap_new _ _
  have hBx : W1.heap[w.heap.size + 1]? = some (.cells #[.slice o1 V.length k1, .slice o2 Y.length k2, .slice o3 D.length k3] 103 (0, 0)) := by
    rw [hW1]
    have := heap_new (w.alloc (.cells #[.int .i64 N, .slice ao st.length ca, .slice bo tl.length cb, .slice co wt.length cc] 32)) (.cells #[.slice o1 V.length k1, .slice o2 Y.length k2, .slice o3 D.length k3] 103)
    simpa using this
  have HO := hide (hold_any N _ _ _ st tl wt _ S _ _ _ V Y D W1 (hg.below hbW) hst hto hwt (hs.below hbW) hS (h1.below hbW) (h2.below hbW) (h3.below hbW) hV hY hD)
  have HG := hide (hg.below hbW); have HS := hide (hs.below hbW); have H1 := hide (h1.below hbW); have H2 := hide (h2.below hbW); have H3 := hide (h3.below hbW)
  have HBW := hide hbW; have HA := hide hA; have HBX := hide hBx
  have c0 := cell_of hA (i := 0) rfl
  have c1 := cell_of hA (i := 1) rfl
  have c2 := cell_of hA (i := 2) rfl
  have c3 := cell_of hA (i := 3) rfl
  have v0 := cell_of hBx (i := 0) rfl
  have v1 := cell_of hBx (i := 1) rfl
  have v2 := cell_of hBx (i := 2) rfl
  have hxx : (xx == xx) = true := by simp
  have hyy : (yy == yy) = true := by simp
  unfold gAgg at HO HP HR ⊢
  clear hg hs h1 h2 h3 hbW hA hBx
  subst hW1
  go_enter Try.func16, Try.ntmps16
  go_wp2_with fail
  generalize ((w.alloc (.cells #[.int .i64 N, .slice ao st.length ca, .slice bo tl.length cb, .slice co wt.length cc] 32)).alloc (.cells #[.slice o1 V.length k1, .slice o2 Y.length k2, .slice o3 D.length k3] 103)) = W1 at HO HG HS H1 H2 H3 HBW HA HBX c0 c1 c2 c3 v0 v1 v2 ⊢
  refine HO.out.mono ?_
  rintro e w2 ⟨g1, c1', g2, c2', g3, c3', g4, c4, g5, c5, g6, c6, g7, c7, rfl, hG, hSS, hVV, hb2⟩
  have hb3 := below_alloc (Below.refl w2.heap.size w2) (.cells #[.int .i64 N, .slice (some ⟨g1, 0, none⟩) st.length c1', .slice (some ⟨g2, 0, none⟩) tl.length c2', .slice (some ⟨g3, 0, none⟩) wt.length c3', .slice (some ⟨g4, 0, none⟩) S.length c4, .slice (some ⟨g5, 0, none⟩) V.length c5, .slice (some ⟨g6, 0, none⟩) Y.length c6, .slice (some ⟨g7, 0, none⟩) D.length c7] 105)
  have HH3 : Hid (HIs (w2.alloc (.cells #[.int .i64 N, .slice (some ⟨g1, 0, none⟩) st.length c1', .slice (some ⟨g2, 0, none⟩) tl.length c2', .slice (some ⟨g3, 0, none⟩) wt.length c3', .slice (some ⟨g4, 0, none⟩) S.length c4, .slice (some ⟨g5, 0, none⟩) V.length c5, .slice (some ⟨g6, 0, none⟩) Y.length c6, .slice (some ⟨g7, 0, none⟩) D.length c7] 105)) w2.heap.size N g1 c1' g2 c2' g3 c3' g4 c4 g5 c5 g6 c6 g7 c7 st tl wt S V Y D) :=
    ⟨heap_new _ _, (hG.below hb3).lo (Nat.zero_le _), (hSS.below hb3).lo (Nat.zero_le _), (hVV.below hb3).lo (Nat.zero_le _)⟩
  have HB3 := hide (below_on hb2 hb3)
  have r0 := cell_of HH3.out.hh (i := 0) rfl
  have r1 := cell_of HH3.out.hh (i := 1) rfl
  have r2 := cell_of HH3.out.hh (i := 2) rfl
  have r3 := cell_of HH3.out.hh (i := 3) rfl
  have r4 := cell_of HH3.out.hh (i := 4) rfl
  have r5 := cell_of HH3.out.hh (i := 5) rfl
  have r6 := cell_of HH3.out.hh (i := 6) rfl
  have r7 := cell_of HH3.out.hh (i := 7) rfl
  clear hG hSS hVV hb2 hb3 c0 c1 c2 c3 v0 v1 v2 HO
  go_wp2_with fail
  generalize hR : w2.heap.size = R at HH3 r0 r1 r2 r3 r4 r5 r6 r7 ⊢
  generalize (w2.alloc (.cells #[.int .i64 N, .slice (some ⟨g1, 0, none⟩) st.length c1', .slice (some ⟨g2, 0, none⟩) tl.length c2', .slice (some ⟨g3, 0, none⟩) wt.length c3', .slice (some ⟨g4, 0, none⟩) S.length c4, .slice (some ⟨g5, 0, none⟩) V.length c5, .slice (some ⟨g6, 0, none⟩) Y.length c6, .slice (some ⟨g7, 0, none⟩) D.length c7] 105)) = w3 at HH3 HB3 r0 r1 r2 r3 r4 r5 r6 r7 ⊢
  clear hR w2
  refine (HP.out _ _ _ _ _ _ _ w3 HH3.out.g.gis HH3.out.s.row HH3.out.v.s.row HH3.out.v.t.row HH3.out.v.u.row).mono ?_
  rintro e w4 ⟨rfl, hb4⟩
  have HB4 := hide (below_on HB3.out hb4)
  have HH4 := hide (HH3.out.below hb4)
  have HA4 := hide ((HB4.out.block _ (lt_of_heap HA.out)).trans HA.out)
  have HX4 := hide ((HB4.out.block _ (lt_of_heap HBX.out)).trans HBX.out)
  have c0 := cell_of HA4.out (i := 0) rfl
  have c1 := cell_of HA4.out (i := 1) rfl
  have c2 := cell_of HA4.out (i := 2) rfl
  have c3 := cell_of HA4.out (i := 3) rfl
  have v0 := cell_of HX4.out (i := 0) rfl
  have v1 := cell_of HX4.out (i := 1) rfl
  have v2 := cell_of HX4.out (i := 2) rfl
  clear hb4 r0 r1 r2 r3 r4 r5 r6 r7 HP HH3 HB3
  go_wp2_with fail
  refine (HR.out _ _ _ _ _ _ _ w4 (HG.out.below HB4.out) (HS.out.below HB4.out) (H1.out.below HB4.out) (H2.out.below HB4.out) (H3.out.below HB4.out)).mono ?_
  rintro e w5 ⟨rfl, hb5⟩
  have HB5 := hide (below_on HB4.out hb5)
  have HH5 := hide (HH4.out.below hb5)
  have HA5 := hide ((HB5.out.block _ (lt_of_heap HA.out)).trans HA.out)
  have HX5 := hide ((HB5.out.block _ (lt_of_heap HBX.out)).trans HBX.out)
  have d0 := cell_of HA5.out (i := 0) rfl
  have d1 := cell_of HA5.out (i := 1) rfl
  have d2 := cell_of HA5.out (i := 2) rfl
  have d3 := cell_of HA5.out (i := 3) rfl
  have u0 := cell_of HX5.out (i := 0) rfl
  have u1 := cell_of HX5.out (i := 1) rfl
  have u2 := cell_of HX5.out (i := 2) rfl
  clear hb5 c0 c1 c2 c3 v0 v1 v2 HR HH4 HB4 HA4 HX4
  go_wp2_with fail
  refine (no_is xx w5).mono ?_
  rintro e w6 ⟨rfl, rfl⟩
  have HKP := hide (kept_any R N _ _ _ st tl wt _ S _ _ _ V Y D g1 c1' g2 c2' g3 c3' g4 c4 g5 c5 g6 c6 g7 c7 _ HH5.out (HG.out.below HB5.out) hst hto hwt (HS.out.below HB5.out) hS (H1.out.below HB5.out) (H2.out.below HB5.out) (H3.out.below HB5.out) hV hY hD)
  unfold gAgg at HKP
  go_wp2_with fail
  refine HKP.out.mono ?_
  rintro e w7 ⟨rfl, hb7⟩
  have HEND := hide (below_on HBW.out (below_on HB5.out hb7))
  clear hb7 HKP
  go_wp2
  go_ret
  exact ⟨rfl, HEND.out⟩
end Go.Proofs.Ythoklgdlnmccmaa
