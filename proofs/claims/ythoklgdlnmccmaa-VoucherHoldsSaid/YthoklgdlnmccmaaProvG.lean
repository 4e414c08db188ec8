import Derived.Test.YthoklgdlnmccmaaCkA
import Derived.Test.YthoklgdlnmccmaaFound
import Derived.Test.YthoklgdlnmccmaaIterG
import Derived.Test.YthoklgdlnmccmaaVMk
import Derived.Test.YthoklgdlnmccmaaWaysW
/- A voucher that holds: its labels are the least ones. -/
namespace Go.Proofs.Ythoklgdlnmccmaa
open Go.RowKit Go.Lib
set_option linter.unusedVariables false
section
variable {n : Nat} {st tl wt : List Int} {k : Int} {S : List Pr} {V Y D B : List Int}
theorem abP_all {p v : Nat} (h : abP n st tl wt k V p v = false) : ∀ e, e < p → abE n st tl wt k V e v = false := by
  induction p with
  | zero => intro e he; omega
  | succ p ih =>
    simp only [abP, Bool.or_eq_false_iff] at h
    intro e he
    rcases Nat.lt_or_ge e p with h1 | h1
    · exact ih h.1 e h1
    · obtain rfl : e = p := by omega
      exact h.2
theorem tiP_ex {p v : Nat} (h : tiP n st tl wt k V Y D p v = true) : ∃ e, e < p ∧ tiE n st tl wt k V Y D e v = true := by
  induction p with
  | zero => simp [tiP] at h
  | succ p ih =>
    simp only [tiP, Bool.or_eq_true] at h
    rcases h with h | h
    · obtain ⟨e, h1, h2⟩ := ih h
      exact ⟨e, by omega, h2⟩
    · exact ⟨p, by omega, h⟩
/-- What a vertex of which all is so is like. -/
theorem ok_cases {v : Nat} (h : okAt n st tl wt k V Y D B v = true) : at_ V v ≤ at_ B v ∧ (∀ e, e < tl.length → abE n st tl wt k V e v = false) ∧ ((at_ Y v = -1 ∧ at_ D v = 0 ∧ at_ V v = at_ B v) ∨ (at_ Y v ≠ -1 ∧ ∃ e, e < tl.length ∧ tiE n st tl wt k V Y D e v = true)) := by
  unfold okAt hv at h
  by_cases h1 : at_ B v < at_ V v
  · rw [if_pos h1] at h; cases h
  rw [if_neg h1] at h
  cases h2 : abP n st tl wt k V tl.length v with
  | true => rw [h2] at h; simp at h
  | false =>
    rw [h2] at h
    simp only [Bool.false_eq_true, if_false] at h
    refine ⟨by omega, abP_all h2, ?_⟩
    by_cases h3 : at_ Y v = -1
    · rw [if_pos h3] at h
      simp only [decide_eq_true_eq] at h
      exact .inl ⟨h3, h⟩
    · rw [if_neg h3] at h
      exact .inr ⟨h3, tiP_ex h⟩
theorem ok_came (hgd : Good n st tl wt) (hB : Beg n S B S.length) (hok : ∀ v, v < n → okAt n st tl wt k V Y D B v = true) : ∀ d v : Nat, v < n → at_ D v = (d : Int) → at_ V v ≠ Nev → Came n st tl wt k S v (at_ V v) := by
  intro d
  induction d with
  | zero =>
    intro v hv hd hn
    obtain ⟨_, _, ⟨h1, h2, h3⟩ | ⟨h1, e, he, h2⟩⟩ := ok_cases (hok v hv)
    · rw [h3] at hn ⊢
      obtain ⟨i, hi, hs⟩ := hB.att v hv hn
      exact Came.start i v _ hi hv hs
    · simp only [tiE, decide_eq_true_eq] at h2
      omega
  | succ d ih =>
    intro v hv hd hn
    obtain ⟨_, _, ⟨h1, h2, h3⟩ | ⟨h1, e, he, h2⟩⟩ := ok_cases (hok v hv)
    · omega
    · simp only [tiE, decide_eq_true_eq] at h2
      obtain ⟨rfl, q1, q2, q3, q4, q5, q6⟩ := h2
      rw [q3]
      have hs : src st n e < n := src_lt hgd he
      exact Came.edge e _ he q1 (ih _ hs (by omega) q1)
/-- A voucher that holds has the labels of the search. -/
theorem ok_found (hgd : Good n st tl wt) (hB : Beg n S B S.length) (hV : V.length = n) (hVb : ∀ v, 0 ≤ at_ V v ∧ at_ V v ≤ 18446744073709551615) (hok : ∀ v, v < n → okAt n st tl wt k V Y D B v = true) : Found n st tl wt k S V := by
  refine ⟨hV, fun v _ => hVb v, fun e he => ?_, fun v hv hn => ?_, fun j hj => ?_, fun v hv hn => ?_⟩
  · have ht := (tov_lt hgd he).1
    have h := (ok_cases (hok _ ht)).2.1 e he
    simp only [abE, decide_eq_false_iff_not] at h
    by_cases hn : at_ V (src st n e) = Nev
    · rw [hn]; unfold ext Nev; rw [if_pos rfl]; exact (hVb _).2
    · exact Int.not_lt.1 fun hlt => h ⟨trivial, hn, hlt⟩
  · obtain ⟨_, _, ⟨h1, h2, h3⟩ | ⟨h1, e, he, h2⟩⟩ := ok_cases (hok v hv)
    · rw [h3] at hn ⊢
      exact .inl (hB.att v hv hn)
    · simp only [tiE, decide_eq_true_eq] at h2
      exact .inr ⟨e, he, h2.1, h2.2.2.2.1.symm⟩
  · obtain ⟨v, hv, h1, h2⟩ := hB.sts j hj
    have := (ok_cases (hok v hv)).1
    exact ⟨v, hv, h1, by omega⟩
  · obtain ⟨_, _, ⟨h1, h2, h3⟩ | ⟨h1, e, he, h2⟩⟩ := ok_cases (hok v hv)
    · exact ok_came hgd hB hok 0 v hv h2 hn
    · simp only [tiE, decide_eq_true_eq] at h2
      exact ok_came hgd hB hok (at_ D v).toNat v hv (by omega) hn
end
end Go.Proofs.Ythoklgdlnmccmaa

/- ends: going back by By ends behind Depth edges: plain. -/
namespace Go.Proofs.Ythoklgdlnmccmaa
open Go.RowKit Go.Lib
set_option linter.unusedVariables false
/-- Each vertex has no edge and the depth 0, or an edge to it from one that is one less deep. -/
structure TO (n : Nat) (st tl : List Int) (Y D : List Int) : Prop where
  two : ∀ v, v < n → (at_ Y v = -1 ∧ at_ D v = 0) ∨ (∃ e, e < tl.length ∧ at_ Y v = (e : Int) ∧ tov tl e = v ∧ 0 ≤ at_ D (src st n e) ∧ at_ D v = at_ D (src st n e) + 1)
theorem TO.nn {n : Nat} {st tl Y D : List Int} (h : TO n st tl Y D) {v : Nat} (hv : v < n) : 0 ≤ at_ D v := by
  rcases h.two v hv with ⟨_, h1⟩ | ⟨e, _, _, _, h1, h2⟩ <;> omega
def cl (D : List Int) (m : Int) : Nat → Nat
  | 0 => 0
  | j + 1 => cl D m j + (if at_ D j < m then 1 else 0)
theorem cl_le (D : List Int) (m : Int) (j : Nat) : cl D m j ≤ j := by
  induction j with
  | zero => exact Nat.le_refl _
  | succ j ih => simp only [cl]; split <;> omega
theorem cl_mono (D : List Int) (m : Int) (j : Nat) : cl D m j ≤ cl D (m + 1) j := by
  induction j with
  | zero => exact Nat.le_refl _
  | succ j ih => simp only [cl]; split <;> split <;> omega
theorem cl_lt (D : List Int) (m : Int) (j v : Nat) (hv : v < j) (h : at_ D v = m) : cl D m j + 1 ≤ cl D (m + 1) j := by
  induction j with
  | zero => omega
  | succ j ih =>
    simp only [cl]
    rcases Nat.lt_or_ge v j with h1 | h1
    · have := ih h1
      split <;> split <;> omega
    · obtain rfl : v = j := by omega
      have := cl_mono D m v
      rw [if_neg (by omega), if_pos (by omega)]
      omega
theorem TO.levels {n : Nat} {st tl wt Y D : List Int} (hg : Good n st tl wt) (h : TO n st tl Y D) : ∀ d v : Nat, v < n → at_ D v = (d : Int) → ∀ m : Nat, m ≤ d → ∃ u, u < n ∧ at_ D u = (m : Int) := by
  intro d
  induction d with
  | zero => intro v hv hd m hm; exact ⟨v, hv, by omega⟩
  | succ d ih =>
    intro v hv hd m hm
    rcases Nat.lt_or_ge m (d + 1) with h1 | h1
    · rcases h.two v hv with ⟨_, h2⟩ | ⟨e, he, _, _, h2, h3⟩
      · omega
      · exact ih _ (src_lt hg he) (by omega) m (by omega)
    · exact ⟨v, hv, by omega⟩
theorem TO.few {n : Nat} {st tl wt Y D : List Int} (hg : Good n st tl wt) (h : TO n st tl Y D) {v : Nat} (hv : v < n) : at_ D v < (n : Int) := by
  have h0 := h.nn hv
  obtain ⟨d, hd⟩ : ∃ d : Nat, at_ D v = (d : Int) := ⟨(at_ D v).toNat, by omega⟩
  have key : ∀ m : Nat, m ≤ d + 1 → m ≤ cl D (m : Int) n := by
    intro m
    induction m with
    | zero => intro _; exact Nat.zero_le _
    | succ m ih =>
      intro hm
      obtain ⟨u, hu, hum⟩ := h.levels hg d v hv hd m (by omega)
      have := cl_lt D (m : Int) n u hu hum
      have := ih (by omega)
      have e : ((m + 1 : Nat) : Int) = (m : Int) + 1 := by omega
      rw [e]
      omega
  have := key (d + 1) (Nat.le_refl _)
  have := cl_le D ((d + 1 : Nat) : Int) n
  omega
/-- A voucher that holds is such a tree. -/
theorem ok_to {n : Nat} {st tl wt : List Int} {k : Int} {V Y D B : List Int} (hok : ∀ v, v < n → okAt n st tl wt k V Y D B v = true) : TO n st tl Y D := ⟨fun v hv => by
  obtain ⟨_, _, ⟨h1, h2, h3⟩ | ⟨h1, e, he, h2⟩⟩ := ok_cases (hok v hv)
  · exact .inl ⟨h1, h2⟩
  · simp only [tiE, decide_eq_true_eq] at h2
    obtain ⟨q0, q1, q2, q3, q4, q5, q6⟩ := h2
    exact .inr ⟨e, he, q2, q0, q4, by omega⟩⟩
end Go.Proofs.Ythoklgdlnmccmaa

/- ends: the walk. -/
namespace Go.Proofs.Ythoklgdlnmccmaa
open Go.RowKit Go.Lib
set_option linter.unusedVariables false
theorem eAt_upto {f : Nat → Ed3} {m e : Nat} (h : e < m) : eAt (upto f m) e = f e := by
  unfold eAt upto
  rw [List.getElem?_map, List.getElem?_range h]
  rfl
/-- The edges' row is read. -/
theorem edge_cells {w : World} {R n : Nat} {st tl wt : List Int} (h : ERow w (.slice (some ⟨R, 0, none⟩) tl.length tl.length) (upto (edgeAt n st tl wt) tl.length)) {e : Nat} (he : e < tl.length) :
    w.cell? ⟨R, e * 3, none⟩ = some (.int .i64 (src st n e : Nat)) ∧ w.cell? ⟨R, e * 3 + 1, none⟩ = some (.int .i64 (at_ tl e)) := by
  have h2 : ERow w (.slice (some ⟨R, 0, none⟩) (upto (edgeAt n st tl wt) tl.length).length tl.length) (upto (edgeAt n st tl wt) tl.length) := by rw [upto_len]; exact h
  rcases h2 with ⟨h, _⟩ | ⟨g, c', hv, h1, h2, h3⟩
  · cases h
  · cases hv
    obtain ⟨p, q, r⟩ := h3 e (by rw [upto_len]; exact he)
    rw [eAt_upto he] at p q
    exact ⟨p, q⟩
set_option maxRecDepth 100000 in
set_option maxHeartbeats 8000000 in
theorem ends_any (n : Nat) (va vb vc : Value) (st tl wt : List Int) (l1 l2 l3 : Value) (Y D : List Int) (w : World) (hg : GIs w n va vb vc st tl wt) (hgd : Good n st tl wt) (hchk : (chk n st tl wt).1 = 0) (h2 : RowAt .i64 w l2 Y) (h3 : RowAt .i64 w l3 D) (hY : Y.length = n) (hD : D.length = n) (ht : TO n st tl Y D) :
    Calls Try.prog 68 #[gAgg n va vb vc, .agg #[l1, l2, l3]] w fun e w' => e = .returned (.bool true) ∧ Below w.heap.size w w' := by
  obtain ⟨ao, ca, rfl⟩ := hg.s.shape
  obtain ⟨bo, cb, rfl⟩ := hg.t.shape
  obtain ⟨co, cc, rfl⟩ := hg.u.shape
  obtain ⟨yo, cy, rfl⟩ := h2.shape
  obtain ⟨zo, cz, rfl⟩ := h3.shape
  have hn := hgd.n_le
  have hml := hgd.m_le
  have HED := hide (fun W h => edges_good n (.slice ao st.length ca) (.slice bo tl.length cb) (.slice co wt.length cc) st tl wt W h hgd hchk)
  have HG := hide hg
  have HR2 := hide (fun W (h : Below w.heap.size w W) i (hi : i < n) => (h2.below h).cellAt i (by omega))
  have HR3 := hide (fun W (h : Below w.heap.size w W) i (hi : i < n) => (h3.below h).cellAt i (by omega))
  rw [hY] at HR2 ⊢
  rw [hD] at HR3 ⊢
  have HTO := hide ht
  have HGD := hide hgd
  obtain ⟨w1, hw1⟩ : ∃ w1, w1 = (w.alloc (.cells #[.int .i64 n, .slice ao st.length ca, .slice bo tl.length cb, .slice co wt.length cc] 32)).alloc (.cells #[l1, .slice yo n cy, .slice zo n cz] 103) := ⟨_, rfl⟩
  have bg : w1.heap[w.heap.size]? = some (.cells #[.int .i64 n, .slice ao st.length ca, .slice bo tl.length cb, .slice co wt.length cc] 32 (0, 0)) := by rw [hw1]; exact (Below.heap_alloc _ _ _ (by simp)).trans (heap_new _ _)
  have bv : w1.heap[w.heap.size + 1]? = some (.cells #[l1, .slice yo n cy, .slice zo n cz] 103 (0, 0)) := by
    have := heap_new (w.alloc (.cells #[.int .i64 n, .slice ao st.length ca, .slice bo tl.length cb, .slice co wt.length cc] 32)) (.cells #[l1, .slice yo n cy, .slice zo n cz] 103)
    rw [World.size_alloc] at this
    rw [hw1]; exact this
  have b1 : Below w.heap.size w w1 := by rw [hw1]; exact below_alloc (below_alloc (Below.refl _ _) _) _
  have c0 := cell_of bg (i := 0) rfl
  have c1 := cell_of bg (i := 1) rfl
  have c2 := cell_of bg (i := 2) rfl
  have c3 := cell_of bg (i := 3) rfl
  have HBG := hide bg; have HBV := hide bv; have HB1 := hide b1
  unfold gAgg at HED ⊢
  clear hg hgd hchk h2 h3 ht bg bv b1
  rw [hw1] at c0 c1 c2 c3
  go_enter Try.func68, Try.ntmps68
  go_wp2_with fail
  rw [← hw1] at *
  clear hw1
  refine (HED.out w1 (HG.out.below HB1.out)).mono ?_
  rintro e w2 ⟨R, rfl, hE, hb2, hR⟩
  obtain ⟨w3, hw3⟩ : ∃ w3, w3 = w2.alloc (.cells #[.int .i64 n, .slice (some ⟨R, 0, none⟩) tl.length tl.length] 64) := ⟨_, rfl⟩
  have b3 : Below w2.heap.size w2 w3 := by rw [hw3]; exact below_alloc (Below.refl _ _) _
  have bE : Below w1.heap.size w1 w3 := below_on hb2 b3
  have gg := (bE.block _ (lt_of_heap HBG.out)).trans HBG.out
  have gv := (bE.block _ (lt_of_heap HBV.out)).trans HBV.out
  have gr : w3.heap[w2.heap.size]? = some (.cells #[.int .i64 n, .slice (some ⟨R, 0, none⟩) tl.length tl.length] 64 (0, 0)) := by rw [hw3]; exact heap_new _ _
  have HE := hide (hE.below b3)
  have HB3 := hide (below_on HB1.out bE)
  have HGG := hide gg; have HGV := hide gv; have HGR := hide gr
  have d0 := cell_of gg (i := 0) rfl
  have d1 := cell_of gg (i := 1) rfl
  have d2 := cell_of gg (i := 2) rfl
  have d3 := cell_of gr (i := 0) rfl
  have d4 := cell_of gr (i := 1) rfl
  clear HED HG HBG HBV HB1 c0 c1 c2 c3 hE hb2 hR b3 bE gg gv gr
  rw [hw3] at d0 d1 d2 d3 d4
  go_wp2_with (first | (go_at_call 62; refine (no_any _ _).mono ?_; rintro e9 w9 ⟨rfl, rfl⟩))
  rw [← hw3] at *
  clear hw3 d0 d1 d2 d3 d4
  go_loopw [7] (fun t wr => ∃ i : Nat, t = .int .i64 i ∧ i ≤ n ∧ Below w3.heap.size w3 wr) (fun t _ => n - (RowKit.intOf t).toNat)
  case atStart => exact ⟨0, rfl, Nat.zero_le _, Below.refl _ _⟩
  case round =>
    obtain ⟨i, rfl, hin, hbr⟩ := hrel
    have HBR := hide hbr
    have g0 := cell_of ((hbr.block _ (lt_of_heap HGG.out)).trans HGG.out) (i := 0) rfl
    by_cases hlt : i < n
    · have hli : (i : Int) < (n : Int) := by omega
      clear hbr
      go_wp2_with fail
      clear g0
      go_loopw [8, 9] (fun a s wr => ∃ u q : Nat, a = .int .i64 u ∧ s = .int .i64 q ∧ u < n ∧ at_ D u + q = at_ D i ∧ Below w3.heap.size w3 wr) (fun _ s _ => n - (RowKit.intOf s).toNat)
      case atStart => exact ⟨i, 0, rfl, rfl, hlt, by simp, HBR.out⟩
      case round =>
        obtain ⟨u, q, rfl, rfl, hun, hdq, hbr⟩ := hrel
        have hfew := HTO.out.few HGD.out hlt
        have hnn := HTO.out.nn hun
        have hqn : (q : Int) < (n : Int) := by omega
        have k1 := (hbr.block _ (lt_of_heap HGG.out)).trans HGG.out
        have k2 := (hbr.block _ (lt_of_heap HGV.out)).trans HGV.out
        have k3 := (hbr.block _ (lt_of_heap HGR.out)).trans HGR.out
        have g0 := cell_of k1 (i := 0) rfl
        have v1 := cell_of k2 (i := 1) rfl
        have v2 := cell_of k2 (i := 2) rfl
        have r1 := cell_of k3 (i := 1) rfl
        have hlow := below_on HB3.out hbr
        obtain ⟨gy, oy, cy', hsy, hcy, y1⟩ := HR2.out wr hlow u hun
        simp only [Value.slice.injEq, true_and] at hsy
        obtain ⟨rfl, rfl⟩ := hsy
        obtain ⟨gz, oz, cz', hsz, hcz, z1⟩ := HR3.out wr hlow i hlt
        simp only [Value.slice.injEq, true_and] at hsz
        obtain ⟨rfl, rfl⟩ := hsz
        have hui : (u : Int) < (n : Int) := by omega
        have HBQ := hide hbr
        clear hlow k1 k2 k3
        rcases HTO.out.two u hun with ⟨e1, e2⟩ | ⟨e, he, e1, e2, e3, e4⟩
        · rw [e1] at y1
          have e5 : at_ D i = (q : Int) := by omega
          rw [e5] at z1
          clear hbr
          go_wp2_with fail
          exact ⟨⟨i + 1, by simp, by omega, HBQ.out⟩, by simp [RowKit.intOf]; omega⟩
        · obtain ⟨f1, f2⟩ := edge_cells (HE.out.below hbr) he
          rw [e1] at y1
          have f3 : at_ tl e = (u : Int) := by have := (tov_lt HGD.out he).2; rw [this, e2]
          rw [f3] at f2
          have HSL := hide (src_lt HGD.out he)
          obtain ⟨s, hs⟩ : ∃ s, s = src st n e := ⟨_, rfl⟩
          rw [← hs] at f1 e3 e4 HSL
          clear hs
          have hei : (e : Int) < (tl.length : Int) := by omega
          have hqn2 : (q : Int) ≤ (n : Int) := by omega
          clear hbr
          go_wp2_with fail
          go_quiet (fail)
          go_wp2_with fail
          go_quiet (fail)
          go_wp2
          exact ⟨⟨s, q + 1, rfl, by simp, HSL.out, by omega, below_drewN HBQ.out _⟩, by simp [RowKit.intOf]; omega⟩
    · obtain rfl : i = n := by omega
      clear hbr
      go_wp2_with fail
      go_ret
      exact ⟨rfl, below_on HB3.out HBR.out⟩
end Go.Proofs.Ythoklgdlnmccmaa

/- The fixed graph of heads: plain. -/
namespace Go.Proofs.Ythoklgdlnmccmaa
open Go.RowKit Go.Lib
set_option linter.unusedVariables false
def xSt : List Int := [0, 2, 2, 3, 4]
def xTl : List Int := [1, 2, 1, 0]
def xWt : List Int := [4, 1, 2, 5]
def xS : List Pr := [(0, 0)]
def xL : List Int := [0, 3, 1, 18446744073709551615]
def xY : List Int := [-1, 2, 1, -1]
def xD : List Int := [0, 2, 1, 0]
def xB : List Int := [0, 18446744073709551615, 18446744073709551615, 18446744073709551615]
theorem xchk : (chk (4 : Nat) xSt xTl xWt).1 = 0 := by decide +kernel
theorem xgood : Good 4 xSt xTl xWt := by
  obtain ⟨n, h, hg⟩ := chk_good xchk
  have : n = 4 := by omega
  subst this
  exact hg
theorem xno : srchNo (4 : Nat) xSt xTl xWt 1 xS = 0 := by decide +kernel
theorem xsok : Sok 4 xS := by
  intro j hj
  have : j = 0 := by simp [xS] at hj; omega
  subst this
  decide +kernel
theorem xbeg : Beg 4 xS xB xS.length := by
  have h := beg_step (beg_zero 4 xS) (j := 0) (v := 0) (by decide) xsok (by decide)
  exact h
theorem xwb : ∀ e, 0 ≤ at_ xWt e ∧ at_ xWt e ≤ 18446744073709551615 := by
  intro e
  match e with
  | 0 => decide
  | 1 => decide
  | 2 => decide
  | 3 => decide
  | e + 4 => simp [xWt, at_]
theorem xok : ∀ v, v < 4 → okAt 4 xSt xTl xWt 1 xL xY xD xB v = true := by
  intro v hv
  match v, hv with
  | 0, _ => decide +kernel
  | 1, _ => decide +kernel
  | 2, _ => decide +kernel
  | 3, _ => decide +kernel
theorem xlb : ∀ v, 0 ≤ at_ xL v ∧ at_ xL v ≤ 18446744073709551615 := by
  intro v
  match v with
  | 0 => decide
  | 1 => decide
  | 2 => decide
  | 3 => decide
  | v + 4 => simp [xL, at_]
theorem xfound : Found 4 xSt xTl xWt 1 xS xL := ok_found xgood xbeg rfl xlb xok
theorem xwhole : Whole 4 xSt xTl xWt 1 xS xL xD xY := by
  refine ⟨4, ⟨rfl, rfl, fun v hv => ?_, fun v hv => ?_⟩, still_at xgood⟩
  · match v, hv with
    | 0, _ => decide +kernel
    | 1, _ => decide +kernel
    | 2, _ => decide +kernel
    | 3, _ => decide +kernel
  · match v, hv with
    | 0, _ => decide +kernel
    | 1, _ => decide +kernel
    | 2, _ => decide +kernel
    | 3, _ => decide +kernel
theorem xck1 : ckAns (okAt 4 xSt xTl xWt 1 xL xY xD xB) 4 = (0, 0) := ck_none xok
theorem xck2 : ckAns (okAt 4 xSt xTl xWt 1 (xL.set 1 4) xY xD xB) 4 = (53, 1) := by decide +kernel
/-- What Make answers; its labels are new memory. -/
def MadeN (w : World) (n : Nat) (st tl wt : List Int) (k : Int) (S : List Pr) (e : Ending) (w' : World) : Prop :=
  ∃ (G GY GD : Nat) (L Y D : List Int), e = .returned (.tuple #[.agg #[.slice (some ⟨G, 0, none⟩) n n, .slice (some ⟨GY, 0, none⟩) n n, .slice (some ⟨GD, 0, none⟩) n n], .int .i64 0]) ∧ ArrU w' G L ∧ Arr w' GY Y ∧ Arr w' GD D ∧ Found n st tl wt k S L ∧ Whole n st tl wt k S L D Y ∧ Below w.heap.size w w' ∧ w.heap.size ≤ G
set_option maxRecDepth 100000 in
set_option maxHeartbeats 4000000 in
theorem make_new (n : Nat) (va vb vc : Value) (st tl wt : List Int) (k : Int) (sv : Value) (S : List Pr) (w : World) (hg : GIs w n va vb vc st tl wt) (hgd : Good n st tl wt) (hwb : ∀ e, 0 ≤ at_ wt e ∧ at_ wt e ≤ 18446744073709551615)
    (hs : SAt w sv S) (hok : Sok n S) (hS : S.length * 16 ≤ 140737488353280) (hno : srchNo n st tl wt k S = 0) :
    Calls Try.prog 59 #[gAgg n va vb vc, .int .i64 k, sv] w (MadeN w n st tl wt k S) := by
  obtain ⟨ao, ca, rfl⟩ := hg.s.shape
  obtain ⟨bo, cb, rfl⟩ := hg.t.shape
  obtain ⟨co, cc, rfl⟩ := hg.u.shape
  obtain ⟨so, sc, rfl, hsc, hscm⟩ := hs.shape
  have hSb : ∀ j, j < S.length → 0 ≤ (sAt S j).2 ∧ (sAt S j).2 ≤ 18446744073709551615 := fun j hj => by have := (hok j hj).2; omega
  have HSE := hide (fun a b c v W h h2 => rsearch_good n a b c st tl wt k v S W h hgd hwb h2 hok hS hno)
  have HTR := hide (fun a b c v lv L W h h2 h3 h4 => tree_good n a b c st tl wt k v S lv L W h hno hwb h2 hSb hS h3 h4)
  have HK1 := hide (MK.start w n (.slice ao st.length ca) (.slice bo tl.length cb) (.slice co wt.length cc))
  have HG := hide hg; have HS := hide hs
  have hn := hgd.n_le
  have c0 := cell_of HK1.out.bg (i := 0) rfl
  have c1 := cell_of HK1.out.bg (i := 1) rfl
  have c2 := cell_of HK1.out.bg (i := 2) rfl
  have c3 := cell_of HK1.out.bg (i := 3) rfl
  unfold gAgg at HSE HTR ⊢
  clear hg hs hgd hwb hok hno hSb
  go_enter Try.func59, Try.ntmps59
  go_wp2_with fail
  generalize ((w.alloc (.cells #[.int .i64 n, .slice ao st.length ca, .slice bo tl.length cb, .slice co wt.length cc] 32)).alloc (.cells #[.slice none 0 0, .slice none 0 0, .slice none 0 0] 103)) = w1 at c0 c1 c2 c3 HK1 ⊢
  refine (HSE.out _ _ _ _ w1 (HG.out.below HK1.out.bel) (HS.out.below HK1.out.bel)).mono ?_
  rintro e w2 ⟨G, L, rfl, hG, hA, hF, hb2⟩
  have HK2 := hide (HK1.out.below hb2)
  have HA2 := hide hA; have HF := hide hF
  have HGN : Hid (w.heap.size ≤ G) := Nat.le_trans HK1.out.bel.size hG
  have d0 := cell_of HK2.out.bg (i := 0) rfl
  have d1 := cell_of HK2.out.bg (i := 1) rfl
  have d2 := cell_of HK2.out.bg (i := 2) rfl
  have d3 := cell_of HK2.out.bg (i := 3) rfl
  clear c0 c1 c2 c3 HK1 hb2 hA hF hG HSE
  go_wp2_with fail
  refine (HTR.out _ _ _ _ _ L w2 (HG.out.below HK2.out.bel) (HS.out.below HK2.out.bel) (HA2.out.row HF.out.len (by omega)) HF.out).mono ?_
  rintro e w3 ⟨GY, GD, Y, D, rfl, hY, hD, hW, hb3⟩
  have HK3 := hide (HK2.out.below hb3)
  have HA3 : Hid (ArrU w3 G L) := (hb3.block _ (lt_of_heap HA2.out)).trans HA2.out
  have HY := hide hY; have HD := hide hD; have HW := hide hW
  have t0 := cell_of HK3.out.rs (i := 0) rfl
  have t1 := cell_of HK3.out.rs (i := 1) rfl
  have t2 := cell_of HK3.out.rs (i := 2) rfl
  have u0 := free_of HK3.out.rs 0
  have u1 := free_of HK3.out.rs 1
  have u2 := free_of HK3.out.rs 2
  have HPU := hide (HK3.out.put (.slice (some ⟨G, 0, none⟩) n n) (.slice (some ⟨GY, 0, none⟩) n n) (.slice (some ⟨GD, 0, none⟩) n n))
  clear hb3 hY hD hW d0 d1 d2 d3 HK2 HA2 HTR
  go_wp2
  exact bodyPost_ret (results_cell2 Try.results59 _ _ (w.heap.size + 1) 103 _ (0, 0) _ rfl HPU.out.1 Try.underlying103 rfl (by kernel_rfl) (.int .i64 0) rfl) rfl
    ⟨G, GY, GD, L, Y, D, rfl, (HPU.out.2.2 _ (arru_ne' HA3.out HK3.out.rs (by decide))).trans HA3.out, (HPU.out.2.2 _ (arr_ne' HY.out HK3.out.rs (by decide))).trans HY.out, (HPU.out.2.2 _ (arr_ne' HD.out HK3.out.rs (by decide))).trans HD.out, HF.out, HW.out, HPU.out.2.1, HGN.out⟩
theorem four_new (w : World) (o1 o2 o3 o4 : Obj) : ((((w.alloc o1).alloc o2).alloc o3).alloc o4).heap[w.heap.size]? = some o1 ∧ ((((w.alloc o1).alloc o2).alloc o3).alloc o4).heap[w.heap.size + 1]? = some o2 ∧ ((((w.alloc o1).alloc o2).alloc o3).alloc o4).heap[w.heap.size + 1 + 1]? = some o3 ∧ ((((w.alloc o1).alloc o2).alloc o3).alloc o4).heap[w.heap.size + 1 + 1 + 1]? = some o4 ∧ Below w.heap.size w ((((w.alloc o1).alloc o2).alloc o3).alloc o4) := by
  refine ⟨?_, ?_, ?_, ?_, below_alloc (below_alloc (below_alloc (below_alloc (Below.refl _ _) _) _) _) _⟩
  · exact (Below.heap_alloc _ _ _ (by first | (simp; done) | (simp; omega))).trans ((Below.heap_alloc _ _ _ (by first | (simp; done) | (simp; omega))).trans ((Below.heap_alloc _ _ _ (by first | (simp; done) | (simp; omega))).trans (heap_new _ _)))
  · have := heap_new (w.alloc o1) o2
    rw [World.size_alloc] at this
    exact (Below.heap_alloc _ _ _ (by first | (simp; done) | (simp; omega))).trans ((Below.heap_alloc _ _ _ (by first | (simp; done) | (simp; omega))).trans this)
  · have := heap_new ((w.alloc o1).alloc o2) o3
    rw [World.size_alloc, World.size_alloc] at this
    exact (Below.heap_alloc _ _ _ (by first | (simp; done) | (simp; omega))).trans this
  · have := heap_new (((w.alloc o1).alloc o2).alloc o3) o4
    rw [World.size_alloc, World.size_alloc, World.size_alloc] at this
    exact this
theorem Try.results116 : Try.f116.results = #[.cell 0 32] := by kernel_rfl
def ExW (w : World) (e : Ending) (w' : World) : Prop := ∃ a b c, e = .returned (.agg #[.int .i64 (4 : Nat), .slice (some ⟨a, 0, none⟩) 5 5, .slice (some ⟨b, 0, none⟩) 4 4, .slice (some ⟨c, 0, none⟩) 4 4]) ∧ Arr w' a xSt ∧ Arr w' b xTl ∧ ArrU w' c xWt ∧ Below w.heap.size w w'
theorem example_any (w : World) : Calls Try.prog 116 #[] w (ExW w) := by
  go_enter Try.func116, Try.ntmps116
  go_wp2
  obtain ⟨z1, z2, z3, z4, z5⟩ := four_new w (.cells #[.int .i64 4, .slice (some ⟨w.heap.size + 1, 0, none⟩) 5 5, .slice (some ⟨w.heap.size + 1 + 1, 0, none⟩) 4 4, .slice (some ⟨w.heap.size + 1 + 1 + 1, 0, none⟩) 4 4] 32) (.cells #[.int .i64 0, .int .i64 2, .int .i64 2, .int .i64 3, .int .i64 4] 3) (.cells #[.int .i64 1, .int .i64 2, .int .i64 1, .int .i64 0] 3) (.cells #[.int .u64 4, .int .u64 1, .int .u64 2, .int .u64 5] 22)
  exact bodyPost_ret (results_cell_row Try.results116 _ _ w.heap.size 32 _ (0, 0) _ rfl z1 Try.underlying32 rfl (by kernel_rfl)) rfl ⟨_, _, _, rfl, z2, z3, z4, z5⟩
end Go.Proofs.Ythoklgdlnmccmaa

/- heads: the walk. -/
namespace Go.Proofs.Ythoklgdlnmccmaa
open Go.RowKit Go.Lib
set_option linter.unusedVariables false
theorem umap_inj : ∀ {l m : List Int}, l.map (Value.int .u64) = m.map (Value.int .u64) → l = m
  | [], [], _ => rfl
  | [], _ :: _, h => by cases h
  | _ :: _, [], h => by cases h
  | a :: l, b :: m, h => by
    simp only [List.map_cons, List.cons.injEq, Value.int.injEq, true_and] at h
    rw [h.1, umap_inj h.2]
theorem ucells_inj {l m : List Int} (h : uCells l = uCells m) : l = m := umap_inj (by simpa [uCells] using congrArg Array.toList h)
/-- The graph's lists and the start in memory. -/
structure XM (w : World) (a b c s : Nat) : Prop where
  la : Arr w a xSt
  lb : Arr w b xTl
  lc : ArrU w c xWt
  ls : w.heap[s]? = some (.cells #[.int .i64 0, .int .u64 0] 41 (0, 0))
theorem XM.below {w w' : World} {a b c s : Nat} (h : XM w a b c s) (hb : Below w.heap.size w w') : XM w' a b c s :=
  ⟨(hb.block _ (lt_of_heap h.la)).trans h.la, (hb.block _ (lt_of_heap h.lb)).trans h.lb, (hb.block _ (lt_of_heap h.lc)).trans h.lc, (hb.block _ (lt_of_heap h.ls)).trans h.ls⟩
theorem XM.gis {w : World} {a b c s : Nat} (h : XM w a b c s) : GIs w (4 : Nat) (.slice (some ⟨a, 0, none⟩) 5 5) (.slice (some ⟨b, 0, none⟩) 4 4) (.slice (some ⟨c, 0, none⟩) 4 4) xSt xTl xWt :=
  ⟨h.la.row rfl (by decide), h.lb.row rfl (by decide), h.lc.row rfl (by decide)⟩
theorem XM.sat {w : World} {a b c s : Nat} (h : XM w a b c s) : SAt w (.slice (some ⟨s, 0, none⟩) 1 1) xS := by
  refine ⟨_, _, rfl, by decide, by decide, fun i hi => ⟨s, 0, rfl, ?_, ?_⟩⟩
  · have : i = 0 := by simp [xS] at hi; omega
    subst this
    exact cell_of h.ls rfl
  · have : i = 0 := by simp [xS] at hi; omega
    subst this
    exact cell_of h.ls rfl
theorem XM.put {w : World} {a b c s G i : Nat} {L : List Int} {v : Value} (h : XM w a b c s) (hG : ArrU w G L) (hL : L ≠ xWt) (hlen : L.length = 4) : XM (w.setCell ⟨G, i, none⟩ v) a b c s := by
  have n1 : a ≠ G := by rintro rfl; have := h.la; unfold Arr at this; unfold ArrU at hG; rw [hG] at this; simp at this
  have n2 : b ≠ G := by rintro rfl; have := h.lb; unfold Arr at this; unfold ArrU at hG; rw [hG] at this; simp at this
  have n3 : c ≠ G := by
    rintro rfl
    have h1 := h.lc
    unfold ArrU at h1 hG
    rw [hG] at h1
    simp only [Option.some.injEq, Obj.cells.injEq, and_true] at h1
    exact hL (ucells_inj h1)
  have n4 : s ≠ G := by rintro rfl; have := h.ls; unfold ArrU at hG; rw [hG] at this; simp at this
  exact ⟨(Below.heap_setCell _ _ _ _ n1).trans h.la, (Below.heap_setCell _ _ _ _ n2).trans h.lb, (Below.heap_setCell _ _ _ _ n3).trans h.lc, (Below.heap_setCell _ _ _ _ n4).trans h.ls⟩
theorem xlb2 : ∀ v, 0 ≤ at_ (xL.set 1 4) v ∧ at_ (xL.set 1 4) v ≤ 18446744073709551615 := by
  intro v
  match v with
  | 0 => decide
  | 1 => decide
  | 2 => decide
  | 3 => decide
  | v + 4 => simp [xL, at_]
/-- All that heads has in memory; L: the voucher's labels. -/
structure HM (w x : World) (a b c s G GY GD Bg Bv : Nat) (L : List Int) : Prop where
  xm : XM x a b c s
  g : ArrU x G L
  y : Arr x GY xY
  d : Arr x GD xD
  bg : x.heap[Bg]? = some (.cells #[.int .i64 4, .slice (some ⟨a, 0, none⟩) 5 5, .slice (some ⟨b, 0, none⟩) 4 4, .slice (some ⟨c, 0, none⟩) 4 4] 32 (0, 0))
  bv : x.heap[Bv]? = some (.cells #[.slice (some ⟨G, 0, none⟩) 4 4, .slice (some ⟨GY, 0, none⟩) 4 4, .slice (some ⟨GD, 0, none⟩) 4 4] 103 (0, 0))
  bel : Below w.heap.size w x
  gl : w.heap.size ≤ G
theorem HM.below {w x x' : World} {a b c s G GY GD Bg Bv : Nat} {L : List Int} (h : HM w x a b c s G GY GD Bg Bv L) (hb : Below x.heap.size x x') : HM w x' a b c s G GY GD Bg Bv L :=
  ⟨h.xm.below hb, (hb.block _ (lt_of_heap h.g)).trans h.g, (hb.block _ (lt_of_heap h.y)).trans h.y, (hb.block _ (lt_of_heap h.d)).trans h.d, (hb.block _ (lt_of_heap h.bg)).trans h.bg, (hb.block _ (lt_of_heap h.bv)).trans h.bv, below_on h.bel hb, h.gl⟩
theorem HM.put {w x : World} {a b c s G GY GD Bg Bv : Nat} (h : HM w x a b c s G GY GD Bg Bv xL) : HM w (x.setCell ⟨G, 1, none⟩ (.int .u64 4)) a b c s G GY GD Bg Bv (xL.set 1 4) := by
  have hg := h.g
  have n1 : GY ≠ G := by rintro rfl; have := h.y; unfold Arr at this; unfold ArrU at hg; rw [hg] at this; simp at this
  have n2 : GD ≠ G := by rintro rfl; have := h.d; unfold Arr at this; unfold ArrU at hg; rw [hg] at this; simp at this
  have n3 : Bg ≠ G := by rintro rfl; have := h.bg; unfold ArrU at hg; rw [hg] at this; simp at this
  have n4 : Bv ≠ G := by rintro rfl; have := h.bv; unfold ArrU at hg; rw [hg] at this; simp at this
  refine ⟨h.xm.put h.g (by decide) rfl, ?_, (Below.heap_setCell _ _ _ _ n1).trans h.y, (Below.heap_setCell _ _ _ _ n2).trans h.d, (Below.heap_setCell _ _ _ _ n3).trans h.bg, (Below.heap_setCell _ _ _ _ n4).trans h.bv, h.bel.setCell (p := ⟨G, 1, none⟩) h.gl _, h.gl⟩
  exact heap_set h.g _
theorem HM.check {w x : World} {a b c s G GY GD Bg Bv : Nat} {L : List Int} {r1 r2 : Int} (h : HM w x a b c s G GY GD Bg Bv L) (hL : L.length = 4) (hLb : ∀ v, 0 ≤ at_ L v ∧ at_ L v ≤ 18446744073709551615) (hr : ckAns (okAt 4 xSt xTl xWt 1 L xY xD xB) 4 = (r1, r2)) :
    Calls Try.prog 64 #[.agg #[.int .i64 4, .slice (some ⟨a, 0, none⟩) 5 5, .slice (some ⟨b, 0, none⟩) 4 4, .slice (some ⟨c, 0, none⟩) 4 4], .int .i64 1, .slice (some ⟨s, 0, none⟩) 1 1, .agg #[.slice (some ⟨G, 0, none⟩) 4 4, .slice (some ⟨GY, 0, none⟩) 4 4, .slice (some ⟨GD, 0, none⟩) 4 4]] x fun e w' => e = .returned (.tuple #[.int .i64 r1, .int .i64 r2]) ∧ Below x.heap.size x w' := by
  have := check_good 4 (.slice (some ⟨a, 0, none⟩) 5 5) (.slice (some ⟨b, 0, none⟩) 4 4) (.slice (some ⟨c, 0, none⟩) 4 4) xSt xTl xWt 1 (.slice (some ⟨s, 0, none⟩) 1 1) xS (.slice (some ⟨G, 0, none⟩) 4 4) (.slice (some ⟨GY, 0, none⟩) 4 4) (.slice (some ⟨GD, 0, none⟩) 4 4) L xY xD xB x h.xm.gis xgood xwb h.xm.sat xsok (by decide) xno (by decide) xbeg (h.g.row hL (by decide)) (h.y.row rfl (by decide)) (h.d.row rfl (by decide)) hL rfl rfl hLb (fun v => by
    match v with
    | 0 => decide
    | 1 => decide
    | 2 => decide
    | 3 => decide
    | v + 4 => simp [xD, at_])
  rw [hr] at this
  exact this
set_option maxRecDepth 100000 in
set_option maxHeartbeats 8000000 in
theorem heads_any' (w : World) : Calls Try.prog 66 #[] w fun e w' => e = .returned (.bool true) ∧ Below w.heap.size w w' := by
  have HEX := hide (example_any w)
  go_enter Try.func66, Try.ntmps66
  go_wp2_with fail
  refine HEX.out.mono ?_
  rintro e w1 ⟨a, b, c, rfl, ha, hb, hc, hb1⟩
  obtain ⟨w2, hw2⟩ : ∃ w2, w2 = (w1.alloc (.cells #[.int .i64 4, .slice (some ⟨a, 0, none⟩) 5 5, .slice (some ⟨b, 0, none⟩) 4 4, .slice (some ⟨c, 0, none⟩) 4 4] 32)).alloc (.cells #[.int .i64 0, .int .u64 0] 41) := ⟨_, rfl⟩
  have b2 : Below w1.heap.size w1 w2 := by rw [hw2]; exact below_alloc (below_alloc (Below.refl _ _) _) _
  have bg : w2.heap[w1.heap.size]? = some (.cells #[.int .i64 4, .slice (some ⟨a, 0, none⟩) 5 5, .slice (some ⟨b, 0, none⟩) 4 4, .slice (some ⟨c, 0, none⟩) 4 4] 32 (0, 0)) := by rw [hw2]; exact (Below.heap_alloc _ _ _ (by simp)).trans (heap_new _ _)
  have bs : w2.heap[w1.heap.size + 1]? = some (.cells #[.int .i64 0, .int .u64 0] 41 (0, 0)) := by
    have := heap_new (w1.alloc (.cells #[.int .i64 4, .slice (some ⟨a, 0, none⟩) 5 5, .slice (some ⟨b, 0, none⟩) 4 4, .slice (some ⟨c, 0, none⟩) 4 4] 32)) (.cells #[.int .i64 0, .int .u64 0] 41)
    rw [World.size_alloc] at this
    rw [hw2]; exact this
  have HX2 : Hid (XM w2 a b c (w1.heap.size + 1)) := ⟨(b2.block _ (lt_of_heap ha)).trans ha, (b2.block _ (lt_of_heap hb)).trans hb, (b2.block _ (lt_of_heap hc)).trans hc, bs⟩
  have HBG := hide bg
  have HB2 := hide (below_on hb1 b2)
  have c0 := cell_of bg (i := 0) rfl
  have c1 := cell_of bg (i := 1) rfl
  have c2 := cell_of bg (i := 2) rfl
  have c3 := cell_of bg (i := 3) rfl
  clear HEX ha hb hc hb1 b2 bg bs
  rw [hw2] at c0 c1 c2 c3
  go_wp2_with fail
  rw [← hw2] at *
  clear hw2 c0 c1 c2 c3
  refine (make_new 4 (.slice (some ⟨a, 0, none⟩) 5 5) (.slice (some ⟨b, 0, none⟩) 4 4) (.slice (some ⟨c, 0, none⟩) 4 4) xSt xTl xWt 1 (.slice (some ⟨w1.heap.size + 1, 0, none⟩) 1 1) xS w2 HX2.out.gis xgood xwb HX2.out.sat xsok (by decide) xno).mono ?_
  rintro e w3 ⟨G, GY, GD, L, Y, D, rfl, hG, hY, hD, hF, hW, hb3, hGl⟩
  obtain rfl : L = xL := hF.only xfound xwb (by intro j hj; have := (xsok j hj).2; omega)
  obtain ⟨rfl, rfl⟩ := hW.only xgood xwhole
  obtain ⟨w4, hw4⟩ : ∃ w4, w4 = w3.alloc (.cells #[.slice (some ⟨G, 0, none⟩) 4 4, .slice (some ⟨GY, 0, none⟩) 4 4, .slice (some ⟨GD, 0, none⟩) 4 4] 103) := ⟨_, rfl⟩
  have b4 : Below w3.heap.size w3 w4 := by rw [hw4]; exact below_alloc (Below.refl _ _) _
  have bv : w4.heap[w3.heap.size]? = some (.cells #[.slice (some ⟨G, 0, none⟩) 4 4, .slice (some ⟨GY, 0, none⟩) 4 4, .slice (some ⟨GD, 0, none⟩) 4 4] 103 (0, 0)) := by rw [hw4]; exact heap_new _ _
  have HM4 : Hid (HM w w4 a b c (w1.heap.size + 1) G GY GD w1.heap.size w3.heap.size xL) := ⟨(HX2.out.below hb3).below b4, (b4.block _ (lt_of_heap hG)).trans hG, (b4.block _ (lt_of_heap hY)).trans hY, (b4.block _ (lt_of_heap hD)).trans hD, (b4.block _ (lt_of_heap ((hb3.block _ (lt_of_heap HBG.out)).trans HBG.out))).trans ((hb3.block _ (lt_of_heap HBG.out)).trans HBG.out), bv, below_on (below_on HB2.out hb3) b4, Nat.le_trans HB2.out.size hGl⟩
  have HS4 : Hid (w4.heap.size = w3.heap.size + 1) := by rw [hw4]; simp [Hid]
  have v0 := cell_of bv (i := 0) rfl
  have v1 := cell_of bv (i := 1) rfl
  have v2 := cell_of bv (i := 2) rfl
  clear HX2 HB2 HBG hG hY hD hF hW hb3 hGl b4 bv
  rw [hw4] at v0 v1 v2
  go_wp2_with (first | (go_at_call 62; refine (no_any _ _).mono ?_; rintro e9 w9 ⟨rfl, rfl⟩))
  rw [← hw4] at *
  clear hw4 v0 v1 v2
  -- the labels
  have HN5 := hide (heap_new w4 (.cells #[.int .u64 0, .int .u64 3, .int .u64 1, .int .u64 18446744073709551615] 22))
  have HM5 := hide (HM4.out.below (below_alloc (Below.refl _ _) (.cells #[.int .u64 0, .int .u64 3, .int .u64 1, .int .u64 18446744073709551615] 22)))
  rw [← HS4.out]
  have HA5 : Hid (ArrU (w4.alloc (.cells #[.int .u64 0, .int .u64 3, .int .u64 1, .int .u64 18446744073709551615] 22)) w4.heap.size xL) := HN5.out
  generalize w4.alloc (.cells #[.int .u64 0, .int .u64 3, .int .u64 1, .int .u64 18446744073709551615] 22) = w5 at HM5 HA5 ⊢
  refine (vWords_any _ _ xL w5 (HM5.out.g.row rfl (by decide)) (HA5.out.row rfl (by decide))).mono ?_
  rintro e w6 ⟨rfl, hb6⟩
  have HM6 := hide (HM5.out.below hb6)
  have v1 := cell_of HM6.out.bv (i := 1) rfl
  clear hb6 HM5 HM4 HA5 HN5
  go_wp2_with fail
  -- the edges
  have HA7 : Hid (Arr (w6.alloc (.cells #[.int .i64 (-1), .int .i64 2, .int .i64 1, .int .i64 (-1)] 3)) w6.heap.size xY) := heap_new w6 (.cells #[.int .i64 (-1), .int .i64 2, .int .i64 1, .int .i64 (-1)] 3)
  have HM7 := hide (HM6.out.below (below_alloc (Below.refl _ _) (.cells #[.int .i64 (-1), .int .i64 2, .int .i64 1, .int .i64 (-1)] 3)))
  generalize w6.alloc (.cells #[.int .i64 (-1), .int .i64 2, .int .i64 1, .int .i64 (-1)] 3) = w7 at HM7 HA7 ⊢
  refine (vInts_any _ _ xY w7 (HM7.out.y.row rfl (by decide)) (HA7.out.row rfl (by decide))).mono ?_
  rintro e w8 ⟨rfl, hb8⟩
  have HM8 := hide (HM7.out.below hb8)
  have v2 := cell_of HM8.out.bv (i := 2) rfl
  clear hb8 HM7 HM6 HA7 v1
  go_wp2_with fail
  -- the depths
  have HA9 : Hid (Arr (w8.alloc (.cells #[.int .i64 0, .int .i64 2, .int .i64 1, .int .i64 0] 3)) w8.heap.size xD) := heap_new w8 (.cells #[.int .i64 0, .int .i64 2, .int .i64 1, .int .i64 0] 3)
  have HM9 := hide (HM8.out.below (below_alloc (Below.refl _ _) (.cells #[.int .i64 0, .int .i64 2, .int .i64 1, .int .i64 0] 3)))
  generalize w8.alloc (.cells #[.int .i64 0, .int .i64 2, .int .i64 1, .int .i64 0] 3) = w9 at HM9 HA9 ⊢
  refine (vInts_any _ _ xD w9 (HM9.out.d.row rfl (by decide)) (HA9.out.row rfl (by decide))).mono ?_
  rintro e w10 ⟨rfl, hb10⟩
  have HM10 := hide (HM9.out.below hb10)
  have p0 := cell_of HM10.out.bv (i := 0) rfl
  have p1 := cell_of HM10.out.bv (i := 1) rfl
  have p2 := cell_of HM10.out.bv (i := 2) rfl
  have q0 := cell_of HM10.out.bg (i := 0) rfl
  have q1 := cell_of HM10.out.bg (i := 1) rfl
  have q2 := cell_of HM10.out.bg (i := 2) rfl
  have q3 := cell_of HM10.out.bg (i := 3) rfl
  clear hb10 HM9 HM8 HA9 v2
  go_wp2_with fail
  refine (HM10.out.check rfl xlb xck1).mono ?_
  rintro e w11 ⟨rfl, hb11⟩
  have HM11 := hide (HM10.out.below hb11)
  clear hb11 HM10 p0 p1 p2 q0 q1 q2 q3
  have HM12 := hide HM11.out.put
  have p0 := cell_of HM11.out.bv (i := 0) rfl
  have l1 := cell_of HM11.out.g (i := 1) rfl
  have l2 := free_of HM11.out.g 1
  have r0 := cell_of HM12.out.bv (i := 0) rfl
  have r1 := cell_of HM12.out.bv (i := 1) rfl
  have r2 := cell_of HM12.out.bv (i := 2) rfl
  have q0 := cell_of HM12.out.bg (i := 0) rfl
  have q1 := cell_of HM12.out.bg (i := 1) rfl
  have q2 := cell_of HM12.out.bg (i := 2) rfl
  have q3 := cell_of HM12.out.bg (i := 3) rfl
  go_wp2_with fail
  refine (HM12.out.check rfl xlb2 xck2).mono ?_
  rintro e w13 ⟨rfl, hb13⟩
  have HB13 := hide (below_on HM12.out.bel hb13)
  clear hb13 HM11 HM12 p0 l1 l2 r0 r1 r2 q0 q1 q2 q3
  go_wp2_with (first | (go_at_call 62; refine (no_any _ _).mono ?_; rintro e9 w9 ⟨rfl, rfl⟩))
  go_ret
  exact ⟨rfl, HB13.out⟩
end Go.Proofs.Ythoklgdlnmccmaa

/- VoucherProves: the walk. -/
namespace Go.Proofs.Ythoklgdlnmccmaa
open Go.RowKit Go.Lib
set_option linter.unusedVariables false
/-- The two boxes: the graph's, the voucher's. -/
structure PM (w x : World) (N : Int) (va vb vc l1 l2 l3 : Value) : Prop where
  bg : x.heap[w.heap.size]? = some (.cells #[.int .i64 N, va, vb, vc] 32 (0, 0))
  bv : x.heap[w.heap.size + 1]? = some (.cells #[l1, l2, l3] 103 (0, 0))
  bel : Below w.heap.size w x
theorem PM.start (w : World) (N : Int) (va vb vc l1 l2 l3 : Value) : PM w ((w.alloc (.cells #[.int .i64 N, va, vb, vc] 32)).alloc (.cells #[l1, l2, l3] 103)) N va vb vc l1 l2 l3 := by
  have hs : (w.alloc (.cells #[.int .i64 N, va, vb, vc] 32)).heap.size = w.heap.size + 1 := by simp
  refine ⟨?_, ?_, below_alloc (below_alloc (Below.refl _ _) _) _⟩
  · exact (Below.heap_alloc _ _ _ (by rw [hs]; omega)).trans (heap_new _ _)
  · have := heap_new (w.alloc (.cells #[.int .i64 N, va, vb, vc] 32)) (.cells #[l1, l2, l3] 103)
    rw [hs] at this; exact this
theorem PM.below {w x x' : World} {N : Int} {va vb vc l1 l2 l3 : Value} (h : PM w x N va vb vc l1 l2 l3) (hb : Below x.heap.size x x') : PM w x' N va vb vc l1 l2 l3 :=
  ⟨(hb.block _ (lt_of_heap h.bg)).trans h.bg, (hb.block _ (lt_of_heap h.bv)).trans h.bv, below_on h.bel hb⟩
theorem kind_in {N : Int} {st tl wt : List Int} {k : Int} {S : List Pr} (h : srchNo N st tl wt k S = 0) : 1 ≤ k ∧ k ≤ 4 := by
  obtain ⟨h1, h2⟩ := chk_of h
  unfold fstNo kindNo at h2
  rw [if_pos h1] at h2
  by_cases h3 : 1 ≤ k ∧ k ≤ 4
  · exact h3
  · rw [if_neg h3] at h2; cases h2
set_option maxRecDepth 100000 in
set_option maxHeartbeats 8000000 in
theorem proves_bad (N : Int) (va vb vc : Value) (st tl wt : List Int) (k : Int) (sv : Value) (S : List Pr) (l1 l2 l3 : Value) (V Y D : List Int) (w : World) (hg : GIs w N va vb vc st tl wt) (hs : SAt w sv S) (h1 : RowAt .u64 w l1 V) (h2 : RowAt .i64 w l2 Y) (h3 : RowAt .i64 w l3 D)
    (hst : st.length ≤ 17592186044416) (hto : tl.length ≤ 17592186044416) (hwt : wt.length ≤ 17592186044416) (hno : srchNo N st tl wt k S ≠ 0) :
    Calls Try.prog 17 #[gAgg N va vb vc, .int .i64 k, sv, .agg #[l1, l2, l3]] w fun e w' => e = .returned (.bool true) ∧ Below w.heap.size w w' := by
  obtain ⟨ao, ca, rfl⟩ := hg.s.shape
  obtain ⟨bo, cb, rfl⟩ := hg.t.shape
  obtain ⟨co, cc, rfl⟩ := hg.u.shape
  obtain ⟨so, sc, rfl, hsc, hscm⟩ := hs.shape
  obtain ⟨o1, k1, rfl⟩ := h1.shape
  obtain ⟨o2, k2, rfl⟩ := h2.shape
  obtain ⟨o3, k3, rfl⟩ := h3.shape
  have HCK := hide (fun W g s r1 r2 r3 => check_bad N (.slice ao st.length ca) (.slice bo tl.length cb) (.slice co wt.length cc) st tl wt k (.slice so S.length sc) S (.slice o1 V.length k1) (.slice o2 Y.length k2) (.slice o3 D.length k3) V Y D W g hst hto hwt s hno r1 r2 r3)
  have HSE := hide (fun W g s => rsearch_bad N (.slice ao st.length ca) (.slice bo tl.length cb) (.slice co wt.length cc) st tl wt k (.slice so S.length sc) S W g hst hto hwt s hno)
  obtain ⟨x, hx⟩ : ∃ x, x = srchNo N st tl wt k S := ⟨_, rfl⟩
  rw [← hx] at HCK HSE hno
  have HK1 := hide (PM.start w N (.slice ao st.length ca) (.slice bo tl.length cb) (.slice co wt.length cc) (.slice o1 V.length k1) (.slice o2 Y.length k2) (.slice o3 D.length k3))
  have HG := hide hg; have HS := hide hs; have H1 := hide h1; have H2 := hide h2; have H3 := hide h3
  unfold gAgg at *
  clear hg hs h1 h2 h3 hst hto hwt hx
  go_enter Try.func17, Try.ntmps17
  go_wp2_with fail
  generalize ((w.alloc (.cells #[.int .i64 N, .slice ao st.length ca, .slice bo tl.length cb, .slice co wt.length cc] 32)).alloc (.cells #[.slice o1 V.length k1, .slice o2 Y.length k2, .slice o3 D.length k3] 103)) = w1 at HK1 ⊢
  refine (heads_any' w1).mono ?_
  rintro e w2 ⟨rfl, hb2⟩
  have HK2 := hide (HK1.out.below hb2)
  have c0 := cell_of HK2.out.bg (i := 0) rfl
  have c1 := cell_of HK2.out.bg (i := 1) rfl
  have c2 := cell_of HK2.out.bg (i := 2) rfl
  have c3 := cell_of HK2.out.bg (i := 3) rfl
  have c4 := cell_of HK2.out.bv (i := 0) rfl
  have c5 := cell_of HK2.out.bv (i := 1) rfl
  have c6 := cell_of HK2.out.bv (i := 2) rfl
  clear hb2 HK1
  go_wp2_with fail
  refine (HCK.out w2 (HG.out.below HK2.out.bel) (HS.out.below HK2.out.bel) (H1.out.below HK2.out.bel) (H2.out.below HK2.out.bel) (H3.out.below HK2.out.bel)).mono ?_
  rintro e w3 ⟨rfl, hb3⟩
  have HK3 := hide (HK2.out.below hb3)
  have d0 := cell_of HK3.out.bg (i := 0) rfl
  have d1 := cell_of HK3.out.bg (i := 1) rfl
  have d2 := cell_of HK3.out.bg (i := 2) rfl
  have d3 := cell_of HK3.out.bg (i := 3) rfl
  have d4 := cell_of HK3.out.bv (i := 0) rfl
  have d5 := cell_of HK3.out.bv (i := 1) rfl
  have d6 := cell_of HK3.out.bv (i := 2) rfl
  clear hb3 HK2 HCK c0 c1 c2 c3 c4 c5 c6
  go_wp2_with fail
  refine (HSE.out w3 (HG.out.below HK3.out.bel) (HS.out.below HK3.out.bel)).mono ?_
  rintro e w4 ⟨rfl, hb4⟩
  have HK4 := hide (HK3.out.below hb4)
  clear hb4 HK3 HSE d0 d1 d2 d3 d4 d5 d6
  go_wp2_with (go_at_call 62; refine (no_any _ _).mono ?_; rintro e9 w9 ⟨rfl, h9⟩; obtain rfl := h9.symm)
  go_ret
  exact ⟨rfl, HK4.out.bel⟩
set_option maxRecDepth 100000 in
set_option maxHeartbeats 8000000 in
theorem proves_len (n : Nat) (va vb vc : Value) (st tl wt : List Int) (k : Int) (sv : Value) (S : List Pr) (l1 l2 l3 : Value) (V Y D : List Int) (w : World) (hg : GIs w n va vb vc st tl wt) (hs : SAt w sv S) (h1 : RowAt .u64 w l1 V) (h2 : RowAt .i64 w l2 Y) (h3 : RowAt .i64 w l3 D)
    (hgd : Good n st tl wt) (hwb : ∀ e, 0 ≤ at_ wt e ∧ at_ wt e ≤ 18446744073709551615) (hSb : ∀ j, j < S.length → 0 ≤ (sAt S j).2 ∧ (sAt S j).2 ≤ 18446744073709551615) (hS : S.length * 16 ≤ 140737488353280) (hno : srchNo n st tl wt k S = 0) (hlen : ¬ ((V.length : Int) = n ∧ (Y.length : Int) = n ∧ (D.length : Int) = n)) :
    Calls Try.prog 17 #[gAgg n va vb vc, .int .i64 k, sv, .agg #[l1, l2, l3]] w fun e w' => e = .returned (.bool true) ∧ Below w.heap.size w w' := by
  obtain ⟨ao, ca, rfl⟩ := hg.s.shape
  obtain ⟨bo, cb, rfl⟩ := hg.t.shape
  obtain ⟨co, cc, rfl⟩ := hg.u.shape
  obtain ⟨so, sc, rfl, hsc, hscm⟩ := hs.shape
  obtain ⟨o1, k1, rfl⟩ := h1.shape
  obtain ⟨o2, k2, rfl⟩ := h2.shape
  obtain ⟨o3, k3, rfl⟩ := h3.shape
  obtain ⟨F, j, hF, hjn, hse, hrn⟩ := four_good n st tl wt k S hno hgd hwb hSb hS
  have HCK := hide (fun W g s r1 r2 r3 => check_len n (.slice ao st.length ca) (.slice bo tl.length cb) (.slice co wt.length cc) st tl wt k (.slice so S.length sc) S (.slice o1 V.length k1) (.slice o2 Y.length k2) (.slice o3 D.length k3) V Y D W g (by have := hgd.s_len; have := hgd.n_le; omega) (by have := hgd.m_le; omega) (by have := hgd.w_len; have := hgd.m_le; omega) s hno hlen r1 r2 r3)
  have HSE := hide (fun W g s => hse (.slice ao st.length ca) (.slice bo tl.length cb) (.slice co wt.length cc) (.slice so S.length sc) W g s)
  have HLN := hide hlen
  have HK1 := hide (PM.start w n (.slice ao st.length ca) (.slice bo tl.length cb) (.slice co wt.length cc) (.slice o1 V.length k1) (.slice o2 Y.length k2) (.slice o3 D.length k3))
  have HG := hide hg; have HS := hide hs; have H1 := hide h1; have H2 := hide h2; have H3 := hide h3
  unfold gAgg at *
  clear hg hs h1 h2 h3 hgd hwb hSb hno hF hjn hse hrn hlen
  go_enter Try.func17, Try.ntmps17
  go_wp2_with fail
  generalize ((w.alloc (.cells #[.int .i64 n, .slice ao st.length ca, .slice bo tl.length cb, .slice co wt.length cc] 32)).alloc (.cells #[.slice o1 V.length k1, .slice o2 Y.length k2, .slice o3 D.length k3] 103)) = w1 at HK1 ⊢
  refine (heads_any' w1).mono ?_
  rintro e w2 ⟨rfl, hb2⟩
  have HK2 := hide (HK1.out.below hb2)
  have c0 := cell_of HK2.out.bg (i := 0) rfl
  have c1 := cell_of HK2.out.bg (i := 1) rfl
  have c2 := cell_of HK2.out.bg (i := 2) rfl
  have c3 := cell_of HK2.out.bg (i := 3) rfl
  have c4 := cell_of HK2.out.bv (i := 0) rfl
  have c5 := cell_of HK2.out.bv (i := 1) rfl
  have c6 := cell_of HK2.out.bv (i := 2) rfl
  clear hb2 HK1
  go_wp2_with fail
  refine (HCK.out w2 (HG.out.below HK2.out.bel) (HS.out.below HK2.out.bel) (H1.out.below HK2.out.bel) (H2.out.below HK2.out.bel) (H3.out.below HK2.out.bel)).mono ?_
  rintro e w3 ⟨rfl, hb3⟩
  have HK3 := hide (HK2.out.below hb3)
  have d0 := cell_of HK3.out.bg (i := 0) rfl
  have d1 := cell_of HK3.out.bg (i := 1) rfl
  have d2 := cell_of HK3.out.bg (i := 2) rfl
  have d3 := cell_of HK3.out.bg (i := 3) rfl
  have d4 := cell_of HK3.out.bv (i := 0) rfl
  have d5 := cell_of HK3.out.bv (i := 1) rfl
  have d6 := cell_of HK3.out.bv (i := 2) rfl
  clear hb3 HK2 HCK c0 c1 c2 c3 c4 c5 c6
  go_wp2_with fail
  refine (HSE.out w3 (HG.out.below HK3.out.bel) (HS.out.below HK3.out.bel)).mono ?_
  rintro e w4 ⟨lo, ln, lc, rfl, hL, hb4⟩
  have HK4 := hide (HK3.out.below hb4)
  have f0 := cell_of HK4.out.bg (i := 0) rfl
  have f1 := cell_of HK4.out.bg (i := 1) rfl
  have f2 := cell_of HK4.out.bg (i := 2) rfl
  have f3 := cell_of HK4.out.bg (i := 3) rfl
  have f4 := cell_of HK4.out.bv (i := 0) rfl
  have f5 := cell_of HK4.out.bv (i := 1) rfl
  have f6 := cell_of HK4.out.bv (i := 2) rfl
  clear hb4 HK3 HSE hL d0 d1 d2 d3 d4 d5 d6
  by_cases a1 : (V.length : Int) = (n : Int)
  · by_cases a2 : (Y.length : Int) = (n : Int)
    · by_cases a3 : (D.length : Int) = (n : Int)
      · exact absurd ⟨a1, a2, a3⟩ HLN.out
      · go_wp2_with (go_at_call 62; refine (no_any _ _).mono ?_; rintro e9 w9 ⟨rfl, h9⟩; obtain rfl := h9.symm)
        go_ret
        exact ⟨rfl, HK4.out.bel⟩
    · go_wp2_with (go_at_call 62; refine (no_any _ _).mono ?_; rintro e9 w9 ⟨rfl, h9⟩; obtain rfl := h9.symm)
      go_ret
      exact ⟨rfl, HK4.out.bel⟩
  · go_wp2_with (go_at_call 62; refine (no_any _ _).mono ?_; rintro e9 w9 ⟨rfl, h9⟩; obtain rfl := h9.symm)
    go_ret
    exact ⟨rfl, HK4.out.bel⟩
set_option maxRecDepth 100000 in
set_option maxHeartbeats 8000000 in
theorem proves_not (n : Nat) (va vb vc : Value) (st tl wt : List Int) (k : Int) (sv : Value) (S : List Pr) (l1 l2 l3 : Value) (V Y D : List Int) (w : World) (hg : GIs w n va vb vc st tl wt) (hs : SAt w sv S) (h1 : RowAt .u64 w l1 V) (h2 : RowAt .i64 w l2 Y) (h3 : RowAt .i64 w l3 D)
    (hgd : Good n st tl wt) (hwb : ∀ e, 0 ≤ at_ wt e ∧ at_ wt e ≤ 18446744073709551615) (hSb : ∀ j, j < S.length → 0 ≤ (sAt S j).2 ∧ (sAt S j).2 ≤ 18446744073709551615) (hS : S.length * 16 ≤ 140737488353280) (hno : srchNo n st tl wt k S = 0) (B : List Int) (hB : Beg n S B S.length) (hV : V.length = n) (hY : Y.length = n) (hD : D.length = n) (hVb : ∀ v, 0 ≤ at_ V v ∧ at_ V v ≤ 18446744073709551615) (hDb : ∀ v, at_ D v ≤ 9223372036854775807) (v : Nat) (hvn : v < n) (hck : ckAns (okAt n st tl wt k V Y D B) n = (53, (v : Int))) :
    Calls Try.prog 17 #[gAgg n va vb vc, .int .i64 k, sv, .agg #[l1, l2, l3]] w fun e w' => e = .returned (.bool true) ∧ Below w.heap.size w w' := by
  obtain ⟨ao, ca, rfl⟩ := hg.s.shape
  obtain ⟨bo, cb, rfl⟩ := hg.t.shape
  obtain ⟨co, cc, rfl⟩ := hg.u.shape
  obtain ⟨so, sc, rfl, hsc, hscm⟩ := hs.shape
  obtain ⟨o1, k1, rfl⟩ := h1.shape
  obtain ⟨o2, k2, rfl⟩ := h2.shape
  obtain ⟨o3, k3, rfl⟩ := h3.shape
  obtain ⟨F, j, hF, hjn, hse, hrn⟩ := four_good n st tl wt k S hno hgd hwb hSb hS
  obtain ⟨m, hm, _, hsn⟩ := srch_good hno
  obtain rfl : n = m := by omega
  have hok := sok_of hsn (fun j hj => (hSb j hj).1)
  have HCK := hide (fun W g s r1 r2 r3 => check_good n (.slice ao st.length ca) (.slice bo tl.length cb) (.slice co wt.length cc) st tl wt k (.slice so S.length sc) S (.slice o1 V.length k1) (.slice o2 Y.length k2) (.slice o3 D.length k3) V Y D B W g hgd hwb s hok hS hno (kind_in hno) hB r1 r2 r3 hV hY hD hVb hDb)
  have HSE := hide (fun W g s => hse (.slice ao st.length ca) (.slice bo tl.length cb) (.slice co wt.length cc) (.slice so S.length sc) W g s)
  rw [hck] at HCK
  have hvi : (v : Int) < (n : Int) := by omega
  have HK1 := hide (PM.start w n (.slice ao st.length ca) (.slice bo tl.length cb) (.slice co wt.length cc) (.slice o1 V.length k1) (.slice o2 Y.length k2) (.slice o3 D.length k3))
  have HG := hide hg; have HS := hide hs; have H1 := hide h1; have H2 := hide h2; have H3 := hide h3
  rw [hV, hY, hD] at *
  unfold gAgg at *
  clear hg hs h1 h2 h3 hgd hwb hSb hno hF hjn hse hrn hB hVb hDb hck hok hsn hm
  go_enter Try.func17, Try.ntmps17
  go_wp2_with fail
  generalize ((w.alloc (.cells #[.int .i64 n, .slice ao st.length ca, .slice bo tl.length cb, .slice co wt.length cc] 32)).alloc (.cells #[.slice o1 n k1, .slice o2 n k2, .slice o3 n k3] 103)) = w1 at HK1 ⊢
  refine (heads_any' w1).mono ?_
  rintro e w2 ⟨rfl, hb2⟩
  have HK2 := hide (HK1.out.below hb2)
  have c0 := cell_of HK2.out.bg (i := 0) rfl
  have c1 := cell_of HK2.out.bg (i := 1) rfl
  have c2 := cell_of HK2.out.bg (i := 2) rfl
  have c3 := cell_of HK2.out.bg (i := 3) rfl
  have c4 := cell_of HK2.out.bv (i := 0) rfl
  have c5 := cell_of HK2.out.bv (i := 1) rfl
  have c6 := cell_of HK2.out.bv (i := 2) rfl
  clear hb2 HK1
  go_wp2_with fail
  refine (HCK.out w2 (HG.out.below HK2.out.bel) (HS.out.below HK2.out.bel) (H1.out.below HK2.out.bel) (H2.out.below HK2.out.bel) (H3.out.below HK2.out.bel)).mono ?_
  rintro e w3 ⟨rfl, hb3⟩
  have HK3 := hide (HK2.out.below hb3)
  have d0 := cell_of HK3.out.bg (i := 0) rfl
  have d1 := cell_of HK3.out.bg (i := 1) rfl
  have d2 := cell_of HK3.out.bg (i := 2) rfl
  have d3 := cell_of HK3.out.bg (i := 3) rfl
  have d4 := cell_of HK3.out.bv (i := 0) rfl
  have d5 := cell_of HK3.out.bv (i := 1) rfl
  have d6 := cell_of HK3.out.bv (i := 2) rfl
  clear hb3 HK2 HCK c0 c1 c2 c3 c4 c5 c6
  go_wp2_with fail
  refine (HSE.out w3 (HG.out.below HK3.out.bel) (HS.out.below HK3.out.bel)).mono ?_
  rintro e w4 ⟨lo, ln, lc, rfl, hL, hb4⟩
  have HK4 := hide (HK3.out.below hb4)
  have f0 := cell_of HK4.out.bg (i := 0) rfl
  have f1 := cell_of HK4.out.bg (i := 1) rfl
  have f2 := cell_of HK4.out.bg (i := 2) rfl
  have f3 := cell_of HK4.out.bg (i := 3) rfl
  have f4 := cell_of HK4.out.bv (i := 0) rfl
  have f5 := cell_of HK4.out.bv (i := 1) rfl
  have f6 := cell_of HK4.out.bv (i := 2) rfl
  clear hb4 HK3 HSE hL d0 d1 d2 d3 d4 d5 d6
  go_wp2_with (go_at_call 62; refine (no_any _ _).mono ?_; rintro e9 w9 ⟨rfl, h9⟩; obtain rfl := h9.symm)
  go_ret
  exact ⟨rfl, HK4.out.bel⟩
set_option maxRecDepth 100000 in
set_option maxHeartbeats 8000000 in
theorem proves_ok (n : Nat) (va vb vc : Value) (st tl wt : List Int) (k : Int) (sv : Value) (S : List Pr) (l1 l2 l3 : Value) (V Y D : List Int) (w : World) (hg : GIs w n va vb vc st tl wt) (hs : SAt w sv S) (h1 : RowAt .u64 w l1 V) (h2 : RowAt .i64 w l2 Y) (h3 : RowAt .i64 w l3 D)
    (hgd : Good n st tl wt) (hwb : ∀ e, 0 ≤ at_ wt e ∧ at_ wt e ≤ 18446744073709551615) (hSb : ∀ j, j < S.length → 0 ≤ (sAt S j).2 ∧ (sAt S j).2 ≤ 18446744073709551615) (hS : S.length * 16 ≤ 140737488353280) (hno : srchNo n st tl wt k S = 0) (B : List Int) (hB : Beg n S B S.length) (hV : V.length = n) (hY : Y.length = n) (hD : D.length = n) (hVb : ∀ v, 0 ≤ at_ V v ∧ at_ V v ≤ 18446744073709551615) (hDb : ∀ v, at_ D v ≤ 9223372036854775807) (hall : ∀ v, v < n → okAt n st tl wt k V Y D B v = true) :
    Calls Try.prog 17 #[gAgg n va vb vc, .int .i64 k, sv, .agg #[l1, l2, l3]] w fun e w' => e = .returned (.bool true) ∧ Below w.heap.size w w' := by
  obtain ⟨ao, ca, rfl⟩ := hg.s.shape
  obtain ⟨bo, cb, rfl⟩ := hg.t.shape
  obtain ⟨co, cc, rfl⟩ := hg.u.shape
  obtain ⟨so, sc, rfl, hsc, hscm⟩ := hs.shape
  obtain ⟨o1, k1, rfl⟩ := h1.shape
  obtain ⟨o2, k2, rfl⟩ := h2.shape
  obtain ⟨o3, k3, rfl⟩ := h3.shape
  obtain ⟨F, j, hF, hjn, hse, hrn⟩ := four_good n st tl wt k S hno hgd hwb hSb hS
  obtain ⟨m, hm, _, hsn⟩ := srch_good hno
  obtain rfl : n = m := by omega
  have hok := sok_of hsn (fun j hj => (hSb j hj).1)
  have hFV := ok_found hgd hB hV hVb hall
  have e1 := hF.only hFV hwb hSb
  rw [e1] at hse hrn
  have HCK := hide (fun W g s r1 r2 r3 => check_good n (.slice ao st.length ca) (.slice bo tl.length cb) (.slice co wt.length cc) st tl wt k (.slice so S.length sc) S (.slice o1 V.length k1) (.slice o2 Y.length k2) (.slice o3 D.length k3) V Y D B W g hgd hwb s hok hS hno (kind_in hno) hB r1 r2 r3 hV hY hD hVb hDb)
  have HSE := hide (fun W g s => hse (.slice ao st.length ca) (.slice bo tl.length cb) (.slice co wt.length cc) (.slice so S.length sc) W g s)
  rw [ck_none hall] at HCK
  have HRN := hide (fun W g s => hrn (.slice ao st.length ca) (.slice bo tl.length cb) (.slice co wt.length cc) (.slice so S.length sc) W g s)
  have HEN := hide (fun W g r2 r3 => ends_any n (.slice ao st.length ca) (.slice bo tl.length cb) (.slice co wt.length cc) st tl wt (.slice o1 V.length k1) (.slice o2 Y.length k2) (.slice o3 D.length k3) Y D W g hgd (chk_of hno).1 r2 r3 hY hD (ok_to hall))
  have HK1 := hide (PM.start w n (.slice ao st.length ca) (.slice bo tl.length cb) (.slice co wt.length cc) (.slice o1 V.length k1) (.slice o2 Y.length k2) (.slice o3 D.length k3))
  have HG := hide hg; have HS := hide hs; have H1 := hide h1; have H2 := hide h2; have H3 := hide h3
  rw [hV, hY, hD] at *
  unfold gAgg at *
  clear hg hs h1 h2 h3 hgd hwb hSb hno hF hjn hse hrn hB hVb hDb hok hsn hm hall hFV e1
  go_enter Try.func17, Try.ntmps17
  go_wp2_with fail
  generalize ((w.alloc (.cells #[.int .i64 n, .slice ao st.length ca, .slice bo tl.length cb, .slice co wt.length cc] 32)).alloc (.cells #[.slice o1 n k1, .slice o2 n k2, .slice o3 n k3] 103)) = w1 at HK1 ⊢
  refine (heads_any' w1).mono ?_
  rintro e w2 ⟨rfl, hb2⟩
  have HK2 := hide (HK1.out.below hb2)
  have c0 := cell_of HK2.out.bg (i := 0) rfl
  have c1 := cell_of HK2.out.bg (i := 1) rfl
  have c2 := cell_of HK2.out.bg (i := 2) rfl
  have c3 := cell_of HK2.out.bg (i := 3) rfl
  have c4 := cell_of HK2.out.bv (i := 0) rfl
  have c5 := cell_of HK2.out.bv (i := 1) rfl
  have c6 := cell_of HK2.out.bv (i := 2) rfl
  clear hb2 HK1
  go_wp2_with fail
  refine (HCK.out w2 (HG.out.below HK2.out.bel) (HS.out.below HK2.out.bel) (H1.out.below HK2.out.bel) (H2.out.below HK2.out.bel) (H3.out.below HK2.out.bel)).mono ?_
  rintro e w3 ⟨rfl, hb3⟩
  have HK3 := hide (HK2.out.below hb3)
  have d0 := cell_of HK3.out.bg (i := 0) rfl
  have d1 := cell_of HK3.out.bg (i := 1) rfl
  have d2 := cell_of HK3.out.bg (i := 2) rfl
  have d3 := cell_of HK3.out.bg (i := 3) rfl
  have d4 := cell_of HK3.out.bv (i := 0) rfl
  have d5 := cell_of HK3.out.bv (i := 1) rfl
  have d6 := cell_of HK3.out.bv (i := 2) rfl
  clear hb3 HK2 HCK c0 c1 c2 c3 c4 c5 c6
  go_wp2_with fail
  refine (HSE.out w3 (HG.out.below HK3.out.bel) (HS.out.below HK3.out.bel)).mono ?_
  rintro e w4 ⟨lo, ln, lc, rfl, hL, hb4⟩
  have HK4 := hide (HK3.out.below hb4)
  have HL4 := hide hL
  have f0 := cell_of HK4.out.bg (i := 0) rfl
  have f1 := cell_of HK4.out.bg (i := 1) rfl
  have f2 := cell_of HK4.out.bg (i := 2) rfl
  have f3 := cell_of HK4.out.bg (i := 3) rfl
  have f4 := cell_of HK4.out.bv (i := 0) rfl
  have f5 := cell_of HK4.out.bv (i := 1) rfl
  have f6 := cell_of HK4.out.bv (i := 2) rfl
  clear hb4 HK3 HSE hL d0 d1 d2 d3 d4 d5 d6
  go_wp2_with (go_at_call 62; refine (no_any _ _).mono ?_; rintro e9 w9 ⟨rfl, h9⟩; obtain rfl := h9.symm)
  refine (HRN.out w4 (HG.out.below HK4.out.bel) (HS.out.below HK4.out.bel)).mono ?_
  rintro e w5 ⟨mo, mn, mc, rfl, hM, hb5⟩
  have HK5 := hide (HK4.out.below hb5)
  have HL5 := hide (HL4.out.below hb5)
  have HM5 := hide hM
  have p0 := cell_of HK5.out.bg (i := 0) rfl
  have p1 := cell_of HK5.out.bg (i := 1) rfl
  have p2 := cell_of HK5.out.bg (i := 2) rfl
  have p3 := cell_of HK5.out.bg (i := 3) rfl
  have p4 := cell_of HK5.out.bv (i := 0) rfl
  have p5 := cell_of HK5.out.bv (i := 1) rfl
  have p6 := cell_of HK5.out.bv (i := 2) rfl
  clear hb5 HK4 HL4 HRN hM f0 f1 f2 f3 f4 f5 f6
  go_wp2_with (go_at_call 62; refine (no_any _ _).mono ?_; rintro e9 w9 ⟨rfl, h9⟩; obtain rfl := h9.symm)
  refine (vWords_any _ _ V w5 (H1.out.below HK5.out.bel) HL5.out).mono ?_
  rintro e w6 ⟨rfl, hb6⟩
  have HK6 := hide (HK5.out.below hb6)
  have HL6 := hide (HL5.out.below hb6)
  have HM6 := hide (HM5.out.below hb6)
  have q0 := cell_of HK6.out.bg (i := 0) rfl
  have q1 := cell_of HK6.out.bg (i := 1) rfl
  have q2 := cell_of HK6.out.bg (i := 2) rfl
  have q3 := cell_of HK6.out.bg (i := 3) rfl
  have q4 := cell_of HK6.out.bv (i := 0) rfl
  have q5 := cell_of HK6.out.bv (i := 1) rfl
  have q6 := cell_of HK6.out.bv (i := 2) rfl
  clear hb6 HK5 HL5 HM5 p0 p1 p2 p3 p4 p5 p6
  go_wp2_with fail
  refine (vWords_any _ _ V w6 HL6.out HM6.out).mono ?_
  rintro e w7 ⟨rfl, hb7⟩
  have HK7 := hide (HK6.out.below hb7)
  have r0 := cell_of HK7.out.bg (i := 0) rfl
  have r1 := cell_of HK7.out.bg (i := 1) rfl
  have r2 := cell_of HK7.out.bg (i := 2) rfl
  have r3 := cell_of HK7.out.bg (i := 3) rfl
  have r4 := cell_of HK7.out.bv (i := 0) rfl
  have r5 := cell_of HK7.out.bv (i := 1) rfl
  have r6 := cell_of HK7.out.bv (i := 2) rfl
  clear hb7 HK6 HL6 HM6 q0 q1 q2 q3 q4 q5 q6
  go_wp2_with fail
  refine (HEN.out w7 (HG.out.below HK7.out.bel) (H2.out.below HK7.out.bel) (H3.out.below HK7.out.bel)).mono ?_
  rintro e w8 ⟨rfl, hb8⟩
  have HB8 := hide (below_on HK7.out.bel hb8)
  clear hb8 HK7 HEN r0 r1 r2 r3 r4 r5 r6
  go_wp2_with fail
  go_ret
  exact ⟨rfl, HB8.out⟩
theorem proves_law (N : Int) (va vb vc : Value) (st tl wt : List Int) (k : Int) (sv : Value) (S : List Pr) (l1 l2 l3 : Value) (V Y D : List Int) (w : World) (hg : GIs w N va vb vc st tl wt) (hst : st.length * 8 ≤ 140737488351232) (hto : tl.length * 8 ≤ 140737488351232) (hwt : wt.length * 8 ≤ 140737488351232) (hwb : ∀ e, 0 ≤ at_ wt e ∧ at_ wt e ≤ 18446744073709551615)
    (hs : SAt w sv S) (hw : ∀ j, j < S.length → 0 ≤ (sAt S j).2 ∧ (sAt S j).2 < 18446744073709551616) (hS : S.length * 16 ≤ 140737488353280) (h1 : RowAt .u64 w l1 V) (h2 : RowAt .i64 w l2 Y) (h3 : RowAt .i64 w l3 D) (hVb : ∀ v, 0 ≤ at_ V v ∧ at_ V v ≤ 18446744073709551615) (hDb : ∀ v, at_ D v ≤ 9223372036854775807) :
    Calls Try.prog 17 #[gAgg N va vb vc, .int .i64 k, sv, .agg #[l1, l2, l3]] w fun e w' => e = .returned (.bool true) ∧ Below w.heap.size w w' := by
  by_cases hno : srchNo N st tl wt k S = 0
  · obtain ⟨n, rfl, hgd, hsn⟩ := srch_good hno
    have hSb : ∀ j, j < S.length → 0 ≤ (sAt S j).2 ∧ (sAt S j).2 ≤ 18446744073709551615 := fun j hj => by have := hw j hj; omega
    by_cases hl : (V.length : Int) = n ∧ (Y.length : Int) = n ∧ (D.length : Int) = n
    · obtain ⟨B, hB⟩ := beg_is (sok_of hsn (fun j hj => (hSb j hj).1))
      by_cases hall : ∀ v, v < n → okAt n st tl wt k V Y D B v = true
      · exact proves_ok n va vb vc st tl wt k sv S l1 l2 l3 V Y D w hg hs h1 h2 h3 hgd hwb hSb hS hno B hB (by omega) (by omega) (by omega) hVb hDb hall
      · cases hf : first (fun v => !okAt n st tl wt k V Y D B v) n with
        | none =>
          refine absurd (fun v hv => ?_) hall
          cases hz : okAt n st tl wt k V Y D B v with
          | true => rfl
          | false =>
            have := first_none_of hf v hv
            rw [hz] at this
            simp at this
        | some v =>
          have hvn := (first_of_some hf).1
          have hck : ckAns (okAt n st tl wt k V Y D B) n = (53, (v : Int)) := by unfold ckAns; rw [hf]
          exact proves_not n va vb vc st tl wt k sv S l1 l2 l3 V Y D w hg hs h1 h2 h3 hgd hwb hSb hS hno B hB (by omega) (by omega) (by omega) hVb hDb v hvn hck
    · exact proves_len n va vb vc st tl wt k sv S l1 l2 l3 V Y D w hg hs h1 h2 h3 hgd hwb hSb hS hno hl
  · exact proves_bad N va vb vc st tl wt k sv S l1 l2 l3 V Y D w hg hs h1 h2 h3 (by omega) (by omega) (by omega) hno
end Go.Proofs.Ythoklgdlnmccmaa
