/- search: the walk. -/
import Derived.Test.YtehlciejhegndaaFound
import Derived.Laws.EntriesVeiled
namespace Go.Proofs.Ytehlciejhegndaa
open Go.RowKit Go.Lib
set_option linter.unusedVariables false

theorem newQ_any (w : World) : Calls Try.prog 92 #[.func (.func 93) #[] #[]] w fun e w' => e = .returned (.pointer (some ⟨w.heap.size, 0, none⟩)) ∧ w' = w.alloc (.cells #[.slice none 0 0, .func (.func 93) #[] #[]] 167) := by
  go_enter Try.func92, Try.ntmps92
  go_wp2
  go_ret
  exact ⟨rfl, rfl⟩
def preW (w2 : World) (G n : Nat) : World := ((w2.alloc (.cells #[.slice (some ⟨G, 0, none⟩) n n] 23)).alloc (.cells #[.slice none 0 0, .func (.func 93) #[] #[]] 167)).alloc (.cells #[.pointer (some ⟨w2.heap.size + 1, 0, none⟩)] 137)
theorem pre_made {w2 : World} {G n : Nat} {L : List Int} {S : List Pr} (h : ArrU w2 G L) (hl : L.length = n) :
    W1 n S (preW w2 G n) (preW w2 G n) (w2.heap.size + 1) (w2.heap.size + 3) G w2.heap.size 0 (.slice none 0 0) [] L ∧ Below w2.heap.size w2 (preW w2 G n) ∧ (preW w2 G n).heap.size = w2.heap.size + 3 := by
  have hG := lt_of_heap h
  have hsz : (preW w2 G n).heap.size = w2.heap.size + 3 := by simp [preW]
  have hb : Below w2.heap.size w2 (preW w2 G n) := below_alloc (below_alloc (below_alloc (Below.refl _ _) _) _) _
  refine ⟨⟨⟨⟨?_, World.ownsRow_nil _ _ _ _, by omega, by omega⟩, (hb.block G hG).trans h, ?_, by omega, by omega, by omega, by omega, by omega, hl, ?_, by omega, by omega⟩, fun i _ h => by simp at h, fun e he => by simp at he, fun v hv => by omega, by simp, Chg.refl _ _⟩, hb, hsz⟩
  · have := heap_new (w2.alloc (.cells #[.slice (some ⟨G, 0, none⟩) n n] 23)) (.cells #[.slice none 0 0, .func (.func 93) #[] #[]] 167)
    rw [show (w2.alloc (.cells #[.slice (some ⟨G, 0, none⟩) n n] 23)).heap.size = w2.heap.size + 1 by simp] at this
    unfold preW
    rw [Below.heap_alloc _ _ _ (by simp)]
    exact this
  · unfold preW
    rw [Below.heap_alloc _ _ _ (by simp; omega), Below.heap_alloc _ _ _ (by simp)]
    exact heap_new w2 _
  · have := heap_new ((w2.alloc (.cells #[.slice (some ⟨G, 0, none⟩) n n] 23)).alloc (.cells #[.slice none 0 0, .func (.func 93) #[] #[]] 167)) (.cells #[.pointer (some ⟨w2.heap.size + 1, 0, none⟩)] 137)
    rw [show ((w2.alloc (.cells #[.slice (some ⟨G, 0, none⟩) n n] 23)).alloc (.cells #[.slice none 0 0, .func (.func 93) #[] #[]] 167)).heap.size = w2.heap.size + 2 by simp] at this
    exact this

theorem qt_sub {w : World} {Q B : Nat} {v : Value} {l : List Pr} (h : QIs w Q B v l) (k : Nat) (hk : QT w Q v k) : QS Q B k := by
  rcases hk with hk | hk | hk
  · exact .inl hk
  · right
    obtain ⟨_, ⟨rfl, _⟩ | ⟨g', c', cur, rfl, hg', _⟩⟩ := h.own
    · simp [Value.ownBlock] at hk
    · simp [Value.ownBlock] at hk; omega
  · have := h.le; exact .inr (by omega)
section
variable {n : Nat} {st tl wt : List Int} {k : Int} {S : List Pr} {w4 wr w' : World} {Q B G V M : Nat} {v1 v2 : Value} {l1 l2 : List Pr} {L : List Int} {D : Nat → Bool} {b : Int} {P : Nat}
theorem W2.pos (hg : Good n st tl wt) (h : W2 n st tl wt k S w4 wr Q B G V M v1 l1 L D b P) (hl : 0 < l1.length) : 1 ≤ M := by
  have h2 := h.cnt
  have h3 := dj_bound hg h.dj (fun _ _ e => by cases e)
  omega
/-- One taken out: (a, v). -/
structure PS (n : Nat) (st tl wt : List Int) (k : Int) (S : List Pr) (w4 wr : World) (Q B G V M : Nat) (L : List Int) (D : Nat → Bool) (b : Int) (P : Nat) (a : Int) (v : Nat) (v2 : Value) (l2 : List Pr) : Prop where
  sm : SM wr Q B G V n v2 l2 L
  hp : Hp l2
  chg : Chg (LS Q B G) w4 wr
  stale : a ≠ at_ L v → DJ n st tl wt k S L l2 D b P none
  begin_ : a = at_ L v → ∀ i : Nat, (i : Int) = at_ st v → DJ n st tl wt k S L l2 D a P (some (v, i))
  cnt : n + tl.length + l2.length = (M - 1) + P
theorem PS.below {a : Int} {v : Nat} (h : PS n st tl wt k S w4 wr Q B G V M L D b P a v v2 l2) (hb : Below wr.heap.size wr w') : PS n st tl wt k S w4 w' Q B G V M L D b P a v v2 l2 :=
  ⟨h.sm.below hb, h.hp, h.chg.trans (Chg.of_below hb), h.stale, h.begin_, h.cnt⟩
theorem PS.next {a : Int} {v : Nat} (h : PS n st tl wt k S w4 wr Q B G V M L D b P a v v2 l2) (hne : a ≠ at_ L v) : W2 n st tl wt k S w4 wr Q B G V (M - 1) v2 l2 L D b P :=
  ⟨h.sm, h.hp, h.stale hne, h.cnt, h.chg⟩
theorem W2.pop (hg : Good n st tl wt) (h : W2 n st tl wt k S w4 wr Q B G V M v1 l1 L D b P) (hl : 0 < l1.length) :
    ∃ (a : Int) (v : Nat), v < n ∧ Calls Try.prog 97 #[.pointer (some ⟨Q, 0, none⟩)] wr fun e w' => e = .returned (.agg #[.int .u64 a, .int .i64 (v : Int)]) ∧ ∃ v2 l2, PS n st tl wt k S w4 w' Q B G V M L D b P a v v2 l2 := by
  have hin : sAt l1 0 ∈ l1 := sAt_mem hl
  obtain ⟨v, hvn, hv, hle, hne, hbe⟩ := h.dj.q1 _ hin
  have he : sAt l1 0 = ((sAt l1 0).1, (v : Int)) := by rw [← hv]
  obtain ⟨m, hm⟩ : ∃ m, l1.length = m + 1 := ⟨l1.length - 1, by omega⟩
  refine ⟨(sAt l1 0).1, v, hvn, (pop_any wr Q B v1 l1 m h.sm.qi h.hp hm (by have := h.bound hg; omega)).mono ?_⟩
  rintro e w' ⟨rfl, v2, l2, p1, p2, p3, p4, p5, p6⟩
  have hpos := h.pos hg hl
  refine ⟨by unfold pCells; rw [hv], v2, l2, h.sm.queue (qt_qs h.sm.qi p5) p1, p2, h.chg.trans ((qt_qs h.sm.qi p5).mono fun k hk => .inr hk), fun hne => ?_, fun heq i hi => ?_, by have := h.cnt; omega⟩
  · exact dj_stale h.dj (fun e => by rw [p4 e, ← he]) p3 hne
  · exact dj_begin hg h.dj hvn hi (by rw [← he]; exact hin) (fun e => by rw [p4 e, ← he]) p3 (fun e he2 => h.hp.least ((p4 e).2 (.inr he2))) heq
end

set_option maxRecDepth 100000 in
set_option maxHeartbeats 8000000 in
theorem search_any2 (n : Nat) (va vb vc : Value) (st tl wt : List Int) (k : Int) (sv : Value) (S : List Pr) (w : World) (hg : GIs w n va vb vc st tl wt) (hgd : Good n st tl wt) (hw : ∀ e, 0 ≤ at_ wt e ∧ at_ wt e ≤ 18446744073709551615)
    (hs : SAt w sv S) (hok : Sok n S) (hS : S.length * 16 ≤ 140737488353280) :
    Calls Try.prog 51 #[gAgg n va vb vc, .int .i64 k, sv] w (SearchPost n st tl wt k S w) := by
  obtain ⟨ao, ca, rfl⟩ := hg.s.shape
  obtain ⟨bo, cb, rfl⟩ := hg.t.shape
  obtain ⟨co, cc, rfl⟩ := hg.u.shape
  obtain ⟨so, sc, rfl, hsc, hscm⟩ := hs.shape
  have hn := hgd.n_le
  obtain ⟨c0, c1, c2, c3, hb1, hs1⟩ := boxed w (.int .i64 n) (.slice ao st.length ca) (.slice bo tl.length cb) (.slice co wt.length cc)
  have HSTD := hide (started_any n _ S _ (hs.below hb1) hn hok hS)
  have HB1 := hide hb1
  have HG := hide hg
  have HD := hide hgd
  have HW := hide hw
  unfold gAgg
  clear hb1 hg hgd hw hs hok
  go_enter Try.func51, Try.ntmps51
  go_wp2_with fail
  generalize (w.alloc (.cells #[.int .i64 n, .slice ao st.length ca, .slice bo tl.length cb, .slice co wt.length cc] 25)) = w1 at c0 c1 c2 c3 hs1 HB1 HSTD ⊢
  refine HSTD.out.mono ?_
  rintro e w2 ⟨G, L, rfl, hG1, hA, hBG, hb2⟩
  obtain ⟨hW1, hbp, hszp⟩ := pre_made (S := S) hA hBG.len
  have HW1 := hide hW1
  have HBG := hide hBG
  have HB4 := hide (below_on HB1.out (below_on hb2 hbp))
  have HX4 := hide (box_keep hs1 (below_on hb2 hbp) ⟨c0, c1, c2, c3⟩)
  have hGl := lt_of_heap hA
  have hs2 : w.heap.size < w2.heap.size := by have := hb2.size; omega
  have hG0 : w.heap.size < G := by omega
  have v0 : (preW w2 G n).cell? ⟨w2.heap.size, 0, none⟩ = some (.slice (some ⟨G, 0, none⟩) n n) := cell_of hW1.sm.var_ rfl
  have HSZP := hide hszp
  have hLn := hBG.len
  clear hW1 hA hBG hb2 hbp hszp HSTD c0 c1 c2 c3
  have HNQ := hide (newQ_any (w2.alloc (.cells #[.slice (some ⟨G, 0, none⟩) n n] 23)))
  rw [show (w2.alloc (.cells #[.slice (some ⟨G, 0, none⟩) n n] 23)).heap.size = w2.heap.size + 1 by simp] at HNQ
  go_wp2_with fail
  refine HNQ.out.mono ?_
  rintro e w3 ⟨rfl, rfl⟩
  clear HNQ
  go_wp2_with fail
  rw [show (((w2.alloc (.cells #[.slice (some ⟨G, 0, none⟩) n n] 23)).alloc (.cells #[.slice none 0 0, .func (.func 93) #[] #[]] 167)).alloc (.cells #[.pointer (some ⟨w2.heap.size + 1, 0, none⟩)] 137)) = preW w2 G n from rfl]
  generalize preW w2 G n = w4 at HW1 HB4 HX4 v0 HSZP ⊢
  obtain ⟨V, hV⟩ : ∃ V, V = w2.heap.size := ⟨_, rfl⟩
  obtain ⟨Q, hQ⟩ : ∃ Q, Q = w2.heap.size + 1 := ⟨_, rfl⟩
  obtain ⟨B, hB⟩ : ∃ B, B = w2.heap.size + 3 := ⟨_, rfl⟩
  rw [← hQ, ← hB, ← hV] at HW1
  rw [← hQ, ← hV]
  rw [← hB] at HSZP
  rw [← hV] at v0
  have hwV : w.heap.size < V := by omega
  have hwQ : w.heap.size < Q := by omega
  have hwB : w.heap.size < B := by omega
  have HLS := hide (fun j (hj : j ≤ w.heap.size) => ls_old (w := w) (w4 := w4) (Q := Q) (B := B) (G := G) hG0 hwQ hwB j hj)
  have hsw4 : w.heap.size < w4.heap.size := by have := HSZP.out; omega
  have HBXC : Hid (∀ W, Chg (LS Q B G) w4 W → (W.cell? ⟨w.heap.size, 0, none⟩ = some (.int .i64 n) ∧ W.cell? ⟨w.heap.size, 1, none⟩ = some (.slice ao st.length ca) ∧ W.cell? ⟨w.heap.size, 2, none⟩ = some (.slice bo tl.length cb) ∧ W.cell? ⟨w.heap.size, 3, none⟩ = some (.slice co wt.length cc)) ∧ Below w.heap.size w W) := fun W hW => by
    have hc : ∀ o, W.cell? ⟨w.heap.size, o, none⟩ = w4.cell? ⟨w.heap.size, o, none⟩ := fun o => by simp only [World.cell?]; rw [hW.block _ hsw4 (HLS.out _ (Nat.le_refl _))]
    refine ⟨⟨(hc 0).trans HX4.out.1, (hc 1).trans HX4.out.2.1, (hc 2).trans HX4.out.2.2.1, (hc 3).trans HX4.out.2.2.2⟩, below_of_chg HB4.out hW (fun j hj => HLS.out j (by omega))⟩
  clear hV hQ hB hGl hs2 HX4 HB4 hs1 hG1
  go_loopw [21] (fun t wr => ∃ (i : Nat) (v1 : Value) (l1 : List Pr), i ≤ n ∧ t = .int .i64 i ∧ W1 n S w4 wr Q B G V i v1 l1 L) (fun t _ => n - (RowKit.intOf t).toNat)
  case atStart => exact ⟨0, _, _, by omega, rfl, HW1.out⟩
  case round =>
    obtain ⟨i, v1, l1, hin, rfl, hW1⟩ := hrel
    have HWR := hide hW1
    by_cases hlt : i < n
    · have f0 := hW1.sm.arr.cell i (by omega)
      have HWT := hide (wait_any wr Q B G V n v1 l1 L hW1.sm hW1.hp (by have := hW1.len; omega) i hlt hn)
      have HSK := hide (fun h => hW1.skip h)
      have HWA := hide (fun w' v2 l2 hne a b c d e => hW1.wait (w' := w') (v2 := v2) (l2 := l2) hlt HBG.out hne a b c d e)
      obtain ⟨y, hy⟩ : ∃ y, y = at_ L i := ⟨_, rfl⟩
      rw [← hy] at f0 HWT HSK HWA
      clear hW1 hy
      by_cases hne : y = 18446744073709551615
      · have hnb : (y != 18446744073709551615) = false := by simp [hne]
        have HS2 := hide (HSK.out hne)
        clear hne
        go_wp2
        exact ⟨⟨i + 1, v1, l1, by omega, by simp, HS2.out⟩, by simp [RowKit.intOf]; omega⟩
      · have hnb : (y != 18446744073709551615) = true := by simp [hne]
        have HNE : Hid (y ≠ Nev) := hne
        clear hne
        go_wp2_with fail
        refine HWT.out.mono ?_
        rintro e w5 ⟨rfl, v2, l2, g1, g2, g3, g4, g5, g6⟩
        have HN2 := hide (HWA.out w5 v2 l2 HNE.out g1 g2 g3 g4 g5)
        clear g1 g2 g3 g4 g5 g6 HWA HWT HSK f0
        go_wp2
        exact ⟨⟨i + 1, v2, l2, by omega, by simp, HN2.out⟩, by simp [RowKit.intOf]; omega⟩
    · obtain rfl : i = n := by omega
      have HW2 := hide (W1.all (k := k) HD.out hW1 HBG.out)
      clear hW1 v0
      go_wp2
      clear HW1 HWR HLS
      go_loopg [] (i + tl.length) (fun M wr => ∃ (v1 : Value) (l1 : List Pr) (L1 : List Int) (D : Nat → Bool) (b : Int) (P : Nat), W2 i st tl wt k S w4 wr Q B G V M v1 l1 L1 D b P)
      case atStart => exact ⟨_, _, _, _, _, _, HW2.out⟩
      case round =>
        obtain ⟨v1, l1, L1, D, b, P, h2⟩ := hrel
        have H2 := hide h2
        have HEM := hide (empty_any wr Q B v1 l1 h2.sm.qi)
        have qv0 := cell_of h2.sm.qv (i := 0) rfl
        rcases Nat.eq_zero_or_pos l1.length with hl0 | hl0
        · rw [decide_eq_true hl0] at HEM
          obtain rfl : l1 = [] := List.eq_nil_of_length_eq_zero hl0
          have HEND : Hid (SearchPost i st tl wt k S w (.returned (.slice (some ⟨G, 0, none⟩) i i)) wr) := ⟨G, L1, rfl, Nat.le_of_lt hG0, h2.sm.arr, h2.found HD.out, (HBXC.out _ h2.chg).2⟩
          have vc := cell_of h2.sm.var_ (i := 0) rfl
          clear h2 hl0
          go_wp2_with fail
          refine HEM.out.mono ?_
          rintro e w5 ⟨rfl, rfl⟩
          go_wp2
          go_ret
          exact HEND.out
        · rw [decide_eq_false (by omega)] at HEM
          obtain ⟨a, v, hvn, hpop⟩ := h2.pop HD.out hl0
          have HPOP := hide hpop
          have HM1 : Hid (1 ≤ gk) := h2.pos HD.out hl0
          clear h2 hpop hl0
          go_wp2_with fail
          refine HEM.out.mono ?_
          rintro e w5 ⟨rfl, rfl⟩
          go_wp2_with fail
          refine HPOP.out.mono ?_
          rintro e w6 ⟨rfl, v2, l2, hps⟩
          have hba : Below w6.heap.size w6 (w6.alloc (.cells #[.int .u64 a, .int .i64 (v : Int)] 140)) := below_alloc (Below.refl _ _) _
          have hbx : (w6.alloc (.cells #[.int .u64 a, .int .i64 (v : Int)] 140)).heap[w6.heap.size]? = some (.cells #[.int .u64 a, .int .i64 (v : Int)] 140 (0, 0)) := heap_new _ _
          have p0 := cell_of hbx (i := 0) rfl
          have p1 := cell_of hbx (i := 1) rfl
          have hps2 := hps.below hba
          have HPS := hide hps2
          have q0 := cell_of hps2.sm.var_ (i := 0) rfl
          have q1 := hps2.sm.arr.cell v (by rw [hps2.sm.len]; exact hvn)
          obtain ⟨⟨x0, x1, x2, x3⟩, _⟩ := HBXC.out _ hps2.chg
          have hvi : (v : Int) < (i : Int) := by omega
          obtain ⟨y, hy⟩ : ∃ y, y = at_ L1 v := ⟨_, rfl⟩
          rw [← hy] at q1
          have HY := hide hy
          clear hps hps2 hba hbx HPOP HEM hy
          by_cases hay : a = y
          · have hab : (a == y) = true := by simp [hay]
            have HAY := hide hay
            obtain ⟨i0, hi0⟩ : ∃ i0 : Nat, (i0 : Int) = at_ st v := ⟨(at_ st v).toNat, by have := (HD.out.range v (by omega)).1; omega⟩
            have HSP : Hid (∀ m, Calls Try.prog 98 #[gAgg i (.slice ao st.length ca) (.slice bo tl.length cb) (.slice co wt.length cc), .int .i64 k, .slice (some ⟨G, 0, none⟩) i i, .int .i64 (v : Int), .func (.func 94) #[] #[.pointer (some ⟨Q + 1, 0, none⟩), .pointer (some ⟨V, 0, none⟩)]] ((w6.alloc (.cells #[.int .u64 a, .int .i64 (v : Int)] 140)).drewN m) (fun e w' => e = .returned (.tuple #[]) ∧ ∃ v3 l3 L3 D3 b3 P3, W2 i st tl wt k S w4 w' Q B G V (gk - 1) v3 l3 L3 D3 b3 P3)) := fun m => by
              have hpm := HPS.out.below (below_drewN (Below.refl _ _) m)
              have hb0 := (HBXC.out _ hpm.chg).2
              refine (spread_any i _ _ _ st tl wt k S w _ Q B G V (gk - 1) v i0 v2 l2 L1 D a P HG.out HD.out HW.out hb0 hpm.sm hpm.hp hvn hi0 (hpm.begin_ (by rw [HAY.out, HY.out]) i0 hi0) (by rw [HAY.out, HY.out]) hpm.cnt (by omega) (by omega) (by omega)).mono ?_
              rintro e w' ⟨rfl, v3, l3, L3, P3, s1, s2, s3, s4, s5, s6⟩
              refine ⟨rfl, v3, l3, L3, _, _, P3, s1, s2, s3, s4, hpm.chg.trans (s5.mono fun j hj => ?_)⟩
              rcases hj with hj | hj
              · exact .inl hj
              · exact .inr (qt_sub hpm.sm.qi j hj)
            unfold gAgg at HSP
            clear hay hi0
            go_wp2_with fail
            go_quiet (fail)
            go_wp2_with fail
            refine (HSP.out _).mono ?_
            rintro e w8 ⟨rfl, hw2⟩
            have HN2 := hide hw2
            clear hw2 p0 p1 q0 q1 x0 x1 x2 x3 HSP
            go_wp2
            go_roundg (gk - 1)
            case measure => have := HM1.out; omega
            case rel => exact HN2.out
          · have hab : (a == y) = false := by simp [hay]
            have HNE : Hid (a ≠ at_ L1 v) := by rw [← HY.out]; exact hay
            clear hay
            go_wp2_with fail
            go_quiet (fail)
            go_wp2
            go_roundg (gk - 1)
            case measure => have := HM1.out; omega
            case rel => exact ⟨_, _, _, _, _, _, (HPS.out.below (below_drewN (Below.refl _ _) _)).next HNE.out⟩
end Go.Proofs.Ytehlciejhegndaa
