/- GraphBuilds: the walk. -/
import Derived.Test.YtmagigmcbegmiaaBjM
import Derived.Deep.RegionHeld3
import Derived.Test.YtmagigmcbegmiaaKept
import Derived.BigQuiet
import Derived.Deep.Cut
import Derived.Deep.CutRange
namespace Go.Proofs.Ytmagigmcbegmiaa
open Go.RowKit Go.Lib
set_option linter.unusedVariables false
set_option linter.unusedSimpArgs false
theorem ownE_new (X : World) (B : Nat) (hB : B = X.heap.size) : (X.alloc (.cells #[] 50)).ownsRow X.heap.size 50 3 (.slice (some ⟨B, 0, none⟩) 0 0) 0 [] := by
  subst hB; exact World.ownsRow_made X #[] 0 (Nat.le_refl _) (by unfold maxLen; omega) rfl
theorem full_below {W w1 w2 : World} {v1 : Value} {n : Nat} {xs : List Value} {o o' : Obj} (k2 : Below (W.alloc o').heap.size (W.alloc o') w1) (k1 : w1.ownsRow W.heap.size 50 3 v1 n xs) (hg : (w1.alloc o).grownBy w2 v1.ownBlock) : Below W.heap.size W w2 := by
  have h1 : Below W.heap.size W w1 := below_on ((Below.refl _ _).alloc (Nat.le_refl _) _) k2
  refine (h1.alloc h1.size _).grown hg (by have := h1.size; simp; omega) ?_
  intro j hj
  exact (k1.lt j hj).1
theorem EAt.front {w : World} {g n c : Nat} {l m : List Ed3} (h : EAt w (.slice (some ⟨g, 0, none⟩) (n + 2) c) (l ++ m)) (hn : n = l.length) (hc : n ≤ c) : EAt w (.slice (some ⟨g, 0, none⟩) n c) l := by
  obtain ⟨ao, c', he, h1, h2, h3⟩ := h
  simp only [Value.slice.injEq] at he
  obtain ⟨rfl, _, rfl⟩ := he
  refine ⟨_, c, by rw [hn], by omega, h2, fun i hi => ?_⟩
  have := h3 i (by simp; omega)
  rwa [show eAt (l ++ m) i = eAt l i by unfold eAt; rw [List.getElem?_append_left hi]] at this
theorem full_ends {w : World} {g n c : Nat} {l : List Ed3} (h : EAt w (.slice (some ⟨g, 0, none⟩) (n + 2) c) (l ++ [(-71, 0, 0), (-72, 0, 0)])) (hn : n = l.length) : w.cell? ⟨g, n * 3, none⟩ = some (.int .i64 (-71)) ∧ w.cell? ⟨g, (n + 1) * 3, none⟩ = some (.int .i64 (-72)) := by
  obtain ⟨ao, c', he, h1, h2, h3⟩ := h
  simp only [Value.slice.injEq] at he
  obtain ⟨rfl, _, rfl⟩ := he
  obtain ⟨g1, o1, q1, p1, _⟩ := h3 n (by simp [hn])
  obtain ⟨g2, o2, q2, p2, _⟩ := h3 (n + 1) (by simp [hn])
  cases q1; cases q2
  constructor
  · rw [show eAt (l ++ [((-71 : Int), (0 : Int), (0 : Int)), (-72, 0, 0)]) n = (-71, 0, 0) by unfold eAt; rw [hn, List.getElem?_append_right (Nat.le_refl _)]; simp] at p1
    simpa using p1
  · rw [show eAt (l ++ [((-71 : Int), (0 : Int), (0 : Int)), (-72, 0, 0)]) (n + 1) = (-72, 0, 0) by unfold eAt; rw [hn, List.getElem?_append_right (by omega)]; simp] at p2
    simpa using p2
theorem ne47 {w : World} {g : Nat} {L : List Ed3} {cs : Array Value} (h : FA w g L) (k : w.heap[g]? = some (.cells cs 47 (0, 0))) : False := by
  obtain ⟨T, h⟩ := h
  rw [h] at k
  simp only [Option.some.injEq, Obj.cells.injEq] at k
  exact absurd k.2.1 (by decide)
theorem mdecB {i n : Nat} (h : i < n) : n - (RowKit.intOf (.int .i64 ((i : Int) + 1))).toNat < n - (RowKit.intOf (.int .i64 (i : Int))).toNat := by simp [RowKit.intOf]; omega
set_option maxRecDepth 100000 in
set_option maxHeartbeats 16000000 in
theorem builds_law (N : Int) (ev : Value) (l : List Ed3) (w : World) (hr : EAt w ev l) (hlu : ∀ i, i < l.length → 0 ≤ (eAt l i).2.2 ∧ (eAt l i).2.2 < 18446744073709551616) (hlen : (l.length + 2) * 24 ≤ 140737488355328) :
    Calls Try.prog 5 #[.agg #[.int .i64 N, ev]] w fun e w' => e = .returned (.bool true) ∧ Below w.heap.size w w' := by
  obtain ⟨i0, ti, tz0, tz1, tz2⟩ := info_parts3 Try.info50'
  obtain ⟨ao, ca, rfl, _⟩ := id hr
  obtain ⟨n, hn⟩ : ∃ n, n = l.length := ⟨_, rfl⟩
  have HR := hide hr; have HLU := hide hlu; have HN := hide hn
  rw [← hn] at hlen HR ⊢
  clear hr hlu hn
  obtain ⟨W, hW⟩ : ∃ W, W = w.alloc (.cells #[.int .i64 N, .slice ao n ca] 47) := ⟨_, rfl⟩
  have hbW : Below w.heap.size w W := by rw [hW]; exact (Below.refl _ _).alloc (Nat.le_refl _) _
  have hA : W.heap[w.heap.size]? = some (.cells #[.int .i64 N, .slice ao n ca] 47 (0, 0)) := by rw [hW]; exact heap_new _ _
  have hE : W.heap.size = w.heap.size + 1 := by rw [hW]; simp
  have HBW := hide hbW; have HA := hide hA
  have hAA : (W.alloc (.cells #[] 50)).heap[w.heap.size]? = some (.cells #[.int .i64 N, .slice ao n ca] 47 (0, 0)) := (Below.heap_alloc _ _ _ (lt_of_heap hA)).trans hA
  have HRW := hide ((HR.out.below hbW).below ((Below.refl _ _).alloc (Nat.le_refl _) (.cells #[] 50)))
  have HOW := hide (ownE_new W W.heap.size rfl)
  have a1 := cell_of hAA (i := 1) rfl
  have HNw := hide (fun (X : World) => World.news_of_block (heap_new X (.cells #[.int .i64 (-71), .int .i64 0, .int .u64 0, .int .i64 (-72), .int .i64 0, .int .u64 0] 50)))
  clear hA hAA hbW
  go_enter Try.func5, Try.ntmps5
  rw [hW] at a1
  go_wp2_with (first
    | (at_builtin; refine wpList_freshE rfl (.tmp 10) (.tmp 12) rfl W.heap.size W.heap.size (by rw [← hW]; exact HOW.out) (by rw [← hW]; simp) _ l (by rw [hE]; rfl) rfl (by rw [← hW]; exact HRW.out) (by rw [← HN.out]; omega) ?_; intro v1 w1 k1 k2; rw [← hW] at k2; rw [← HN.out] at k1; have K1 := hide k1; have K2 := hide k2; clear k1 k2)
    | (at_builtin; refine wpList_append_lies _ rfl (.tmp 13) (.tmp 16) 45 rfl W.heap.size 50 i0 (.agg #[.int .i64 0, .int .i64 0, .int .u64 0]) 3 24 Try.underlying45 ti tz0 tz1 tz2 rfl (by decide) v1 n (eCells l) rfl (K1.out.alloc _) ⟨w1.heap.size, 0, none⟩ 2 2 [.int .i64 (-71), .int .i64 0, .int .u64 0, .int .i64 (-72), .int .i64 0, .int .u64 0] rfl rfl (HNw.out w1) (by simp [Value.oneCell']) (by omega) (by unfold maxLen; omega) (by omega) (by have := K2.out.size; simp at this ⊢; omega) _ rfl ?_; intro g cap w2 ho hg hat hlt; have hb2 : Below W.heap.size W w2 := full_below K2.out K1.out hg; have hA2 := (hb2.block _ (lt_of_heap HA.out)).trans HA.out; have HO := hide ho; have HB2 := hide hb2; have HA2 := hide hA2; have p0 := cell_of hA2 (i := 0) rfl; have p1 := cell_of hA2 (i := 1) rfl; clear ho hg hat hb2 hA2 a1)
    | fail)
  obtain ⟨hc1, hc2⟩ : n + 2 ≤ cap ∧ cap ≤ 9223372036854775807 := by
    obtain ⟨_, ⟨q, _⟩ | ⟨g', cap', cur', q, _, _, r1, r2, _⟩⟩ := HO.out
    · cases q
    · cases q; exact ⟨r1, r2⟩
  have hnc : (n : Int) ≤ (cap : Int) := by omega
  have hnc' : n ≤ cap := by omega
  go_cut [5] from 21 to 26 (fun t wx => t = .pointer (some ⟨w2.heap.size, 0, none⟩) ∧ wx.heap[w2.heap.size]? = some (.cells #[.int .i64 N, .slice (some ⟨g, 0, none⟩) n cap] 47 (0, 0)) ∧ Below w2.heap.size w2 wx ∧ wx.heap.size = w2.heap.size + 1)
  case first =>
    have pA := cellAl (.cells #[.int .i64 0, .slice none 0 0] 47) p0
    go_region
    all_goals
      go_wp2_with fail
      go_meet
      case rel => exact ⟨rfl, heap_new _ _, below_drew (below_alloc (Below.refl _ _) _), by simp⟩
  case rest =>
    obtain ⟨rfl, hI, hb3, hs3⟩ := hcut
    have hA3 := (hb3.block _ (lt_of_heap HA2.out)).trans HA2.out
    obtain ⟨X0, hX0⟩ : ∃ X0, X0 = (wc.alloc (.cells #[.int .i64 1, .int .i64 0, .int .u64 5, .int .i64 0, .int .i64 1, .int .u64 0] 50)).alloc (.cells #[.int .i64 2, .slice (some ⟨wc.heap.size, 0, none⟩) 2 2] 47) := ⟨_, rfl⟩
    have hs0 : X0.heap.size = wc.heap.size + 1 + 1 := by rw [hX0]; simp
    have hbX : Below wc.heap.size wc X0 := by rw [hX0]; exact below_alloc (below_alloc (Below.refl _ _) _) _
    have hO : X0.heap[wc.heap.size + 1]? = some (.cells #[.int .i64 2, .slice (some ⟨wc.heap.size, 0, none⟩) 2 2] 47 (0, 0)) := by
      have := heap_new (wc.alloc (.cells #[.int .i64 1, .int .i64 0, .int .u64 5, .int .i64 0, .int .i64 1, .int .u64 0] 50)) (.cells #[.int .i64 2, .slice (some ⟨wc.heap.size, 0, none⟩) 2 2] 47)
      rw [hX0]; simpa using this
    have hP : X0.heap[wc.heap.size]? = some (.cells #[.int .i64 1, .int .i64 0, .int .u64 5, .int .i64 0, .int .i64 1, .int .u64 0] 50 (0, 0)) := by
      rw [hX0]; exact (Below.heap_alloc _ _ _ (by simp)).trans (heap_new _ _)
    have hAX := (hbX.block _ (lt_of_heap hA3)).trans hA3
    have hIX := (hbX.block _ (lt_of_heap hI)).trans hI
    have hEo : EAt X0 (.slice (some ⟨wc.heap.size, 0, none⟩) 2 2) [(1, 0, 5), (0, 1, 0)] := EArr.whole (l := [(1, 0, 5), (0, 1, 0)]) (by unfold EArr; exact hP) rfl (by omega)
    have HAX := hide hAX; have HIX := hide hIX; have HB3 := hide hb3; have HBX := hide hbX; have HS3 := hide hs3; have HEO := hide hEo; have HOX := hide hO; have HPX := hide hP; have HS0 := hide hs0
    have HS := hide (BS.start X0)
    rw [hs0] at HS
    have hEf := ((own_full HO.out HN.out).below hb3).below hbX
    have hEi : EAt X0 (.slice (some ⟨g, 0, none⟩) n cap) l := EAt.front hEf HN.out (by omega)
    have hEr : EAt X0 (.slice ao n ca) l := (((HR.out.below HBW.out).below HB2.out).below hb3).below hbX
    have HEF := hide hEf; have HEI := hide hEi; have HER := hide hEr
    clear hEf hEi hEr
    have hcells := fun (y : World) (hb : Below (wc.heap.size + 1 + 1) X0 y) => And.intro ((hb.block _ (by rw [← HS0.out]; exact lt_of_heap HAX.out)).trans HAX.out) (And.intro ((hb.block _ (by rw [← HS0.out]; exact lt_of_heap HIX.out)).trans HIX.out) ((hb.block _ (by rw [← HS0.out]; exact lt_of_heap HOX.out)).trans HOX.out))
    have HCE := hide hcells
    clear p0 p1 hA3 hI hs3 hAX hIX hb3 hbX hEo hO hP hs0 hcells
    obtain ⟨X, hX⟩ : ∃ X, X = X0.alloc (.cells #[.slice none 0 0, .slice none 0 0, .slice none 0 0] 56) := ⟨_, rfl⟩
    rw [← hX] at HS
    have hBB := HS0.out.symm
    have HBB := hide hBB
    have hl0 : ∀ i, i < l.length → 0 ≤ (eAt l i).2.2 := fun i hi => (HLU.out i hi).1
    have HL0 := hide hl0
    clear hBB hl0
    obtain ⟨r1, r2, r3⟩ := HCE.out X HS.out.bel
    have x0 := cell_of r1 (i := 0) rfl; have x1 := cell_of r1 (i := 1) rfl
    have y0 := cell_of r2 (i := 0) rfl; have y1 := cell_of r2 (i := 1) rfl
    have z0 := cell_of r3 (i := 0) rfl; have z1 := cell_of r3 (i := 1) rfl
    clear r1 r2 r3
    rw [hX, hX0] at x0 x1 y0 y1 z0 z1
    go_wp2_with fail
    rw [← hX0, ← hX]
    clear hX hX0 x0 x1 y0 y1 z0 z1
    refine (HS.out.step (by omega) HBB.out HEI.out HER.out HL0.out).mono ?_
    clear HS
    rintro e Y1 ⟨rfl, hs⟩
    have HS := hide hs
    clear hs
    obtain ⟨r1, r2, r3⟩ := HCE.out Y1 HS.out.bel
    have x0 := cell_of r1 (i := 0) rfl; have x1 := cell_of r1 (i := 1) rfl
    have y0 := cell_of r2 (i := 0) rfl; have y1 := cell_of r2 (i := 1) rfl
    have z0 := cell_of r3 (i := 0) rfl; have z1 := cell_of r3 (i := 1) rfl
    clear r1 r2 r3
    go_wp2_with fail
    clear x0 x1 y0 y1 z0 z1
    refine (HS.out.step (by omega) HBB.out HEI.out HER.out HL0.out).mono ?_
    clear HS
    rintro e Y2 ⟨rfl, hs⟩
    have HS := hide hs
    clear hs
    obtain ⟨r1, r2, r3⟩ := HCE.out Y2 HS.out.bel
    have x0 := cell_of r1 (i := 0) rfl; have x1 := cell_of r1 (i := 1) rfl
    have y0 := cell_of r2 (i := 0) rfl; have y1 := cell_of r2 (i := 1) rfl
    have z0 := cell_of r3 (i := 0) rfl; have z1 := cell_of r3 (i := 1) rfl
    clear r1 r2 r3
    go_wp2_with fail
    clear x0 x1 y0 y1 z0 z1
    refine (HS.out.step (by omega) HBB.out HEO.out HEO.out (fun i hi => match i, hi with | 0, _ => (by decide) | 1, _ => (by decide))).mono ?_
    clear HS
    rintro e Y3 ⟨rfl, hs⟩
    have HS := hide hs
    clear hs
    obtain ⟨r1, r2, r3⟩ := HCE.out Y3 HS.out.bel
    have x0 := cell_of r1 (i := 0) rfl; have x1 := cell_of r1 (i := 1) rfl
    have y0 := cell_of r2 (i := 0) rfl; have y1 := cell_of r2 (i := 1) rfl
    have z0 := cell_of r3 (i := 0) rfl; have z1 := cell_of r3 (i := 1) rfl
    clear r1 r2 r3
    go_wp2_with fail
    clear x0 x1 y0 y1 z0 z1
    refine (HS.out.step (by omega) HBB.out HEI.out HER.out HL0.out).mono ?_
    clear HS
    rintro e Y4 ⟨rfl, hs⟩
    have HS := hide hs
    clear hs
    go_wp2_with fail
    refine (HS.out.apart (by omega)).mono ?_
    clear HS
    rintro e Y5 ⟨rfl, ht⟩
    have HT := hide ht
    clear ht
    obtain ⟨r1, r2, r3⟩ := HCE.out Y5 HT.out.bel
    have x0 := cell_of r1 (i := 0) rfl; have x1 := cell_of r1 (i := 1) rfl
    have hbt : Below X0.heap.size X0 Y5 := by rw [HS0.out]; exact HT.out.bel
    have hEf5 := HEF.out.below hbt
    have HM := hide (fun (y : World) (hb : Below Y5.drew.heap.size Y5.drew y) => full_ends ((hEf5.below (below_drew (Below.refl _ _))).below hb) HN.out)
    obtain ⟨m1, m2⟩ := full_ends hEf5 HN.out
    have hni : (n : Int) < ((n : Int) + 2) := by omega
    have hni2 : (n : Int) + 1 < ((n : Int) + 2) := by omega
    clear r2 r3
    go_wp2_with fail
    go_cut [87] from 64 to 86 (fun t wx => t = .bool false ∧ Below Y5.heap.size Y5 wx)
    case first =>
      have hx1 := fun (x : GW Y5) => (below_cell (o := 1) x.bel (lt_of_heap r1)).trans x1
      have hm1 := fun (x : GW Y5) => (full_ends (hEf5.below x.bel) HN.out)
      have HQ1 := fun (x : GW Y5) => (hm1 x).1
      have HQ2 := fun (x : GW Y5) => (hm1 x).2
      have HSE := hide (fun (x : GW Y5) => sameEdges_any (.slice (some ⟨g, 0, none⟩) n cap) (.slice ao n ca) l x.world (HEI.out.below (below_on hbt x.bel)) (HER.out.below (below_on hbt x.bel)))
      clear hm1
      refine wp_region_gw (by kernel_rfl) (by kernel_rfl) ?_
      repeat (go_big_quiet_step (first
        | (go_at_call 23; exact gw_of (HSE.out _))
        | rfl))
      refine wpQuiet_nil ?_
      intro _ hw'
      obtain ⟨x, hw''⟩ := hw'
      subst hw''
      go_wp2_with fail
      go_meet
      case rel => exact ⟨rfl, x.bel⟩
    case rest =>
      obtain ⟨rfl, hb6⟩ := hcut
      have hbs := HB3.out.size; have hbs2 := HBX.out.size; have hbs3 := HB2.out.size; have hbs4 := HBW.out.size; have hbs5 := hbt.size
      have hfo := FA.of_owns (L := l ++ [((-71 : Int), (0 : Int), (0 : Int)), (-72, 0, 0)]) (m := n + 2) (cap := cap) (base := W.heap.size) (g := g) (w := w2) (by simpa [eCells] using HO.out)
      have HFA := hide ((((hfo.1.below HB3.out).below HBX.out).below hbt).below hb6)
      have hgW : W.heap.size ≤ g := hfo.2
      have HG := hide hgW
      have HE9 := hide hE
      obtain ⟨L1, L2, hbk, hl1, hl2⟩ := HT.out.ex
      have HBK := hide ((hbk.below hb6).up hb6.size)
      obtain ⟨V, hV⟩ : ∃ V, V = wc := ⟨_, rfl⟩
      have HBV : Hid (Below w.heap.size w V) := by
        rw [hV]
        exact below_on (below_on (below_on (below_on (below_on HBW.out HB2.out) HB3.out) HBX.out) hbt) hb6
      obtain ⟨r1, r2, _⟩ := HCE.out Y5 HT.out.bel
      have HR1 : Hid (V.heap[w.heap.size]? = some (.cells #[.int .i64 N, .slice ao n ca] 47 (0, 0))) := by rw [hV]; exact (hb6.block _ (lt_of_heap r1)).trans r1
      have HR2 : Hid (V.heap[w2.heap.size]? = some (.cells #[.int .i64 N, .slice (some ⟨g, 0, none⟩) n cap] 47 (0, 0))) := by rw [hV]; exact (hb6.block _ (lt_of_heap r2)).trans r2
      have HL1 : Hid (L1.length ≤ 900 ∧ L2.length ≤ 900) := by refine ⟨?_, ?_⟩ <;> omega
      rw [← hV] at HFA HBK ⊢
      obtain ⟨bk, hbk0⟩ : ∃ bk, bk = X0.heap.size := ⟨_, rfl⟩
      have HK : Hid (w.heap.size ≤ bk) := by show w.heap.size ≤ bk; omega
      have HBO : X0.heap.size = bk := hbk0.symm
      rw [HS0.out] at HBO
      rw [HBO] at HBK ⊢
      have HNN := hide (hvL_nn l n HL0.out)
      clear hV hbk0 HBO r1 r2 hbk hfo hl1 hl2 hgW hb6 hbt hEf5 HM HT HCE HS0 HEF HEI HER HEO HOX HPX HBX HB3 HB2 HBW HAX HIX hbs hbs2 hbs3 hbs4 hbs5 m1 m2 x0 x1 hni hni2 HA2 HO HRW HOW HNw K1 K2 HA HBB
      have HNT := hide HN.out
      go_wp2_with fail
      go_loopw [8] (fun t wr => ∃ k : Nat, k ≤ n ∧ t = .int .i64 k ∧ FA wr g (hvL l k ++ [((-71 : Int), (0 : Int), (0 : Int)), (-72, 0, 0)]) ∧ Chg (fun b => b = g) V wr) (fun t _ => n - (RowKit.intOf t).toNat)
      case atStart => exact ⟨0, Nat.zero_le _, rfl, by rw [hvL_zero]; exact HFA.out, Chg.refl _ _⟩
      case round =>
        obtain ⟨k, hk, rfl, hf, hc⟩ := hrel
        by_cases hlt : k < n
        · have hkl : k < l.length := by rw [← HN.out]; exact hlt
          have hce := hf.cell (i := k) (by rw [List.length_append, hvL_length]; omega)
          rw [hvL_at l k hkl] at hce
          have e2 := hce.2.2
          have hfr := hf.free (k * 3 + 2)
          obtain ⟨hx1, hx2⟩ := HLU.out k hkl
          have hst := hf.half (i := k) (by rw [List.length_append, hvL_length]; omega) ((eAt l k).2.2 / 2)
          rw [hvL_at l k hkl, show ((eAt l k).1, (eAt l k).2.1, (eAt l k).2.2 / 2) = hf1 (eAt l k) from rfl, hvL_step l k hkl] at hst
          obtain ⟨x, hx⟩ : ∃ x, x = (eAt l k).2.2 := ⟨_, rfl⟩
          rw [← hx] at e2 hx1 hx2 hst
          have HST := hide hst
          have HC := hide hc
          have hki : (k : Int) < (n : Int) := by omega
          have hki2 : (k : Int) < ((n : Int) + 2) := by omega
          clear hst hc hf hce hx hkl
          go_wp2
          exact ⟨⟨k + 1, hlt, by simp, HST.out, HC.out.setCell (p := ⟨g, k * 3 + 2, none⟩) rfl _⟩, mdecB hlt⟩
        · obtain rfl : k = n := by omega
          have hBr := (HBK.out.chg HFA.out hc).up hc.size
          have hbV : Below w.heap.size w wr := Chg.below HBV.out hc (fun i hi => by have := HG.out; have := HK.out; have := lt_of_heap HR1.out; rw [hi]; have h9 := HE9.out; omega) HBV.out.size
          have q1 : wr.heap[w.heap.size]? = some (.cells #[.int .i64 N, .slice ao k ca] 47 (0, 0)) := hc.heap HR1.out (fun he => ne47 HFA.out (he ▸ HR1.out))
          have q2 : wr.heap[w2.heap.size]? = some (.cells #[.int .i64 N, .slice (some ⟨g, 0, none⟩) k cap] 47 (0, 0)) := hc.heap HR2.out (fun he => ne47 HFA.out (he ▸ HR2.out))
          have HBR := hide hBr; have HBE := hide hbV; have HF := hide hf; have HQ1 := hide q1; have HQ2 := hide q2
          have hkl : (hvL l k).length = k := by rw [hvL_length]; exact HN.out.symm
          have HKL := hide hkl
          have HEW := hide (((hf.eat (l := hvL l k) (m := k) (c := cap) hkl hnc' hc2)).below ((Below.refl _ _).alloc (Nat.le_refl _) (.cells #[] 50)))
          have HOW := hide (ownE_new wr wr.heap.size rfl)
          clear hBr hbV hf hc q1 q2 hkl hk
          go_wp2_with (first
            | (at_builtin; refine wpList_freshE rfl (.tmp 103) (.tmp 106) rfl wr.heap.size wr.heap.size HOW.out (by simp) _ (hvL l k) rfl rfl HEW.out (by rw [HKL.out]; omega) ?_; intro v9 w9 k1 k2; rw [HKL.out] at k1; obtain ⟨ao9, c9, hv9, _⟩ := EAt.of_owns (l := hvL l k) (by rw [HKL.out]; exact k1); rw [HKL.out] at hv9; subst hv9; have b9 : Below wr.heap.size wr w9 := below_on ((Below.refl _ _).alloc (Nat.le_refl _) (.cells #[] 50)) k2; have s1 := (b9.block _ (lt_of_heap HQ1.out)).trans HQ1.out; have s2 := (b9.block _ (lt_of_heap HQ2.out)).trans HQ2.out; have t0 := cell_of s1 (i := 0) rfl; have y0 := cell_of s2 (i := 0) rfl; have y1 := cell_of s2 (i := 1) rfl; have K1 := hide k1; have K2 := hide b9; clear k1 k2 b9 s1 s2)
            | fail)
          have hE1 := (HF.out.below K2.out).eat (l := hvL l k) (m := k) (c := cap) HKL.out hnc' hc2
          have hE2 := EAt.of_owns (l := hvL l k) (w := w9) (by rw [HKL.out]; exact K1.out)
          have HCL := hide (BkH.step (N := N) ((HBR.out.below K2.out).up K2.out.size) HL1.out.1 HL1.out.2 hE1 hE2 HNN.out)
          clear hE1 hE2
          refine HCL.out.mono ?_
          rintro e y ⟨rfl, hy1, hy2⟩
          have hF9 := HF.out.below K2.out
          have hFy : FA y g (hvL l k ++ [((-71 : Int), (0 : Int), (0 : Int)), (-72, 0, 0)]) := by
            obtain ⟨T, hT⟩ := hF9
            exact ⟨T, (hy2 g _ hT).trans hT⟩
          have hE1 := hFy.eat (l := hvL l k) (m := k) (c := cap) HKL.out hnc' hc2
          have hO := ownA_stay (Y := y) K1.out (fun b hb => let ⟨c, hc⟩ := ownA_type K1.out hb; hy2 b c hc)
          have hE2 := EAt.of_owns (l := hvL l k) (w := y) (by rw [HKL.out]; exact hO)
          have HBY : Hid (Below w.heap.size w y) := (below_on HBE.out K2.out).trans (hy1.mono HK.out)
          have HCS := hide (sameEdges_any _ _ _ _ hE1 hE2)
          clear hF9 hFy hE1 hO hE2 hy1 hy2 HCL t0 y0 y1
          go_wp2_with fail
          refine HCS.out.mono ?_
          rintro e z ⟨rfl, hz⟩
          have HBZ := hide (below_on HBY.out hz)
          clear hz
          go_wp2_with fail
          go_ret
          exact ⟨rfl, HBZ.out⟩
end Go.Proofs.Ytmagigmcbegmiaa
