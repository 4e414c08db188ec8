import Derived.Test.YtgjdjdgondpjeaaGreatTo
import Derived.Test.YtgjdjdgondpjeaaGreatSoS
import Derived.Deep.RegionHeld3
import Derived.Test.YtgjdjdgondpjeaaGreatRg
/- The reference: before 66; parts of a list of tasks. -/

namespace Go.Proofs.YtgjdjdgondpjeaaGreat
open Go.RowKit Go.Lib
set_option linter.unusedVariables false
set_option linter.unusedSimpArgs false
set_option maxHeartbeats 1000000 in
theorem before_any (x0 x1 y0 y1 : Int) (W : World) : Calls Tryz.prog 64 #[.agg #[.int .u64 x0, .int .u64 x1], .agg #[.int .u64 y0, .int .u64 y1]] W fun e w' => e = .returned (.bool (tlt (x0, x1) (y0, y1))) ∧ Below W.heap.size W w' := by
  have HA := hide (heap_new W (.cells #[.int .u64 x0, .int .u64 x1] 42))
  have HB := hide (heap_new (W.alloc (.cells #[.int .u64 x0, .int .u64 x1] 42)) (.cells #[.int .u64 y0, .int .u64 y1] 42))
  have hb2 := below_alloc (Below.refl (W.alloc (.cells #[.int .u64 x0, .int .u64 x1] 42)).heap.size (W.alloc (.cells #[.int .u64 x0, .int .u64 x1] 42))) (.cells #[.int .u64 y0, .int .u64 y1] 42)
  have hA2 := (hb2.block W.heap.size (by simp)).trans HA.out
  have hs1 : (W.alloc (.cells #[.int .u64 x0, .int .u64 x1] 42)).heap.size = W.heap.size + 1 := by simp
  have hB2 := HB.out
  rw [hs1] at hB2
  have HBel := hide (below_alloc (below_alloc (Below.refl W.heap.size W) (.cells #[.int .u64 x0, .int .u64 x1] 42)) (.cells #[.int .u64 y0, .int .u64 y1] 42))
  by_cases h1 : x0 < y0
  · have ht : tlt (x0, x1) (y0, y1) = true := by rw [tlt_iff]; exact Or.inl h1
    rw [ht]
    clear ht
    go_enter Tryz.func64, Tryz.ntmps64
    go_wp2_with fail
    clear hb2 HA HB hs1
    generalize ((W.alloc (.cells #[.int .u64 x0, .int .u64 x1] 42)).alloc (.cells #[.int .u64 y0, .int .u64 y1] 42)) = W2 at hA2 hB2 HBel ⊢
    have c0 := cell_of (i := 0) hA2 rfl
    have c1 := cell_of (i := 1) hA2 rfl
    have c2 := cell_of (i := 0) hB2 rfl
    have c3 := cell_of (i := 1) hB2 rfl
    clear hA2 hB2
    go_wp2
    go_ret
    exact ⟨rfl, HBel.out⟩
  · by_cases h2 : x0 = y0
    · subst h2
      have ht : tlt (x0, x1) (x0, y1) = decide (x1 < y1) := by unfold tlt; simp
      rw [ht]
      clear ht h1
      go_enter Tryz.func64, Tryz.ntmps64
      go_wp2_with fail
      clear hb2 HA HB hs1
      generalize ((W.alloc (.cells #[.int .u64 x0, .int .u64 x1] 42)).alloc (.cells #[.int .u64 x0, .int .u64 y1] 42)) = W2 at hA2 hB2 HBel ⊢
      have c0 := cell_of (i := 0) hA2 rfl
      have c1 := cell_of (i := 1) hA2 rfl
      have c2 := cell_of (i := 0) hB2 rfl
      have c3 := cell_of (i := 1) hB2 rfl
      have h1 : ¬ x0 < x0 := by omega
      clear hA2 hB2
      go_wp2
      go_ret
      exact ⟨rfl, HBel.out⟩
    · have ht : tlt (x0, x1) (y0, y1) = false := by rw [tlt_niff]; simp; omega
      rw [ht]
      clear ht
      go_enter Tryz.func64, Tryz.ntmps64
      go_wp2_with fail
      clear hb2 HA HB hs1
      generalize ((W.alloc (.cells #[.int .u64 x0, .int .u64 x1] 42)).alloc (.cells #[.int .u64 y0, .int .u64 y1] 42)) = W2 at hA2 hB2 HBel ⊢
      have c0 := cell_of (i := 0) hA2 rfl
      have c1 := cell_of (i := 1) hA2 rfl
      have c2 := cell_of (i := 0) hB2 rfl
      have c3 := cell_of (i := 1) hB2 rfl
      clear hA2 hB2
      go_wp2
      go_ret
      exact ⟨rfl, HBel.out⟩
theorem TAt.take {w : World} {ao : Option Addr} {n c : Nat} {l : List Tk} (h : TAt w (.slice ao n c) l) (k : Nat) (hk : k ≤ l.length) : TAt w (.slice ao k c) (l.take k) := by
  obtain ⟨ao', c', he, h1, h2, h3⟩ := h
  simp only [Value.slice.injEq] at he
  obtain ⟨rfl, rfl, rfl⟩ := he
  have hl : (l.take k).length = k := by simp [hk]
  refine ⟨ao, c, by rw [hl], by omega, h2, fun i hi => ?_⟩
  obtain ⟨g, o, e, p, q⟩ := h3 i (by omega)
  have et : tAt (l.take k) i = tAt l i := by simp only [tAt]; rw [List.getElem?_take, if_pos (by omega)]
  rw [et]
  exact ⟨g, o, e, p, q⟩
theorem TAt.drop {w : World} {g o n c : Nat} {l : List Tk} (h : TAt w (.slice (some ⟨g, o, none⟩) n c) l) (k : Nat) (hk : k ≤ l.length) : TAt w (.slice (some ⟨g, o + k * 2, none⟩) (n - k) (c - k)) (l.drop k) := by
  obtain ⟨ao', c', he, h1, h2, h3⟩ := h
  simp only [Value.slice.injEq] at he
  obtain ⟨rfl, rfl, rfl⟩ := he
  have hl : (l.drop k).length = l.length - k := by simp
  refine ⟨_, c - k, by rw [hl], by omega, by omega, fun i hi => ?_⟩
  obtain ⟨g', o', e, p, q⟩ := h3 (k + i) (by omega)
  simp only [Option.some.injEq, Addr.mk.injEq, and_true] at e
  obtain ⟨rfl, rfl⟩ := e
  have et : tAt (l.drop k) i = tAt l (k + i) := by simp only [tAt]; rw [List.getElem?_drop]
  rw [et]
  refine ⟨g, o + k * 2, rfl, ?_, ?_⟩
  · rw [show o + k * 2 + i * 2 = o + (k + i) * 2 by omega]; exact p
  · rw [show o + k * 2 + i * 2 + 1 = o + (k + i) * 2 + 1 by omega]; exact q
end Go.Proofs.YtgjdjdgondpjeaaGreat

/- The reference's Sorted 38: whatever the list (under 2^43 tasks), a new list that holds the sorted tasks. -/

namespace Go.Proofs.YtgjdjdgondpjeaaGreat
open Go.RowKit Go.Lib
set_option linter.unusedVariables false
set_option linter.unusedSimpArgs false
/-- The merging under way. -/
def MG (wB : World) (a b l : List Tk) (v : Value) (i j : Nat) (X : World) : Prop := ∃ d, TOwn X wB.heap.size v d ∧ d ++ (a.drop i).merge (b.drop j) tle = srt l ∧ Below wB.heap.size wB X
theorem one_at (w : World) (x0 x1 : Value) (t : TypeId) : ∀ j u, [x0, x1][j]? = some u → (w.alloc (.cells #[x0, x1] t)).cell? ((⟨w.heap.size, 0, none⟩ : Addr).add j) = some u := two_at w x0 x1 t
theorem sorted_small (l : List Tk) (v : Value) (w : World) (h : TAt w v l) (hl : l.length < 2) :
    Calls Tryz.prog 25 #[v] w fun e w' => ∃ u, e = .returned u ∧ TOwn w' w.heap.size u (srt l) ∧ Below w.heap.size w w' := by
  obtain ⟨ao, c, rfl, hc, hm⟩ := h.shape
  rw [srt_small hl]
  obtain ⟨i0, hi, hz0, hz1, hz2⟩ := info_parts Tryz.info42
  have HL := hide h
  have hl' : ((l.length : Nat) : Int) < 2 := by omega
  clear h
  obtain ⟨n, hn⟩ : ∃ n, n = l.length := ⟨_, rfl⟩
  rw [← hn] at hc hl' HL ⊢
  have HN := hide hn
  clear hn
  go_enter Tryz.func25, Tryz.ntmps25
  go_wp2_with (at_builtin; refine wpList_freshT rfl (.tmp 11) (.tmp 12) 24 rfl 42 i0 (.agg #[.int .u64 0, .int .u64 0]) Tryz.underlying24 hi hz0 hz1 hz2 rfl w.heap.size _ (own_new2 _ 42 w.heap.size rfl) (by simp) _ l rfl rfl (HL.out.below (below_alloc (Below.refl _ _) _)) (by omega) (by unfold maxLen; omega) ?_; intro v4 w4 hownA hbelA)
  have hb := below_on (below_alloc (Below.refl _ _) _) hbelA
  go_ret
  exact ⟨_, rfl, hownA, hb⟩
theorem mg_step {wB X w' : World} {a b l : List Tk} {v v' : Value} {i' j' : Nat} {d : List Tk} {p0 p1 : Int} {o : Obj}
    (hd : TOwn X wB.heap.size v d) (hb : Below wB.heap.size wB X) (hown : w'.ownsRow wB.heap.size 42 2 v' (d.length + 1) (tCells d ++ [.int .u64 p0, .int .u64 p1])) (hgrow : (X.alloc o).grownBy w' v.ownBlock)
    (he : d ++ (p0, p1) :: (a.drop i').merge (b.drop j') tle = srt l) : MG wB a b l v' i' j' w' := by
  refine ⟨d ++ [(p0, p1)], ?_, by simpa using he, ?_⟩
  · unfold TOwn; rw [tCells_snoc]; simpa using hown
  · exact (below_alloc hb o).grown hgrow (by have := hb.size; simp; omega) (fun k e => (World.ownsRow.lt hd k e).1)
theorem below_on' {B : Nat} {a w w' : World} (h : Below B a w) (k : Below w.heap.size w w') (hB : B ≤ w.heap.size := by exact Nat.le_trans (Nat.le_refl _) h.size) : Below B a w' := h.trans (k.mono hB)
theorem own_lower {w : World} {a b : Nat} {v : Value} {l : List Tk} (h : TOwn w a v l) (hb : b ≤ a) : TOwn w b v l :=
  ⟨h.1, h.2.imp id fun ⟨g, cap, cur, he, hg, r⟩ => ⟨g, cap, cur, he, Nat.le_trans hb hg, r⟩⟩
set_option maxRecDepth 100000 in
set_option maxHeartbeats 8000000 in
theorem sorted_any : ∀ (N : Nat) (l : List Tk), l.length ≤ N → l.length * 16 ≤ 140737488355328 → ∀ (v : Value) (w : World), TAt w v l →
    Calls Tryz.prog 25 #[v] w fun e w' => ∃ u, e = .returned u ∧ TOwn w' w.heap.size u (srt l) ∧ Below w.heap.size w w' := by
  intro N
  induction N with
  | zero => intro l hN hB v w h; exact sorted_small l v w h (by omega)
  | succ N ih =>
    intro l hN hB v w h
    by_cases hl : l.length < 2
    · exact sorted_small l v w h hl
    obtain ⟨ao, c, rfl, hc, hm⟩ := h.shape
    obtain ⟨g, o, rfl, _⟩ := h.cellAt 0 (by omega)
    obtain ⟨i0, hi, hz0, hz1, hz2⟩ := info_parts Tryz.info42
    obtain ⟨K, hK⟩ : ∃ K, K = l.length / 2 := ⟨_, rfl⟩
    have l1 : (l.take K).length = K := by simp; omega
    have l2 : (l.drop K).length = l.length - K := by simp
    have H1 := hide (fun X (hX : Below w.heap.size w X) => ih (l.take K) (by omega) (by omega) _ X ((h.below hX).take K (by omega)))
    have H2 := hide (fun X (hX : Below w.heap.size w X) => ih (l.drop K) (by omega) (by omega) _ X ((h.below hX).drop K (by omega)))
    obtain ⟨A, hA⟩ : ∃ A, A = srt (l.take K) := ⟨_, rfl⟩
    obtain ⟨B, hBd⟩ : ∃ B, B = srt (l.drop K) := ⟨_, rfl⟩
    have LA : A.length = K := by rw [hA, srt_length, l1]
    have LB : B.length = l.length - K := by rw [hBd, srt_length, l2]
    have HME : Hid (A.merge B tle = srt l) := hide (by rw [hA, hBd]; exact srt_halves l K)
    rw [← hA] at H1
    rw [← hBd] at H2
    have HS := hide (srt_length l)
    obtain ⟨n, hn⟩ : ∃ n, n = l.length := ⟨_, rfl⟩
    rw [← hn] at hN hB hl hc hK LB l2 HS H2 ⊢
    have hq : (n : Int) / 2 = (K : Int) := by omega
    have hnl : ¬ (n : Int) < 2 := by omega
    have k1 : (K : Int) ≤ (n : Int) := by omega
    have k2 : (n : Int) ≤ (c : Int) := by omega
    have k3 : (K : Int) ≤ (c : Int) := by omega
    have hwr : IntKind.i64.wrap (K : Int) = (K : Int) := IntWalk.i64_in _ (by omega)
    have HK := hide hK
    have HLA := hide LA
    have HLB := hide LB
    have HB := hide hB
    have hm' : (c : Int) ≤ 9223372036854775807 := by omega
    clear h ih hA hBd l1 l2 hn hK LA LB hB hN
    rename_i hx0
    clear hx0
    go_enter Tryz.func25, Tryz.ntmps25
    go_wp2_with fail
    refine (H1.out _ (Below.refl _ _)).mono ?_
    rintro e w1 ⟨u1, rfl, ht1, hb1⟩
    obtain ⟨a1, c1, rfl, _, _⟩ := ht1.tat.shape
    rw [HLA.out]
    have HA1 := hide ht1.tat
    have HB1 := hide hb1
    clear ht1 hb1
    go_wp2_with fail
    refine (H2.out _ HB1.out).mono ?_
    rintro e w2 ⟨u2, rfl, ht2, hb2⟩
    obtain ⟨a2, c2, rfl, _, _⟩ := ht2.tat.shape
    rw [HLB.out]
    have HA2 := hide (HA1.out.below hb2)
    have HA3 := hide ht2.tat
    have HB2 := hide (below_on HB1.out hb2)
    clear ht2 hb2 HA1 HB1 H1 H2
    obtain ⟨P, hP⟩ : ∃ P, P = n - K := ⟨_, rfl⟩
    rw [← hP] at HLB ⊢
    have HP := hide hP
    have HG0 : Hid (MG w2 A B l (.slice (some ⟨w2.heap.size, 0, none⟩) 0 0) 0 0 (w2.alloc (.cells #[] 42))) := hide ⟨[], own_new2 _ 42 w2.heap.size rfl, by simpa using HME.out, below_alloc (Below.refl _ _) _⟩
    clear hP hq hnl k1 k2 k3 hwr hl hc hm hm'
    go_wp2_with fail
    generalize (w2.alloc (.cells #[] 42)) = w3 at HG0 ⊢
    have kb : K ≤ 8796093022208 := by have := HB.out; have := HK.out; omega
    have pb : P ≤ 8796093022208 := by have := HB.out; have := HP.out; omega
    rw [HLA.out] at HA2
    rw [HLB.out] at HA3
    go_loopw [5, 6, 7] (fun v ti tj wr => ∃ i j : Nat, i ≤ K ∧ j ≤ P ∧ ti = .int .i64 i ∧ tj = .int .i64 j ∧ MG w2 A B l v i j wr) (fun _ ti tj _ => (K - (RowKit.intOf ti).toNat) + (P - (RowKit.intOf tj).toNat))
    case atStart => exact ⟨0, 0, by omega, by omega, rfl, rfl, HG0.out⟩
    case round =>
      obtain ⟨i, j, hiK, hjP, rfl, rfl, d, hd, he, hb⟩ := hrel
      clear HG0
      have HKn : Hid (K ≤ n) := hide (by have := HK.out; omega)
      have HD := hide hd
      have HBX := hide hb
      have HCA : Hid (i < K → ∃ g o, a1 = some ⟨g, o, none⟩ ∧ wr.cell? ⟨g, o + i * 2, none⟩ = some (.int .u64 (tAt A i).1) ∧ wr.cell? ⟨g, o + i * 2 + 1, none⟩ = some (.int .u64 (tAt A i).2)) := fun h => (HA2.out.below hb).cellAt i (by have := HLA.out; omega)
      have HCB : Hid (j < P → ∃ g o, a2 = some ⟨g, o, none⟩ ∧ wr.cell? ⟨g, o + j * 2, none⟩ = some (.int .u64 (tAt B j).1) ∧ wr.cell? ⟨g, o + j * 2 + 1, none⟩ = some (.int .u64 (tAt B j).2)) := fun h => (HA3.out.below hb).cellAt j (by have := HLB.out; omega)
      have HE := hide he
      have HLE : Hid (d.length + ((A.drop i).merge (B.drop j) tle).length = n) := hide (by rw [← List.length_append, he]; exact HS.out)
      clear hd he hb
      obtain ⟨x0, hx0⟩ : ∃ x, x = (tAt A i).1 := ⟨_, rfl⟩
      obtain ⟨x1, hx1⟩ : ∃ x, x = (tAt A i).2 := ⟨_, rfl⟩
      obtain ⟨y0, hy0⟩ : ∃ x, x = (tAt B j).1 := ⟨_, rfl⟩
      obtain ⟨y1, hy1⟩ : ∃ x, x = (tAt B j).2 := ⟨_, rfl⟩
      have eA : tAt A i = (x0, x1) := by rw [hx0, hx1]
      have eB : tAt B j = (y0, y1) := by rw [hy0, hy1]
      rw [← hx0, ← hx1] at HCA
      rw [← hy0, ← hy1] at HCB
      have HLm : Hid (i < K → (B.length ≤ j ∨ tlt (y0, y1) (x0, x1) = false) → d ++ (x0, x1) :: (A.drop (i + 1)).merge (B.drop j) tle = srt l ∧ d.length + 1 ≤ n) := fun h1 h2 => by
        have e := merge_left (a := A) (b := B) (i := i) (j := j) (by have := HLA.out; omega) (by rw [eA, eB]; exact h2)
        have e2 := HE.out
        have e3 := HLE.out
        rw [e] at e2 e3
        rw [eA] at e2
        exact ⟨e2, by simp at e3; omega⟩
      have HRm : Hid (j < P → (A.length ≤ i ∨ tlt (y0, y1) (x0, x1) = true) → d ++ (y0, y1) :: (A.drop i).merge (B.drop (j + 1)) tle = srt l ∧ d.length + 1 ≤ n) := fun h1 h2 => by
        have e := merge_right (a := A) (b := B) (i := i) (j := j) (by have := HLB.out; omega) (by rw [eA, eB]; exact h2)
        have e2 := HE.out
        have e3 := HLE.out
        rw [e] at e2 e3
        rw [eB] at e2
        exact ⟨e2, by simp at e3; omega⟩
      have hwi : IntKind.i64.wrap ((i : Int) + 1) = (i : Int) + 1 := IntWalk.i64_in _ (by omega)
      have hwj : IntKind.i64.wrap ((j : Int) + 1) = (j : Int) + 1 := IntWalk.i64_in _ (by omega)
      have HBF := hide (fun W => before_any y0 y1 x0 x1 W)
      clear hx0 hx1 hy0 hy1 eA eB
      by_cases hia : i < K
      · obtain ⟨ga, oa, rfl, p0, p1⟩ := HCA.out hia
        have q0 := gw_cell p0
        have q1 := gw_cell p1
        have i1 : (i : Int) < (K : Int) := by omega
        by_cases hjb : j < P
        · obtain ⟨gb, ob, rfl, r0, r1⟩ := HCB.out hjb
          have s0 := gw_cell r0
          have s1 := gw_cell r1
          have j1 : (j : Int) < (P : Int) := by omega
          have j2 : ¬ (P : Int) ≤ (j : Int) := by omega
          have j3 : ¬ P ≤ j := by omega
          have j4 : decide (P ≤ j) = false := by simp; omega
          by_cases ht : tlt (y0, y1) (x0, x1) = true
          · rw [ht] at HBF
            obtain ⟨hEQ, hdn⟩ := HRm.out hjb (Or.inr ht)
            have HEQ := hide hEQ
            clear hEQ ht
            go_wp2_with fail
            refine wp_region_gw (by kernel_rfl) (by kernel_rfl) ?_
            repeat (go_big_quiet_step (first
              | (go_at_call 64; exact gw_of (HBF.out _))
              | rfl))
            refine wpQuiet_nil ?_
            intro _ hw'
            obtain ⟨x', hw''⟩ := hw'
            subst hw''
            have HD4 := hide (HD.out.below x'.bel)
            have HB4 := hide (below_on HBX.out x'.bel)
            have m0 := (below_cell x'.bel (block_of_cell r0)).trans r0
            have m1 := (below_cell x'.bel (block_of_cell r1)).trans r1
            generalize x'.world = W4 at HD4 HB4 m0 m1 ⊢
            clear x'
            clear q0 q1 s0 s1 p0 p1 r0 r1
            go_wp2_with (at_builtin; refine wpList_append_own _ rfl (.tmp 68) (.tmp 73) 24 rfl _ 42 i0 (.agg #[.int .u64 0, .int .u64 0]) 2 16 Tryz.underlying24 hi hz0 hz1 hz2 rfl (by decide) _ _ _ rfl (World.ownsRow.alloc (show W4.ownsRow w2.heap.size 42 2 u5 d.length (tCells d) from HD4.out) _) ⟨W4.heap.size, 0, none⟩ 1 1 [.int .u64 y0, .int .u64 y1] rfl rfl (two_at W4 _ _ _) (by simp [Value.oneCell']) (by have := HB.out; unfold maxLen; omega) (by have := HB.out; omega) (by have := HB4.out.size; simp; omega) ?_; intro v5 w5 hownB hgrowB hqB; have HR5 := hide (mg_step HD4.out HB4.out hownB hgrowB HEQ.out); clear hownB hgrowB hqB)
            go_roundw
            case rel => exact ⟨i, j + 1, by omega, by omega, rfl, by simp, HR5.out⟩
            case measure => simp [RowKit.intOf]; omega
          · have ht' : tlt (y0, y1) (x0, x1) = false := by simpa using ht
            rw [ht'] at HBF
            obtain ⟨hEQ, hdn⟩ := HLm.out hia (Or.inr ht')
            have HEQ := hide hEQ
            clear hEQ ht ht'
            go_wp2_with fail
            refine wp_region_gw (by kernel_rfl) (by kernel_rfl) ?_
            repeat (go_big_quiet_step (first
              | (go_at_call 64; exact gw_of (HBF.out _))
              | rfl))
            refine wpQuiet_nil ?_
            intro _ hw'
            obtain ⟨x', hw''⟩ := hw'
            subst hw''
            have HD4 := hide (HD.out.below x'.bel)
            have HB4 := hide (below_on HBX.out x'.bel)
            have m0 := (below_cell x'.bel (block_of_cell p0)).trans p0
            have m1 := (below_cell x'.bel (block_of_cell p1)).trans p1
            generalize x'.world = W4 at HD4 HB4 m0 m1 ⊢
            clear x'
            clear q0 q1 s0 s1 p0 p1 r0 r1
            go_wp2_with (at_builtin; refine wpList_append_own _ rfl (.tmp 59) (.tmp 64) 24 rfl _ 42 i0 (.agg #[.int .u64 0, .int .u64 0]) 2 16 Tryz.underlying24 hi hz0 hz1 hz2 rfl (by decide) _ _ _ rfl (World.ownsRow.alloc (show W4.ownsRow w2.heap.size 42 2 u5 d.length (tCells d) from HD4.out) _) ⟨W4.heap.size, 0, none⟩ 1 1 [.int .u64 x0, .int .u64 x1] rfl rfl (two_at W4 _ _ _) (by simp [Value.oneCell']) (by have := HB.out; unfold maxLen; omega) (by have := HB.out; omega) (by have := HB4.out.size; simp; omega) ?_; intro v5 w5 hownB hgrowB hqB; have HR5 := hide (mg_step HD4.out HB4.out hownB hgrowB HEQ.out); clear hownB hgrowB hqB)
            go_roundw
            case rel => exact ⟨i + 1, j, by omega, by omega, by simp, rfl, HR5.out⟩
            case measure => simp [RowKit.intOf]; omega
        · have j2 : (P : Int) ≤ (j : Int) := by omega
          obtain ⟨hEQ, hdn⟩ := HLm.out hia (Or.inl (by have := HLB.out; omega))
          have HEQ := hide hEQ
          clear hEQ
          go_wp2_with fail
          refine wp_region_gw (by kernel_rfl) (by kernel_rfl) ?_
          repeat (go_big_quiet_step (first
            | (go_at_call 64; exact gw_of (HBF.out _))
            | rfl))
          refine wpQuiet_nil ?_
          intro _ hw'
          obtain ⟨x', hw''⟩ := hw'
          subst hw''
          have HD4 := hide (HD.out.below x'.bel)
          have HB4 := hide (below_on HBX.out x'.bel)
          have m0 := (below_cell x'.bel (block_of_cell p0)).trans p0
          have m1 := (below_cell x'.bel (block_of_cell p1)).trans p1
          generalize x'.world = W4 at HD4 HB4 m0 m1 ⊢
          clear x'
          clear q0 q1 p0 p1
          go_wp2_with (at_builtin; refine wpList_append_own _ rfl (.tmp 59) (.tmp 64) 24 rfl _ 42 i0 (.agg #[.int .u64 0, .int .u64 0]) 2 16 Tryz.underlying24 hi hz0 hz1 hz2 rfl (by decide) _ _ _ rfl (World.ownsRow.alloc (show W4.ownsRow w2.heap.size 42 2 u5 d.length (tCells d) from HD4.out) _) ⟨W4.heap.size, 0, none⟩ 1 1 [.int .u64 x0, .int .u64 x1] rfl rfl (two_at W4 _ _ _) (by simp [Value.oneCell']) (by have := HB.out; unfold maxLen; omega) (by have := HB.out; omega) (by have := HB4.out.size; simp; omega) ?_; intro v5 w5 hownB hgrowB hqB; have HR5 := hide (mg_step HD4.out HB4.out hownB hgrowB HEQ.out); clear hownB hgrowB hqB)
          go_roundw
          case rel => exact ⟨i + 1, j, by omega, by omega, by simp, rfl, HR5.out⟩
          case measure => simp [RowKit.intOf]; omega
      · have i2 : (K : Int) ≤ (i : Int) := by omega
        by_cases hjb : j < P
        · obtain ⟨gb, ob, rfl, r0, r1⟩ := HCB.out hjb
          have s0 := gw_cell r0
          have s1 := gw_cell r1
          have j1 : (j : Int) < (P : Int) := by omega
          have j3 : ¬ P ≤ j := by omega
          have j4 : decide (P ≤ j) = false := by simp; omega
          obtain ⟨hEQ, hdn⟩ := HRm.out hjb (Or.inl (by have := HLA.out; omega))
          have HEQ := hide hEQ
          clear hEQ
          go_wp2_with fail
          refine wp_region_gw (by kernel_rfl) (by kernel_rfl) ?_
          repeat (go_big_quiet_step (first
            | (go_at_call 64; exact gw_of (HBF.out _))
            | rfl))
          refine wpQuiet_nil ?_
          intro _ hw'
          obtain ⟨x', hw''⟩ := hw'
          subst hw''
          have HD4 := hide (HD.out.below x'.bel)
          have HB4 := hide (below_on HBX.out x'.bel)
          have m0 := (below_cell x'.bel (block_of_cell r0)).trans r0
          have m1 := (below_cell x'.bel (block_of_cell r1)).trans r1
          generalize x'.world = W4 at HD4 HB4 m0 m1 ⊢
          clear x'
          clear s0 s1 r0 r1
          go_wp2_with (at_builtin; refine wpList_append_own _ rfl (.tmp 68) (.tmp 73) 24 rfl _ 42 i0 (.agg #[.int .u64 0, .int .u64 0]) 2 16 Tryz.underlying24 hi hz0 hz1 hz2 rfl (by decide) _ _ _ rfl (World.ownsRow.alloc (show W4.ownsRow w2.heap.size 42 2 u5 d.length (tCells d) from HD4.out) _) ⟨W4.heap.size, 0, none⟩ 1 1 [.int .u64 y0, .int .u64 y1] rfl rfl (two_at W4 _ _ _) (by simp [Value.oneCell']) (by have := HB.out; unfold maxLen; omega) (by have := HB.out; omega) (by have := HB4.out.size; simp; omega) ?_; intro v5 w5 hownB hgrowB hqB; have HR5 := hide (mg_step HD4.out HB4.out hownB hgrowB HEQ.out); clear hownB hgrowB hqB)
          go_roundw
          case rel => exact ⟨i, j + 1, by omega, by omega, rfl, by simp, HR5.out⟩
          case measure => simp [RowKit.intOf]; omega
        · have j2 : (P : Int) ≤ (j : Int) := by omega
          have HF : Hid (TOwn wr w2.heap.size u5 (srt l)) := hide (by
            have e := HE.out
            rw [merge_done (by have := HLA.out; omega) (by have := HLB.out; omega), List.append_nil] at e
            rw [← e]; exact HD.out)
          go_wp2
          go_ret
          exact ⟨_, rfl, own_lower HF.out HB2.out.size, HB2.out.trans (HBX.out.mono HB2.out.size)⟩
end Go.Proofs.YtgjdjdgondpjeaaGreat
