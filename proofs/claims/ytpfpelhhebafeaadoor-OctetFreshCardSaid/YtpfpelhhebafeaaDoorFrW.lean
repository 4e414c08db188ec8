/- OctetFresh: the walk. -/
import Derived.Test.YtpfpelhhebafeaaDoorFrE
namespace Go.Proofs.YtpfpelhhebafeaaDoor
open Go.RowKit Go.Lib
set_option linter.unusedVariables false
set_option linter.unusedSimpArgs false
def pk {α : Type} (a b c d : α) : Nat → α := fun i => if i = 0 then a else if i = 1 then b else if i = 2 then c else d
theorem four' {P : Nat → Prop} (h0 : P 0) (h1 : P 1) (h2 : P 2) (h3 : P 3) : ∀ i, i < 4 → P i := by
  intro i hi
  have : i = 0 ∨ i = 1 ∨ i = 2 ∨ i = 3 := by omega
  rcases this with rfl | rfl | rfl | rfl
  · exact h0
  · exact h1
  · exact h2
  · exact h3
theorem ls_start {wc w7 w8 w9 w10 w11 : World} {p K L : Nat} {vx vy vo vp : Value} {ux uy uo up : List Value} (hX : w7.ownsRow wc.heap.size 5 1 vx K ux) (hY : w9.ownsRow w8.heap.size 5 1 vy K uy) (hO : w10.ownsRow w9.heap.size 5 1 vo L uo) (hP : w11.ownsRow w10.heap.size 5 1 vp L up)
    (k8 : But p w7 w8) (k9 : But p w8 w9) (b10 : Below w9.heap.size w9 w10) (b11 : Below w10.heap.size w10 w11) (hp : p < wc.heap.size) (s7 : wc.heap.size ≤ w7.heap.size) (hL : L ≤ 140737488351232) (hK : K ≤ L) :
    LS w11.heap.size (w11.heap.size + 1) (pk vo vp vx vy) (fun _ => .slice none 0 0) (pk L L K K) (pk w9.heap.size w10.heap.size wc.heap.size w8.heap.size) (pk w10.heap.size w11.heap.size w7.heap.size w9.heap.size) (fun _ => 0) (.slice none 0 0) 0 (w11.alloc (.cells #[vo, vp, vx, vy] 22)) := by
  have s8 := k8.size
  have s9 := k9.size
  have s10 := b10.size
  have s11 := b11.size
  have hG : (w11.alloc (.cells #[vo, vp, vx, vy] 22)).heap[w11.heap.size]? = some (.cells #[vo, vp, vx, vy] 22 (0, 0)) := heap_new _ _
  have b12 : Below w11.heap.size w11 (w11.alloc (.cells #[vo, vp, vx, vy] 22)) := (Below.refl _ _).alloc (Nat.le_refl _) _
  refine ⟨four' (cell_of hG rfl) (cell_of hG rfl) (cell_of hG rfl) (cell_of hG rfl), four' ?_ ?_ ?_ ?_, fun i hi => absurd hi (Nat.not_lt_zero _), World.ownsRow_nil _ _ _ _, fun i hi => absurd hi (Nat.not_lt_zero _), ?_, four' ?_ ?_ ?_ ?_, four' ?_ ?_ ?_ ?_, ⟨by omega, by simp⟩, by omega⟩
  · exact UL.of_own (own_stayB hO fun g e hg => (b12.block g (by omega)).trans (b11.block g hg)) (fun g e => (hO.lt g e).2) _
  · exact UL.of_own (own_stayB hP fun g e hg => b12.block g hg) (fun g e => (hP.lt g e).2) _
  · refine UL.of_own (own_stayB hX fun g e hg => ?_) (fun g e => (hX.lt g e).2) _
    have h1 := (hX.lt g e).1
    exact (b12.block g (by omega)).trans ((b11.block g (by omega)).trans ((b10.block g (by omega)).trans ((k9.block g (by omega) (by omega)).trans (k8.block g hg (by omega)))))
  · refine UL.of_own (own_stayB hY fun g e hg => ?_) (fun g e => (hY.lt g e).2) _
    exact (b12.block g (by omega)).trans ((b11.block g (by omega)).trans (b10.block g hg))
  · intro i j hi hj hne
    have h1 : i = 0 ∨ i = 1 ∨ i = 2 ∨ i = 3 := by omega
    have h2 : j = 0 ∨ j = 1 ∨ j = 2 ∨ j = 3 := by omega
    rcases h1 with rfl | rfl | rfl | rfl <;> rcases h2 with rfl | rfl | rfl | rfl
    all_goals first
      | (exact absurd rfl hne)
      | (simp only [pk]; omega)
      | (simp [pk]; try omega)
  all_goals (simp [pk]; try omega)
/-- How far the marks go: the lists ahead of i are done, of i the first k. -/
def upF (ns : Nat → Nat) (i k : Nat) : Nat → Nat := fun j => if j = i then k else if j < i then ns j else 0
theorem upF_next (ns : Nat → Nat) (i k : Nat) : (fun j => if j = i then k + 1 else upF ns i k j) = upF ns i (k + 1) := by
  funext j
  unfold upF
  by_cases e : j = i
  · rw [if_pos e, if_pos e]
  · rw [if_neg e, if_neg e, if_neg e]
theorem upF_row (ns : Nat → Nat) (i : Nat) : upF ns i (ns i) = upF ns (i + 1) 0 := by
  funext j
  unfold upF
  by_cases e : j = i
  · subst e; rw [if_pos rfl, if_neg (by omega), if_pos (by omega)]
  · rw [if_neg e]
    by_cases e2 : j = i + 1
    · rw [if_pos e2, if_neg (by omega)]
    · rw [if_neg e2]
      by_cases e3 : j < i
      · rw [if_pos e3, if_pos (by omega)]
      · rw [if_neg e3, if_neg (by omega)]
theorem LS.mono {G B : Nat} {vs xs : Nat → Value} {ns S T c c' : Nat → Nat} {bv : Value} {k : Nat} {W : World} (h : LS G B vs xs ns S T c bv k W) (hc : ∀ i, i < 4 → c' i ≤ c i) : LS G B vs xs ns S T c' bv k W :=
  ⟨h.cel, fun i hi => (h.l i hi).fewer (hc i hi), h.x, h.own, h.xb, h.dis, h.gn, h.bd, h.lo, h.k4⟩
set_option maxRecDepth 100000 in
set_option maxHeartbeats 16000000 in
theorem fresh_law (v : Value) (b : List Int) (n : Int) (w : World) (hb : RowAt .u8 w v b) (hs : SumsAt w) (hby : Byt b) (hbig : b.length ≤ 140737488351232) :
    Calls Tryd.prog 6 #[v, .int .i64 n] w fun e w' => e = .returned (.bool true) ∧ Below w.heap.size w w' := by
  have HX := hide hb
  have HSU := hide hs
  have HBY := hide hby
  have HBIG := hide hbig
  have HHD := hide (heads_any w hs)
  obtain ⟨ax, cx, rfl⟩ : ∃ ao c, v = .slice ao b.length c := by obtain ⟨ao, c, h, _⟩ := hb; exact ⟨ao, c, h⟩
  have HRO : Hid (∀ W, RowAt .u8 W (.slice ax b.length cx) b → Calls Tryd.prog 27 _ W _) := fun W h => roomy_any (.slice ax b.length cx) b W h (by omega)
  have HNW := hide newWriter_any
  have HWB : Hid (∀ B a xv W, WOwn W B a (.slice none 0 0) [] → B ≤ W.heap.size → RowAt .u8 W xv b → Calls Tryd.prog 13 #[.pointer (some ⟨a, 0, none⟩), xv] W fun e w' => e = .returned (.tuple #[]) ∧ ∃ v', WOwn w' B a v' b ∧ Turn B a W w') := fun B a xv W h1 h2 h3 => by
    have := wbytes_any W B a (.slice none 0 0) [] xv b h1 h2 h3 (by simp; omega)
    rw [List.nil_append] at this
    exact this
  have HNR : Hid (∀ xv W, RowAt .u8 W xv b → Calls Tryd.prog 17 #[xv] W _) := fun xv W h => newReader_new W xv b h (by omega)
  have HSB : Hid (∀ B g c W, Own8 W B g c (b ++ [201, 202]) → RowAt .u8 W (.slice (some ⟨g, 0, none⟩) b.length c) b ∧ b.length + 2 ≤ c) := fun B g c W h => by
    have hll : (b ++ [201, 202]).length = b.length + 2 := by rw [List.length_append]; rfl
    have hsub := sub_row (f := 0) (p := b.length) h.row (by omega) (by rw [hll]; omega)
    rw [List.drop_zero, List.take_left, Nat.sub_zero, Nat.sub_zero] at hsub
    have hcl := h.parts.2.1
    rw [hll] at hcl
    exact ⟨hsub, hcl⟩
  obtain ⟨L, hL⟩ : ∃ L, L = b.length := ⟨_, rfl⟩
  have HL := hide hL
  rw [← hL] at HX HRO HSB hbig
  rw [← hL]
  clear hb hs hby hL
  go_enter Tryd.func6, Tryd.ntmps6
  go_upto_block 0 with (first
    | (go_at_call 11; refine HHD.out.mono ?_; rintro e w1 ⟨rfl, h⟩; have HB1 := hide h; have hs1 := h.size; clear h HHD)
    | (go_at_call 27; refine (HRO.out _ (HX.out.below HB1.out)).mono ?_; rintro e w2 ⟨gc, cc, rfl, hown, h⟩; have HC2 := hide hown; have HB2 := hide (below_on HB1.out h); have hg1 := hown.parts.1; have hgs : gc < w2.heap.size := (by obtain ⟨_, _, _, hh, _⟩ := hown.parts; exact lt_of_heap hh); have hs2 := h.size; have hcc := (HSB.out _ _ _ _ hown).2; have j1 : (L : Int) ≤ (cc : Int) := (by omega); have HSR2 := hide (HSB.out _ _ _ _ hown).1; clear hown h)
    | (go_at_call 12; refine (HNW.out _).mono ?_; rintro e w3 ⟨a, rfl, hwo, h⟩; have HW3 := hide hwo; have HC3 := hide (HC2.out.below h); have HSR3 := hide (HSR2.out.below h); have HB3 := hide (below_on HB2.out h); have hs3 := h.size; clear hwo h HC2 HSR2)
    | (go_at_call 13; refine (HWB.out w2.heap.size a _ _ HW3.out hs3 HSR3.out).mono ?_; rintro e w4 ⟨rfl, v4, hwo, htn⟩; have HW4 := hide hwo; have HC4 := hide (HC3.out.stay (htn.bel.block gc hgs)); have HB4 := hide (HB3.out.trans (htn.bel.mono HB2.out.size)); have hs4 := htn.bel.size; have HSR4 := hide (HSB.out _ _ _ _ HC4.out).1; clear hwo htn HC3 HSR3 HW3)
    | (go_at_call 17; refine (HNR.out _ _ HSR4.out).mono ?_; rintro e w5 ⟨p, rfl, hp, hrd, h⟩; have HR5 := hide hrd; have HC5 := hide (HC4.out.below h); have HB5 := hide (below_on HB4.out h); have hs5 := h.size; have HW5 := hide (HW4.out.stay (h.block a (lt_of_heap HW4.out.hb)) (fun g e hg => h.block g hg)); clear hrd h HC4 HSR4)
    | fail)
  have HST : Hid (∀ X, But gc w5 X → ∃ ao c, WP w w5.heap.size a v4 p ao c b 0 X) := fun X k =>
    wp_start HW5.out HR5.out HB5.out k (by omega) hgs (lt_of_heap HW4.out.hb) (fun g e => (HW4.out.own.lt g e).2) hp (by omega) (by omega)
  obtain ⟨N2, hN2⟩ : ∃ N2, N2 = L + 2 := ⟨_, rfl⟩
  have HN2 := hide hN2
  have HCL : Hid ((b ++ [201, 202]).length = N2) := hide (by rw [List.length_append, ← HL.out, hN2]; rfl)
  have hN2b : N2 ≤ 140737488351234 := by omega
  rw [← hN2]
  clear hN2 HW4 HW5 HR5 HB1 HB2 HB3 HB4 HB5 HNW HWB HNR HSB HRO hs1 hs2 hs3 hs4 hs5 hg1 hgs hp j1 hcc
  go_cut [8] from 43 to 51 (fun t wx => But gc w5 wx)
  case first =>
    go_wp2_with fail
    go_loopw [8] (fun t wr => ∃ (i : Nat) (cs : List Int), i ≤ N2 ∧ t = .int .i64 (i : Int) ∧ cs.length = N2 ∧ Own8 wr w1.heap.size gc cc cs ∧ But gc w5 wr) (fun t _ => N2 - (RowKit.intOf t).toNat)
    case atStart => exact ⟨0, _, by omega, rfl, HCL.out, HC5.out, But.refl _ _⟩
    case round =>
      obtain ⟨i, cs, hi, rfl, hcs, hown, hbut⟩ := hrel
      clear HC5
      by_cases hlt : i < N2
      · have cc0 := hown.cell (k := i) (by omega)
        have fc := hown.free i
        have H8 := hide hown
        have HBU := hide hbut
        have hlti : (i : Int) < (N2 : Int) := by omega
        clear hown hbut
        go_wp2
        go_roundw
        case rel => exact ⟨i + 1, _, hlt, by simp, by rw [List.length_set]; exact hcs, H8.out.put (by omega) 91, HBU.out.trans (But.setCell wr ⟨gc, i, none⟩ _)⟩
        case measure => exact mdecF hlt
      · obtain rfl : i = N2 := by omega
        have HBU := hide hbut
        clear hown hbut
        go_wp2_with fail
        go_meet
        case rel => exact HBU.out
  case rest =>
    obtain ⟨ao, c, hwp⟩ := HST.out _ hcut
    have HWP := hide hwp
    clear hwp hcut HST HC5 HCL
    obtain ⟨F, hF⟩ : ∃ F, F = w5.heap.size := ⟨_, rfl⟩
    rw [← hF] at HWP
    clear hF
    go_upto_region 12 with fail
    go_cut [60] from 54 to 59 (fun t wx => t = .bool (decide (0 ≤ n ∧ n < (L : Int))) ∧ wc = wx)
    case first =>
      by_cases h0 : 0 ≤ n
      · by_cases h1 : n < (L : Int)
        · go_wp2_with fail
          go_meet
          case rel => exact ⟨by simp [h0, h1], rfl⟩
        · go_wp2_with fail
          go_meet
          case rel => exact ⟨by simp; omega, rfl⟩
      · go_wp2_with fail
        go_meet
        case rel => exact ⟨by simp; omega, rfl⟩
    case rest =>
    obtain ⟨rfl, rfl⟩ := hcut
    go_upto_if 60 with fail
    go_cut [9] from 60 to 61 (fun t wx => ∃ K : Nat, K ≤ L ∧ t = .int .i64 (K : Int) ∧ wc = wx)
    case first =>
      by_cases h0 : 0 ≤ n ∧ n < (L : Int)
      · obtain ⟨K, rfl⟩ : ∃ K : Nat, n = (K : Int) := ⟨n.toNat, by omega⟩
        rw [decide_eq_true h0]
        go_wp2_with fail
        go_meet
        case rel => exact ⟨K, by omega, rfl, rfl⟩
      · rw [decide_eq_false h0]
        go_wp2_with fail
        go_meet
        case rel => exact ⟨L, Nat.le_refl _, rfl, rfl⟩
    case rest =>
      obtain ⟨K, hKL, rfl, rfl⟩ := hcut
      have HBX : Hid (∀ k : Nat, k ≤ L → ∀ W, RdX W p ao c b 0 → Calls Tryd.prog 21 #[.pointer (some ⟨p, 0, none⟩), .int .i64 k] W _) := fun k hk W h => bytes_x W p k ao c b h (by have := HL.out; omega) (by have := HBIG.out; omega)
      have HSK : Hid (∀ q W, RdX W p ao c b q → Calls Tryd.prog 18 #[.pointer (some ⟨p, 0, none⟩), .int .i64 ((0 : Nat) : Int)] W _) := fun q W h => seek_x W p q 0 ao c b h (Nat.zero_le _) (by have := HBIG.out; omega)
      have HNO := hide no_any
      have HOU : Hid (∀ W, WOwn W 0 a v4 b → Calls Tryd.prog 15 #[.pointer (some ⟨a, 0, none⟩)] W fun e w' => ∃ ao c, e = .returned (.slice ao L c) ∧ w'.ownsRow W.heap.size 5 1 (.slice ao L c) L (b.map (Value.int .u8)) ∧ Below W.heap.size W w') := fun W h => by
        refine (out_own W 0 a v4 b h (by have := HBIG.out; omega)).mono ?_
        rintro e w' ⟨v', rfl, ho, hb⟩
        rw [← HL.out] at ho
        obtain ⟨ao, c, rfl⟩ := own_shape ho
        exact ⟨ao, c, rfl, ho, hb⟩
      have st1 := hide True.intro
      go_upto_block 2 with (first
        | (go_at_call 21; clear st1; refine (HBX.out K hKL _ HWP.out.rd).mono ?_; rintro e w7 ⟨xa, xc, rfl, hown, hrd, hbut⟩; have HX7 := hide hown; have HWP7 := hide (HWP.out.but hrd hbut); have hs7 := hbut.size; clear hown hrd hbut)
        | (go_at_call 18; refine (HSK.out K _ HWP7.out.rd).mono ?_; rintro e w8 ⟨rfl, hrd, hbut⟩; have HWP8 := hide (HWP7.out.but hrd hbut); have HBU8 := hide hbut; have hs8 := hbut.size; clear hrd hbut)
        | (go_at_call 21; refine (HBX.out K hKL _ HWP8.out.rd).mono ?_; rintro e w9 ⟨ya, yc, rfl, hown, hrd, hbut⟩; have HY9 := hide hown; have HWP9 := hide (HWP8.out.but hrd hbut); have HBU9 := hide hbut; have hs9 := hbut.size; clear hown hrd hbut)
        | (go_at_call 16; refine (HNO.out _ _).mono ?_; rintro e wn ⟨rfl, rfl⟩)
        | (go_at_call 15; refine (HOU.out _ HWP9.out.wr).mono ?_; rintro e w10 ⟨oa, oc, rfl, hown, hb⟩; have HO10 := hide hown; have HWP10 := hide (HWP9.out.below hb); have HBL10 := hide hb; have hs10 := hb.size; clear hown hb)
        | (go_at_call 15; refine (HOU.out _ HWP10.out.wr).mono ?_; rintro e w11 ⟨pa, pc, rfl, hown, hb⟩; have HP11 := hide hown; have HWP11 := hide (HWP10.out.below hb); have HBL11 := hide hb; have hs11 := hb.size; clear hown hb)
        | fail)
      have HLS := hide (ls_start HX7.out HY9.out HO10.out HP11.out HBU8.out HBU9.out HBL10.out HBL11.out (by have := HWP.out.lo; omega) hs7 hbig hKL)
      have HFS : Hid (∀ i, i < 4 → F ≤ pk wn.heap.size w10.heap.size wc.heap.size w8.heap.size i) := by
        have h9 := HWP.out.lo.2.2.2
        exact four' (by simp [pk]; omega) (by simp [pk]; omega) (by simp [pk]; omega) (by simp [pk]; omega)
      have HFB : Hid (F ≤ w11.heap.size + 1) := hide (by have := HWP11.out.lo.2.2.2; omega)
      have HWP12 := hide (HWP11.out.below ((Below.refl _ _).alloc (Nat.le_refl _) (.cells #[.slice oa L oc, .slice pa L pc, .slice xa K xc, .slice ya K yc] 22)))
      obtain ⟨G, hG⟩ : ∃ G, G = w11.heap.size := ⟨_, rfl⟩
      obtain ⟨B, hB⟩ : ∃ B, B = G + 1 := ⟨_, rfl⟩
      rw [← hG, ← hB] at HLS
      rw [← hG, ← hB] at HFB
      rw [← hG]
      generalize (w11.alloc (.cells #[.slice oa L oc, .slice pa L pc, .slice xa K xc, .slice ya K yc] 22)) = W12 at HLS HWP12 ⊢
      obtain ⟨vs, hvs⟩ : ∃ vs : Nat → Value, vs = pk (.slice oa L oc) (.slice pa L pc) (.slice xa K xc) (.slice ya K yc) := ⟨_, rfl⟩
      obtain ⟨ns, hns⟩ : ∃ ns, ns = pk L L K K := ⟨_, rfl⟩
      obtain ⟨S, hS⟩ : ∃ S, S = pk wn.heap.size w10.heap.size wc.heap.size w8.heap.size := ⟨_, rfl⟩
      obtain ⟨T, hT⟩ : ∃ T, T = pk w10.heap.size G w7.heap.size wn.heap.size := ⟨_, rfl⟩
      rw [← hvs, ← hns, ← hS, ← hT] at HLS
      rw [← hS] at HFS
      clear hG hB hvs hns hS hT HX7 HY9 HO10 HP11 HBU8 HBU9 HBL10 HBL11 hs7 hs8 hs9 hs10 hs11 HWP7 HWP8 HWP9 HWP10 HWP11 HWP
      go_cut [16, 17, 18] from 96 to 117 (fun bv t l wx => ∃ xs ba bc, bv = .slice ba 4 bc ∧ LS G B vs xs ns S T (fun _ => 0) (.slice ba 4 bc) 4 wx ∧ LK B S T W12 wx)
      case first =>
        go_wp2_with fail
        go_loopw [16, 17] (fun bv t wr => ∃ (k : Nat) (xs : Nat → Value) (ba : Option Addr) (bc : Nat), k ≤ 4 ∧ t = .int .i64 (k : Int) ∧ bv = .slice ba k bc ∧ LS G B vs xs ns S T (fun _ => 0) (.slice ba k bc) k wr ∧ LK B S T W12 wr) (fun _ t _ => 4 - (RowKit.intOf t).toNat)
        case atStart => exact ⟨0, _, none, 0, by omega, rfl, rfl, HLS.out, LK.refl _ _ _ _⟩
        case round =>
          obtain ⟨k, xs, ba, bc, hk4, rfl, rfl, hls, hlk⟩ := hrel
          clear HLS
          have HLK := hide hlk
          by_cases hlt : k < 4
          · have hcel := hls.cel k hlt
            obtain ⟨g, cap, Y, ao', c', Z, hr1, hr2, hls', hlk'⟩ := hls.app hlt
            have HR1 := hide hr1
            have HR2 := hide hr2
            have HL2 := hide hls'
            have HK2 := hide (hlk.trans hlk')
            have hk4i : (k : Int) < 4 := by omega
            have hm : (100 + (k : Int)) % 256 = 100 + (k : Int) := by omega
            obtain ⟨ua, uc, hu⟩ : ∃ ua uc, vs k = .slice ua (ns k) uc := by obtain ⟨_, h1, _⟩ := hls.l k hlt; exact own_shape h1
            rw [hu] at hcel HR1
            obtain ⟨m, hm2⟩ : ∃ m, m = ns k := ⟨_, rfl⟩
            rw [← hm2] at HR1 HR2 hcel
            clear hr1 hr2 hls' hlk' hls hlk hu hm2
            go_wp2_with (first
              | (at_builtin; refine wpList_append_run_sl _ rfl _ _ 22 rfl _ _ rfl rfl HR1.out ?_; clear HR1)
              | (at_builtin; refine wpList_append_run_sl _ rfl _ _ 48 rfl _ _ rfl rfl HR2.out ?_; clear HR2)
              | fail)
            go_roundw
            case rel => obtain ⟨xs', h5⟩ := HL2.out; exact ⟨k + 1, xs', _, _, hlt, by simp, rfl, h5, HK2.out⟩
            case measure => exact mdecF hlt
          · obtain rfl : k = 4 := by omega
            have HE := hide (And.intro hls hlk)
            clear hls hlk
            rw [show ((4 : Nat) : Int) = 4 from rfl]
            go_wp2_with fail
            go_meet
            case rel => exact ⟨_, _, _, rfl, HE.out.1, HE.out.2⟩
      case rest =>
        obtain ⟨xs, ba, bc, rfl, hls, hlk⟩ := hcut
        obtain ⟨gb, rfl, hbc⟩ : ∃ gb, ba = some ⟨gb, 0, none⟩ ∧ 4 ≤ bc := by
          obtain ⟨_, ⟨_, h0⟩ | ⟨g, cap, cur, he, _, _, h1, _⟩⟩ := hls.own
          · omega
          · simp only [Value.slice.injEq] at he
            obtain ⟨rfl, _, rfl⟩ := he
            exact ⟨g, rfl, h1⟩
        have HL0 := hide (hls.mono (c' := upF ns 0 0) (fun i _ => by unfold upF; by_cases e : i = 0 <;> simp [e]))
        have HK0 := hide hlk
        clear hls hlk HLS
        go_upto_block 4 with fail
        go_cut [19, 20] from 118 to 141 (fun t1 t2 wx => ∃ W13, W13 = wx ∧ LS G B vs xs ns S T ns (.slice (some ⟨gb, 0, none⟩) 4 bc) 4 W13 ∧ LK B S T W12 W13)
        case first =>
          go_wp2_with fail
          go_loopw [19] (fun t wr => ∃ i : Nat, i ≤ 4 ∧ t = .int .i64 (i : Int) ∧ LS G B vs xs ns S T (upF ns i 0) (.slice (some ⟨gb, 0, none⟩) 4 bc) 4 wr ∧ LK B S T W12 wr) (fun t _ => 4 - (RowKit.intOf t).toNat)
          case atStart => exact ⟨0, by omega, rfl, HL0.out, HK0.out⟩
          case round =>
            obtain ⟨i, hi4, rfl, hls, hlk⟩ := hrel
            clear HL0 HK0
            by_cases hlt : i < 4
            · have hcel := hls.cel i hlt
              have HLS := hide hls
              have HLK := hide hlk
              have hlti : (i : Int) < 4 := by omega
              have hbd := (hls.bd i hlt).1
              have hm : (110 + (i : Int)) % 256 = 110 + (i : Int) := by omega
              rcases (hls.l i hlt).spot with ⟨hv, hn⟩ | ⟨g, cap, hv, hnc, hcm, hSg, hgT, _, _, _⟩
              · rw [hv] at hcel
                have HR : Hid (LS G B vs xs ns S T (upF ns (i + 1) 0) (.slice (some ⟨gb, 0, none⟩) 4 bc) 4 wr) := hide (by rw [← upF_row, hn]; exact hls)
                clear hls hlk hv hn hbd
                go_wp2_with fail
                go_loopw [20] (fun t wr' => t = .int .i64 0 ∧ wr' = wr) (fun _ _ => 0)
                case atStart => exact ⟨rfl, rfl⟩
                case round =>
                  obtain ⟨rfl, rfl⟩ := hrel
                  go_wp2_with fail
                  go_roundw
                  case rel => exact ⟨i + 1, hlt, by simp, HR.out, HLK.out⟩
                  case measure => exact mdecF hlt
              · rw [hv] at hcel
                obtain ⟨m, hn⟩ : ∃ m, m = ns i := ⟨_, rfl⟩
                rw [← hn] at hcel hbd hnc hv
                have HN := hide hn
                have HV := hide hv
                have HG := hide (And.intro hSg hgT)
                clear hls hlk hv hn hSg hgT
                go_wp2_with fail
                go_loopw [20] (fun t wr' => ∃ k : Nat, k ≤ m ∧ t = .int .i64 (k : Int) ∧ LS G B vs xs ns S T (upF ns i k) (.slice (some ⟨gb, 0, none⟩) 4 bc) 4 wr' ∧ LK B S T W12 wr') (fun t _ => m - (RowKit.intOf t).toNat)
                case atStart => exact ⟨0, by omega, rfl, HLS.out, HLK.out⟩
                case round =>
                  obtain ⟨k, hk, rfl, hls, hlk⟩ := hrel
                  clear HLS HLK hcel
                  have hcel := hls.cel i hlt
                  rw [HV.out] at hcel
                  by_cases hkn : k < m
                  · have hl := hls.l i hlt
                    rw [HV.out, ← HN.out] at hl
                    obtain ⟨⟨v0, c0⟩, fz⟩ : (∃ v, wr.cell? ⟨g, k, none⟩ = some v) ∧ wr.frozen? ⟨g, k, none⟩ = false := by
                      rcases hl.spot with ⟨e, _⟩ | ⟨g', cap', e, _, _, _, _, h1, h2, _⟩
                      · simp at e
                      · simp only [Value.slice.injEq, Option.some.injEq, Addr.mk.injEq, true_and, and_true] at e
                        obtain ⟨rfl, rfl⟩ := e
                        exact ⟨h1 k hkn, h2 k⟩
                    obtain ⟨hp, hq⟩ := hls.put hlt HV.out HN.out hkn (show upF ns i k i = k by unfold upF; rw [if_pos rfl]) HG.out
                    rw [upF_next] at hp
                    have HP := hide hp
                    have HQ := hide (hlk.trans hq)
                    have hkni : (k : Int) < (m : Int) := by omega
                    clear hls hlk hp hq hl
                    go_wp2_with fail
                    go_roundw
                    case rel => exact ⟨k + 1, hkn, by simp, HP.out, HQ.out⟩
                    case measure => exact mdecF hkn
                  · obtain rfl : k = m := by omega
                    have HR : Hid (LS G B vs xs ns S T (upF ns (i + 1) 0) (.slice (some ⟨gb, 0, none⟩) 4 bc) 4 wr) := hide (by rw [← upF_row, ← HN.out]; exact hls)
                    have HLK := hide hlk
                    clear hls hlk
                    go_wp2_with fail
                    go_roundw
                    case rel => exact ⟨i + 1, hlt, by simp, HR.out, HLK.out⟩
                    case measure => exact mdecF hlt
            · obtain rfl : i = 4 := by omega
              have HF : Hid (LS G B vs xs ns S T ns (.slice (some ⟨gb, 0, none⟩) 4 bc) 4 wr) := hide (hls.mono (fun j hj => by unfold upF; rw [if_neg (by omega), if_pos hj]; exact Nat.le_refl _))
              have HLK := hide hlk
              clear hls hlk
              rw [show ((4 : Nat) : Int) = 4 from rfl]
              go_wp2_with fail
              go_meet
              case rel => exact ⟨_, rfl, HF.out, HLK.out⟩
        case rest =>
          obtain ⟨W13, rfl, hls, hlk⟩ := hcut
          have HWF := hide (HWP12.out.lk hlk HFS.out HFB.out)
          have HLF := hide hls
          have HBC : Hid (∀ i, i < 4 → W13.cell? ⟨gb, i, none⟩ = some (xs i)) := fun i hi => by
            have h5 := hls.own.cells (g := gb) rfl i (xs i) (by rw [List.getElem?_map, List.getElem?_range hi]; rfl)
            rw [Addr.add_lit, Nat.zero_add] at h5
            exact h5
          clear HL0 HK0 hls hlk HWP12 HFS HFB
          go_upto_block 8 with fail
          go_cut [21, 22, 23] from 142 to 193 (fun t1 t2 t3 wx => W13 = wx)
          case first =>
            go_wp2_with fail
            go_loopw [21] (fun t wr => ∃ i : Nat, i ≤ 4 ∧ t = .int .i64 (i : Int) ∧ wr = W13) (fun t _ => 4 - (RowKit.intOf t).toNat)
            case atStart => exact ⟨0, by omega, rfl, rfl⟩
            case round =>
              obtain ⟨i, hi4, rfl, hwr⟩ := hrel
              subst hwr
              by_cases hlt : i < 4
              · have hcel := HLF.out.cel i hlt
                have hbx := HBC.out i hlt
                have hbd := (HLF.out.bd i hlt).1
                obtain ⟨g', cap', hx, hnc', hcm', e0, e1⟩ := (HLF.out.x i hlt).spot
                rw [hx] at hbx
                have hlti : (i : Int) < 4 := by omega
                have hlti' : (i : Int) < (bc : Int) := by omega
                have hm1 : (110 + (i : Int)) % 256 = 110 + (i : Int) := by omega
                have hm2 : (100 + (i : Int)) % 256 = 100 + (i : Int) := by omega
                rcases (HLF.out.l i hlt).spot with ⟨hv, hn⟩ | ⟨g, cap, hv, hnc, hcm, _, _, _, _, hmk⟩
                · rw [hv] at hcel
                  rw [hn] at e0 e1 hbx hnc'
                  simp only [Nat.zero_add] at e1 hbx hnc'
                  clear hv hn hx hbd
                  go_wp2_with fail
                  go_loopw [23] (fun t wr' => t = .int .i64 0 ∧ wr' = wr) (fun _ _ => 0)
                  case atStart => exact ⟨rfl, rfl⟩
                  case round =>
                    obtain ⟨rfl, rfl⟩ := hrel
                    go_wp2_with fail
                    go_roundw
                    case rel => exact ⟨i + 1, hlt, by simp, by trivial⟩
                    case measure => exact mdecF hlt
                · rw [hv] at hcel
                  obtain ⟨m, hn⟩ : ∃ m, m = ns i := ⟨_, rfl⟩
                  rw [← hn] at hcel hbd hnc hmk e0 e1 hbx hnc'
                  obtain ⟨M2, hM2⟩ : ∃ M2, M2 = m + 2 := ⟨_, rfl⟩
                  rw [← hM2] at hbx hnc'
                  have i1 : (m : Int) < (M2 : Int) := by omega
                  have i2 : (m : Int) + 1 < (M2 : Int) := by omega
                  have HLC : Hid (∀ k, k < m → wr.cell? ⟨g, k, none⟩ = some (.int .u8 (110 + (i : Int)))) := fun k hk => hmk k hk hk
                  clear hv hn hmk hx hM2
                  go_wp2_with fail
                  go_loopw [23] (fun t wr' => ∃ k : Nat, k ≤ m ∧ t = .int .i64 (k : Int) ∧ wr' = wr) (fun t _ => m - (RowKit.intOf t).toNat)
                  case atStart => exact ⟨0, by omega, rfl, rfl⟩
                  case round =>
                    obtain ⟨k, hk, rfl, hwr2⟩ := hrel
                    subst hwr2
                    by_cases hkn : k < m
                    · have hc := HLC.out k hkn
                      have hkni : (k : Int) < (m : Int) := by omega
                      go_wp2_with fail
                      go_roundw
                      case rel => exact ⟨k + 1, hkn, by simp, by trivial⟩
                      case measure => exact mdecF hkn
                    · obtain rfl : k = m := by omega
                      go_wp2_with fail
                      go_roundw
                      case rel => exact ⟨i + 1, hlt, by simp, by trivial⟩
                      case measure => exact mdecF hlt
              · obtain rfl : i = 4 := by omega
                rw [show ((4 : Nat) : Int) = 4 from rfl]
                go_wp2_with fail
                go_meet
                case rel => rfl
          case rest =>
            subst hcut
            have HRW : Hid (∀ B' ao c W, W.ownsRow B' 5 1 (.slice ao L c) L (b.map (Value.int .u8)) → RowAt .u8 W (.slice ao L c) b) := fun B' ao c W h => by
              rw [HL.out] at h ⊢
              exact RowAt.of_owns h
            have HSA : Hid (∀ v1 v2 W, RowAt .u8 W v1 b → RowAt .u8 W v2 b → Calls Tryd.prog 28 #[v1, v2] W _) := fun v1 v2 W h1 h2 => same_any v1 v2 b W h1 h2
            have HAN : Hid (∀ W, Below w.heap.size w W → Calls Tryd.prog 29 #[.slice ax L cx] W _) := fun W h => anew_any _ b W (HX.out.below h) (HSU.out.below h) HBY.out HBIG.out
            have HBL : Hid (∀ W, RdX W p ao c b 0 → Calls Tryd.prog 21 #[.pointer (some ⟨p, 0, none⟩), .int .i64 L] W fun e w' => ∃ ao' c', e = .returned (.tuple #[.slice ao' L c', .int .i64 0]) ∧ w'.ownsRow W.heap.size 5 1 (.slice ao' L c') L (b.map (Value.int .u8)) ∧ RdX w' p ao c b L ∧ But p W w') := fun W h => by
              have h5 := HBX.out L (Nat.le_refl _) W h
              rw [List.take_of_length_le (by have := HL.out; omega)] at h5
              exact h5
            have st9 := hide True.intro
            clear HLF HBC
            go_wp2_with (first
              | (go_at_call 18; refine (HSK.out K _ HWF.out.rd).mono ?_; rintro e y1 ⟨rfl, hrd, hbut⟩; have HWF1 := hide (HWF.out.but hrd hbut); clear hrd hbut)
              | (go_at_call 21; refine (HBL.out _ HWF1.out.rd).mono ?_; rintro e y2 ⟨za, zc, rfl, hown, hrd, hbut⟩; have HZ := hide (HRW.out _ _ _ _ hown); have HWF2 := hide (HWF1.out.but hrd hbut); clear hown hrd hbut)
              | (go_at_call 16; refine (HNO.out _ _).mono ?_; rintro e yn ⟨rfl, rfl⟩)
              | (go_at_call 28; clear st9; refine (HSA.out _ _ _ HZ.out (HX.out.below HWF2.out.bel)).mono ?_; rintro e y3 ⟨rfl, hb⟩; have HWF3 := hide (HWF2.out.below hb); clear hb)
              | (go_at_call 15; refine (HOU.out _ HWF3.out.wr).mono ?_; rintro e y4 ⟨ra, rc, rfl, hown, hb⟩; have HR4 := hide (HRW.out _ _ _ _ hown); have HWF4 := hide (HWF3.out.below hb); clear hown hb)
              | (go_at_call 28; refine (HSA.out _ _ _ HR4.out (HX.out.below HWF4.out.bel)).mono ?_; rintro e y5 ⟨rfl, hb⟩; have HWF5 := hide (HWF4.out.below hb); clear hb)
              | (go_at_call 29; refine (HAN.out _ HWF5.out.bel).mono ?_; rintro e y6 ⟨rfl, hb⟩; have HEND := hide (below_on HWF5.out.bel hb); clear hb)
              | fail)
            go_ret
            exact ⟨rfl, HEND.out⟩
end Go.Proofs.YtpfpelhhebafeaaDoor
