/- The reference's Order. -/
import Derived.Test.YtglgflibpgmilaaRefFrom
import Derived.Test.YtglgflibpgmilaaDiceAnyWalk
import Derived.Deep.RegionWith
namespace Go.Proofs.Ytglgflibpgmilaa
open Go.RowKit Go.Lib

theorem order_neg (w : World) (p : Value) (n : Int) (h : n < 0) : Calls Try.prog 29 #[p, .int .i64 n] w fun e w' => e = .returned (.tuple #[.slice none 0 0, .int .i64 7]) ∧ w' = w := by
  go_enter Try.func29, Try.ntmps29
  go_wp2
  go_ret2
  exact ⟨rfl, rfl⟩
theorem order_great (w : World) (p : Value) (n : Int) (h : 1048576 < n) : Calls Try.prog 29 #[p, .int .i64 n] w fun e w' => e = .returned (.tuple #[.slice none 0 0, .int .i64 22]) ∧ w' = w := by
  have h0 : ¬ n < 0 := by omega
  go_enter Try.func29, Try.ntmps29
  go_wp2
  go_ret2
  exact ⟨rfl, rfl⟩
theorem refOrder_neg (w : World) (p : Value) (n : Int) (h : n < 0) : Calls Try.prog 30 #[p, .int .i64 n] w fun e w' => e = .returned (.tuple #[.slice none 0 0, .int .i64 7]) ∧ w' = w := by
  go_enter Try.func30, Try.ntmps30
  go_wp2
  go_ret2
  exact ⟨rfl, rfl⟩
theorem refOrder_great (w : World) (p : Value) (n : Int) (h : 1048576 < n) : Calls Try.prog 30 #[p, .int .i64 n] w fun e w' => e = .returned (.tuple #[.slice none 0 0, .int .i64 22]) ∧ w' = w := by
  have h0 : ¬ n < 0 := by omega
  go_enter Try.func30, Try.ntmps30
  go_wp2
  go_ret2
  exact ⟨rfl, rfl⟩

set_option maxRecDepth 100000 in
theorem refBelow_any (w : World) (base b : Nat) (all : List Int) (s : St) (u : Nat) (n q : Int) (x : Nat) (hx : drawn (all.drop u) s = (x : Int)) (hx1 : x < 18446744073709551616) (hd : RefIs w base b all s u) (h : s.Ok) (hl : all.length ≤ 17592186044416) (hu : u < 9223372036854775000)
    (hn0 : 0 < n) (hn1 : n < 18446744073709551616) (hq : q = ((x * n.toNat / 18446744073709551616 : Nat) : Int)) :
    Calls Try.prog 39 #[.pointer (some ⟨b, 0, none⟩), .int .u64 n] w fun e w' =>
      e = .returned (.tuple #[.int .u64 q, .int .i64 0]) ∧ RefIs w' base b all (stLeft (all.drop u) s) (u + 1) ∧ But b w w' := by
  have hne : (n == 0) = false := by simp; omega
  obtain ⟨N, rfl⟩ := Int.eq_ofNat_of_zero_le (Int.le_of_lt hn0)
  rw [Int.toNat_natCast] at hq
  have hc := refNext_any w base b all s u hd h hl hu
  rw [hx] at hc
  have HC := hide hc; have HQ := hide hq
  clear hc hd hx hq
  go_enter Try.func39, Try.ntmps39
  go_wp2_with fail
  refine HC.out.mono ?_
  rintro e w' ⟨rfl, h⟩
  have H := hide h
  clear h
  go_wp2_with fail
  refine (product_any x N _ hx1 (by omega)).mono ?_
  rintro e w' ⟨rfl, rfl⟩
  rw [← HQ.out]
  go_wp2_with fail
  go_ret2
  exact ⟨rfl, H.out⟩

theorem Words.drop {ws : List Int} (h : Words ws) (u : Nat) : Words (ws.drop u) := fun x hx => h x (List.mem_of_mem_drop hx)

/-- What is left alone by what turns a block below. -/
theorem PreArr.but {w w' : World} {g b : Nat} {l : List Int} (h : PreArr w g l) (k : But b w w') (hb : g ≠ b) : PreArr w' g l := by
  obtain ⟨cur, hh, hc⟩ := h
  exact ⟨cur, k.heap hh hb, hc⟩

/-- What the reference's Order hands back. -/
def RefOrderPost (w : World) (base b n : Nat) (all : List Int) (s : St) (u : Nat) (e : Ending) (w' : World) : Prop :=
  ∃ v, e = .returned (.tuple #[v, .int .i64 0]) ∧ (∀ a l c, v = .slice (some a) l c → w.heap.size ≤ a.block) ∧ RowAt .i64 w' v (shuf (n - 1) (all.drop u) s (iota n)).2.2 ∧ RefIs w' base b all (shuf (n - 1) (all.drop u) s (iota n)).2.1 (u + (n - 1)) ∧ But b w w'


/-- A list of signed numbers is not the list of words. -/
theorem RefIs.swap {w : World} {base b g : Nat} {all l : List Int} {s : St} {u : Nat} (h : RefIs w base b all s u) (hp : PreArr w g l) (hl : 0 < l.length) (hg : g ≠ b) (i : Nat) (x : Value) : RefIs (w.setCell ⟨g, i, none⟩ x) base b all s u := by
  obtain ⟨hb, v, hh, hv⟩ := h
  have k := But.setCell w ⟨g, i, none⟩ x
  refine ⟨hb, v, (k.block b (lt_of_heap hh) (fun e => hg e.symm)).trans hh, ?_⟩
  rcases hv with hv | ⟨g', c, rfl, h1, h2, h3, h4, h5, h6⟩
  · exact .inl hv
  · by_cases h0 : 0 < all.length
    · have hne : g' ≠ g := by
        rintro rfl
        have a := h6 0 h0
        rw [hp.cell 0 hl] at a
        simp at a
      refine .inr ⟨g', c, rfl, h1, h2, W22.but h3 k hne, h4, h5, fun j hj => ?_⟩
      rw [World.cell?_of_block (w := w) (k.block g' h3.1 hne)]
      exact h6 j hj
    · refine .inr ⟨g', c, rfl, h1, h2, ?_, h4, h5, fun j hj => absurd hj (by omega)⟩
      obtain ⟨k1, cs, fr, k2⟩ := h3
      by_cases e : g' = g
      · subst e
        exact ⟨Nat.lt_of_lt_of_le k1 k.size, _, _, heap_set k2 x⟩
      · exact ⟨Nat.lt_of_lt_of_le k1 k.size, cs, fr, (k.block g' k1 e).trans k2⟩

theorem addr_add (g i : Nat) : (⟨g, 0, none⟩ : Addr).add i = ⟨g, i, none⟩ := by cases i <;> simp [Addr.add]
theorem RowAt.owned {w : World} {B : Nat} {v : Value} {l : List Int} (h : w.ownsRow B 3 1 v l.length (l.map (Value.int .i64))) : RowAt .i64 w v l := by
  obtain ⟨_, ⟨rfl, h0⟩ | ⟨g, cap, cur, rfl, hg, hh, hnc, hcm, hcur, htake⟩⟩ := h
  · rw [show l = [] from List.eq_nil_of_length_eq_zero h0]
    exact ⟨none, 0, rfl, Nat.le_refl _, by decide, fun _ => rfl, fun a h => by cases h⟩
  · refine ⟨some ⟨g, 0, none⟩, cap, rfl, hnc, hcm, fun h => by (cases h), fun a ha i hi => ?_⟩
    injection ha with ha
    subst ha
    have e1 : (cur.toList.take (l.length * 1))[i]? = (l.map (Value.int .i64))[i]? := by rw [htake]
    rw [List.getElem?_take_of_lt (by omega)] at e1
    have e2 : cur[i]? = cur.toList[i]? := by simp
    rw [addr_add]
    refine cell_of hh ?_
    rw [e2, e1]
    simp [List.getElem?_eq_getElem hi]

theorem RowAt.pre {w : World} {g cap : Nat} {l : List Int} (h : PreArr w g l) (h1 : l.length ≤ cap) (h2 : cap ≤ 9223372036854775807) : RowAt .i64 w (.slice (some ⟨g, 0, none⟩) l.length cap) l := by
  refine ⟨some ⟨g, 0, none⟩, cap, rfl, h1, h2, fun h => by (cases h), fun a ha i hi => ?_⟩
  injection ha with ha
  subst ha
  have := h.cell i hi
  rw [addr_add, this]
  simp [List.getD_eq_getElem?_getD]

theorem refOrder_step (w w2 : World) (base b g n i q uc u : Nat) (all lc : List Int) (s sc : St) (hpos : 0 < i)
    (hi1 : i < n) (hlen : lc.length = n) (hsc : sc.Ok) (huc : uc + i = u + (n - 1)) (hg : g ≠ b) (hgB : w.heap.size ≤ g)
    (HQ : Hid (q = pick (drawn (all.drop uc) sc) (i + 1)))
    (HS : Hid ((shuf i (all.drop uc) sc lc).2 = (shuf (n - 1) (all.drop u) s (iota n)).2)) (HA : Hid (PreArr w2 g lc))
    (HR : Hid (RefIs w2 base b all (stLeft (all.drop uc) sc) (uc + 1))) (HB : Hid (But b w w2)) :
    ∃ (i' uc' : Nat) (sc' : St) (lc' : List Int), Value.int .i64 ((i : Int) - 1) = .int .i64 i' ∧ i' < n ∧ lc'.length = n ∧ sc'.Ok ∧ uc' + i' = u + (n - 1) ∧
      (shuf i' (all.drop uc') sc' lc').2 = (shuf (n - 1) (all.drop u) s (iota n)).2 ∧
      RefIs ((w2.setCell ⟨g, i, none⟩ (.int .i64 (lc[q]?.getD 0))).setCell ⟨g, q, none⟩ (.int .i64 (lc[i]?.getD 0))).drew base b all sc' uc' ∧
      PreArr ((w2.setCell ⟨g, i, none⟩ (.int .i64 (lc[q]?.getD 0))).setCell ⟨g, q, none⟩ (.int .i64 (lc[i]?.getD 0))).drew g lc' ∧
      But b w ((w2.setCell ⟨g, i, none⟩ (.int .i64 (lc[q]?.getD 0))).setCell ⟨g, q, none⟩ (.int .i64 (lc[i]?.getD 0))).drew := by
  obtain ⟨i, rfl⟩ : ∃ j, i = j + 1 := ⟨i - 1, by omega⟩
  refine ⟨i, uc + 1, stLeft (all.drop uc) sc, swap lc (i + 1) q, by simp, by omega, by rw [swap_length]; exact hlen, stLeft_ok hsc, by omega, ?_, ?_, ?_, ?_⟩
  · rw [← HS.out, HQ.out]
    simp only [shuf, List.tail_drop]
  · exact (HR.out.swap HA.out (by omega) hg _ _).swap (HA.out.set (i + 1) _) (by rw [List.length_set]; omega) hg _ _
  · exact (HA.out.set (i + 1) _).set q _
  · exact ((HB.out.setLater hgB _ _).setLater hgB _ _).drew

set_option maxRecDepth 100000 in
set_option maxHeartbeats 2000000 in
theorem refOrder_any (w : World) (base b n : Nat) (all : List Int) (s : St) (u : Nat) (hd : RefIs w base b all s u) (hs : s.Ok) (hws : Words all) (hl : all.length ≤ 17592186044416) (hu1 : u < 9223372036850581504) (hn : n ≤ 1048576) :
    Calls Try.prog 30 #[.pointer (some ⟨b, 0, none⟩), .int .i64 n] w (RefOrderPost w base b n all s u) := by
  obtain ⟨i0, hi, hz0, hz1, hz2⟩ := info_parts Try.info3
  have HD := hide hd; have HWS := hide hws
  have hb := hd.lt
  clear hd hws
  have hd1 : decide ((n : Int) < 0) = false := by simp
  have hd2 : decide ((1048576 : Int) < (n : Int)) = false := by simp; omega
  go_enter Try.func30, Try.ntmps30
  go_wp2_with fail
  go_loopw [6, 7] (fun v t wr => ∃ k : Nat, k ≤ n ∧ t = .int .i64 k ∧ wr.ownsRow w.heap.size 3 1 v k ((iota k).map (Value.int .i64)) ∧ Below w.heap.size w wr) (fun _ t _ => n - (RowKit.intOf t).toNat)
  case atStart => exact ⟨0, by omega, rfl, World.ownsRow_nil _ _ _ _, Below.refl _ _⟩
  case round =>
    obtain ⟨k, hk, rfl, hown, hL⟩ := hrel
    by_cases hlt : k < n
    · have HO := hide hown; have HL := hide hL
      clear hown hL
      go_wp2_with (at_builtin; refine wpList_append_own _ rfl _ _ 58 rfl w.heap.size 3 i0 (.int .i64 0) 1 8 Try.underlying58 hi hz0 hz1 hz2 rfl (by decide) _ _ _ rfl (HO.out.alloc _) ⟨wr.heap.size, 0, none⟩ 1 1 [.int .i64 k] rfl rfl ?c1 ?c2 ?c3 ?c4 ?c5 ?_)
      case c1 =>
        intro j u hj
        match j, hj with
        | 0, hj => simp at hj; subst hj; simp [Addr.add]
      case c2 => intro u hu; simp at hu; subst hu; rfl
      case c3 => unfold maxLen; omega
      case c4 => omega
      case c5 => have := HL.out.size; simp; omega
      intro v' w2 hown' hgrow _
      have R := want_step HO HL hown' hgrow
      have HR := hide R
      clear R hown' hgrow HO HL
      go_wp2
      go_roundw
      case rel => exact ⟨k + 1, by omega, by go_num, HR.out.1, HR.out.2⟩
      case measure => simp [RowKit.intOf]; omega
    · have hkn : k = n := by omega
      rw [hkn] at hown
      have HO := hide hown; have HL := hide hL
      clear hown hL hkn
      by_cases hn0 : n = 0
      · subst hn0
        go_wp2
        go_loopw [8] (fun t wr' => t = .int .i64 (-1) ∧ wr' = wr) (fun _ _ => 0)
        case atStart => exact ⟨rfl, rfl⟩
        case round =>
          obtain ⟨rfl, rfl⟩ := hrel
          go_wp2
          go_ret2
          refine ⟨_, rfl, ?_, ?_, ?_, But.of_below HL.out⟩
          · intro a l c hv
            obtain ⟨_, ⟨h0, _⟩ | ⟨g, cap, cur, h0, hg, _⟩⟩ := HO.out
            · rw [h0] at hv; cases hv
            · rw [h0] at hv; cases hv; exact hg
          · exact RowAt.owned (l := iota 0) HO.out
          · exact HD.out.below HL.out
      · obtain ⟨m, hm⟩ : ∃ m, n = m + 1 := ⟨n - 1, by omega⟩
        have hS : ∃ g cap, w.heap.size ≤ g ∧ n ≤ cap ∧ cap ≤ 9223372036854775807 ∧ u6 = .slice (some ⟨g, 0, none⟩) n cap ∧ PreArr wr g (iota n) := by
          rw [hm]
          exact want_shape (by rw [← hm]; exact HO.out)
        obtain ⟨g, cap, hgB, hc1, hc2, rfl, hP⟩ := hS
        have HP := hide hP
        clear HO hP
        have hn1 : 1 ≤ n := by omega
        clear hn0 hm
        go_wp2
        go_loopw [8] (fun t wr' => ∃ (i uc : Nat) (sc : St) (lc : List Int), t = .int .i64 i ∧ i < n ∧ lc.length = n ∧ sc.Ok ∧ uc + i = u + (n - 1) ∧
          (shuf i (all.drop uc) sc lc).2 = (shuf (n - 1) (all.drop u) s (iota n)).2 ∧ RefIs wr' base b all sc uc ∧ PreArr wr' g lc ∧ But b w wr') (fun t _ => (RowKit.intOf t).toNat)
        case atStart => exact ⟨n - 1, u, s, iota n, by congr 1; omega, by omega, iota_length _, hs, rfl, rfl, HD.out.below HL.out, HP.out, But.of_below HL.out⟩
        case round =>
          obtain ⟨i, uc, sc, lc, rfl, hi1, hlen, hsc, huc, hsh, hR, hA, hB⟩ := hrel
          clear HL HD HP
          by_cases hpos : i = 0
          · have hP : Hid (RefOrderPost w base b n all s u (.returned (.tuple #[.slice (some ⟨g, 0, none⟩) n cap, .int .i64 0])) wr) := by
              subst hpos
              obtain rfl : uc = u + (n - 1) := by omega
              simp only [shuf] at hsh
              unfold RefOrderPost
              rw [← hsh]
              refine ⟨_, rfl, fun a l c hv => by cases hv; exact hgB, ?_, hR, hB⟩
              have := RowAt.pre (cap := cap) hA (by omega) hc2
              rw [hlen] at this
              exact this
            clear hsh hR hA hB hsc
            have hi0 : ¬ (1 : Int) ≤ (i : Int) := by omega
            clear hpos
            go_wp2
            go_ret2
            exact hP.out
          · have hx := drawn_bounds (Words.drop HWS.out uc) sc
            obtain ⟨x, hxx⟩ := Int.eq_ofNat_of_zero_le hx.1
            obtain ⟨q, hq⟩ : ∃ q, q = pick (drawn (all.drop uc) sc) (i + 1) := ⟨_, rfl⟩
            have hqlt : q < i + 1 := hq ▸ pick_lt _ _ hx.1 hx.2 (by omega)
            have HC := refBelow_any wr base b all sc uc ((i : Int) + 1) (q : Int) x hxx (by omega) hR hsc hl (by omega) (by omega) (by omega) (by rw [hq, hxx, pick, Int.toNat_natCast, show ((i : Int) + 1).toNat = i + 1 by omega])
            have H := hide HC; have HA := hide hA; have HB := hide hB; have HQ := hide hq; have HS := hide hsh
            clear HC hA hB hq hsh hx hxx hR
            have hi0 : (1 : Int) ≤ (i : Int) := by omega
            go_wp2_with fail
            refine H.out.mono ?_
            clear H
            rintro e w2 ⟨rfl, hd2, hbut⟩
            have hA3 := HA.out.but hbut (by omega)
            have c1 := hA3.cell i (by omega)
            have c2 := hA3.cell q (by omega)
            have f1 := hA3.free i
            have f2 := hA3.free q
            have HA3 := hide hA3; have HD2 := hide hd2; have HB3 := hide (HB.out.trans hbut)
            have HLN := hide hlen
            clear hA3 hd2 hbut HB HA hlen
            go_wp2
            obtain ⟨v3, c3⟩ := cell?_setCell_some (w := w2) (p := ⟨g, i, none⟩) (x := .int .i64 (lc[q]?.getD 0)) (q := ⟨g, q, none⟩) (v := .int .i64 (lc[q]?.getD 0)) c2
            have f3 : (w2.setCell ⟨g, i, none⟩ (.int .i64 (lc[q]?.getD 0))).frozen? ⟨g, q, none⟩ = false := (HA3.out.set i _).free q
            have bi : (i : Int) < (n : Int) := by omega
            have bq : (q : Int) < (n : Int) := by omega
            go_region
            go_wp2
            go_roundw
            case rel =>
              exact refOrder_step w w2 base b g n i q uc u all lc s sc (by omega) hi1 HLN.out hsc huc (by omega) hgB HQ HS HA3 HD2 HB3
            case measure => simp [RowKit.intOf]; omega
end Go.Proofs.Ytglgflibpgmilaa
