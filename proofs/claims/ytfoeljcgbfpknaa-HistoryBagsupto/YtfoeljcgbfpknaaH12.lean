/- The program's areTurns. -/
import Derived.Test.YtfoeljcgbfpknaaH11
import Derived.Test.YtfoeljcgbfpknaaH4
import Derived.Deep.OwnRows
import Derived.BigQuiet
namespace Go.Proofs.Ytfoeljcgbfpknaa
open Go.RowKit Go.Lib
set_option linter.unusedVariables false
set_option linter.unusedSimpArgs false
/-- Does t stand among the first i of an order? -/
def std (o : List Int) : Nat → Nat → Bool
  | 0, _ => false
  | i + 1, t => if t = oN o i then true else std o i t
theorem std_iff (o : List Int) : ∀ {i t : Nat}, std o i t = true ↔ ∃ k, k < i ∧ oN o k = t
  | 0, t => ⟨fun h => (by cases h), fun ⟨k, h, _⟩ => (by omega)⟩
  | i + 1, t => by
    unfold std
    by_cases e : t = oN o i
    · rw [if_pos e]; exact ⟨fun _ => ⟨i, by omega, e.symm⟩, fun _ => rfl⟩
    · rw [if_neg e, std_iff]
      constructor
      · rintro ⟨k, h1, h2⟩; exact ⟨k, by omega, h2⟩
      · rintro ⟨k, h1, h2⟩
        by_cases q : k = i
        · subst q; exact (e h2.symm).elim
        · exact ⟨k, by omega, h2⟩
/-- The k-th of an order is a number of a span that may stand, and stands there for the first time. -/
def trn (l : List Sp) (o : List Int) (q : Bool) (k : Nat) : Prop := 0 ≤ at_ o k ∧ at_ o k < (l.length : Int) ∧ std o k (oN o k) = false ∧ mayP (spAt l (oN o k)) q = true
def Trn (l : List Sp) (o : List Int) (q : Bool) : Prop := (∀ k, k < o.length → trn l o q k) ∧ ∀ i, i < l.length → ((spAt l i).kind == 2 || (spAt l i).kind == 4) = true → std o o.length i = true
def TnP (l : List Sp) (o : List Int) (q : Bool) (w : World) (x : Ending) (w' : World) : Prop := Below w.heap.size w w' ∧ ∃ b : Bool, x = .returned (.bool b) ∧ (b = true ↔ Trn l o q)
theorem TnP.not {l : List Sp} {o : List Int} {q : Bool} {w w' : World} {x : Ending} (h1 : Below w.heap.size w w') (h2 : x = .returned (.bool false)) (h3 : ¬ Trn l o q) : TnP l o q w x w' := ⟨h1, false, h2, fun h => (by cases h), fun h => (h3 h).elim⟩
set_option maxRecDepth 100000 in
set_option maxHeartbeats 4000000 in
theorem areTurns_any (v vo : Value) (l : List Sp) (o : List Int) (q : Bool) (w : World) (h : RAt Sp.arr 7 w v l) (ho : RowAt .i64 w vo o) (hl : l.length ≤ 1759218604440) : Calls Try.prog 58 #[v, vo, .bool q] w (TnP l o q w) := by
  obtain ⟨ii, hi0⟩ := Option.isSome_iff_exists.1 (show (Try.prog.info? 4).isSome = true by kernel_rfl)
  have hq := Try.info4
  rw [hi0] at hq
  simp only [Option.map_some, Option.some.injEq, Prod.mk.injEq] at hq
  obtain ⟨hz0, hz1, hz2⟩ := hq
  obtain ⟨ao, cap, rfl, hcap, h63⟩ := h.shape
  have H := hide h
  have ho63 := ho
  obtain ⟨oo, oc, rfl, ho1, ho2, hor⟩ := ho63
  clear hor
  have HO := hide ho
  obtain ⟨n, hn⟩ : ∃ n, n = l.length := ⟨_, rfl⟩
  have HN := hide hn
  obtain ⟨m, hm⟩ : ∃ m, m = o.length := ⟨_, rfl⟩
  have HM' := hide hm
  rw [← hn] at hcap H hl ⊢
  rw [← hm] at HO ho1 ⊢
  clear h hn hm ho
  go_enter Try.func58, Try.ntmps58
  go_wp2_with (at_make; refine wpList_make_row _ rfl _ _ 83 rfl 4 ii (.bool false) Try.underlying83 hi0 hz0 hz1 rfl _ _ n rfl rfl (by rw [hz2]; omega) (by omega) ?_)
  have HE : Hid (HM w (w.alloc (.cells (madeCells #[.bool false] n) 4)) w.heap.size n (std o 0)) := ⟨below_alloc (Below.refl _ _) _, by (unfold UB; rw [made_bool]; exact (heap_new _ _).trans (by simp [std])), Nat.le_refl _⟩
  generalize (w.alloc (.cells (madeCells #[.bool false] n) 4)) = w2 at HE ⊢
  generalize hg0 : w.heap.size = g at HE ⊢
  have HG0 := hide hg0
  clear hg0
  go_loopw [6, 9, 17] (fun va _ t wr => ∃ i : Nat, i ≤ m ∧ va = .bool false ∧ t = .int .i64 (i : Int) ∧ HM w wr g n (std o i) ∧ ∀ k, k < i → trn l o q k) (fun _ _ t _ => m - (RowKit.intOf t).toNat)
  case atStart => exact ⟨0, Nat.zero_le _, rfl, rfl, HE.out, fun k hk => by omega⟩
  case round =>
    clear HE
    obtain ⟨i, hin, rfl, rfl, hev, hft⟩ := hrel
    have HE := hide hev; have HF := hide hft
    clear hev hft
    by_cases hlt : i < m
    · have hli : (i : Int) < (m : Int) := by omega
      obtain ⟨go, po, co, e1, he18, x1⟩ := (HO.out.below HE.out.bel).cellAt i (by rw [← HM'.out]; exact hlt)
      simp only [Value.slice.injEq] at e1
      obtain ⟨rfl, he17, rfl⟩ := e1
      clear he17 he18
      have HNO : Hid (¬ trn l o q i → ¬ Trn l o q) := fun a b => a (b.1 i (by rw [← HM'.out]; exact hlt))
      have HTO : Hid (trn l o q i ↔ 0 ≤ at_ o i ∧ at_ o i < (n : Int) ∧ std o i (oN o i) = false ∧ mayP (spAt l (oN o i)) q = true) := by rw [HN.out]; exact Iff.rfl
      have HON : Hid (oN o i = (at_ o i).toNat) := rfl
      have HSS : Hid (∀ t, std o (i + 1) t = if t = oN o i then true else std o i t) := fun _ => rfl
      generalize oN o i = p at HTO HON HSS
      generalize at_ o i = z at x1 HTO HON
      by_cases c1 : z < 0
      · have HR := hide (HNO.out (fun a => by have := (HTO.out.1 a).1; omega))
        go_wp2_with fail
        go_ret
        exact TnP.not HE.out.bel rfl HR.out
      · by_cases c2 : (n : Int) ≤ z
        · have HR := hide (HNO.out (fun a => by have := (HTO.out.1 a).2.1; omega))
          go_wp2_with fail
          go_ret
          exact TnP.not HE.out.bel rfl HR.out
        · obtain rfl : z = (p : Int) := by have := HON.out; omega
          have hpn : p < n := by omega
          have hpi : (p : Int) < (n : Int) := by omega
          obtain ⟨gs, os, rfl, hgs, p0, p1, p2, p3, p4, p5, p6⟩ := sp_cells (H.out.below HE.out.bel) p (by rw [← HN.out]; exact hpn)
          have q4 := HE.out.ub.cell hpn
          cases c4 : std o i p with
          | true =>
            rw [c4] at q4
            have HR := hide (HNO.out (fun a => by have := (HTO.out.1 a).2.2.1; rw [c4] at this; cases this))
            go_wp2_with fail
            go_ret
            exact TnP.not HE.out.bel rfl HR.out
          | false =>
            rw [c4] at q4
            have HMS := hide (fun W => mayStand_any (spAt l p) q W)
            generalize spAt l p = s at p0 p1 p2 p3 p4 p5 p6 HTO HMS
            obtain ⟨who, ins, key, load, beg, en, kind⟩ := s
            simp only at HTO p0 p1 p2 p3 p4 p5 p6
            unfold Sp.arr at HMS
            simp only at HMS
            cases c5 : mayP ⟨who, ins, key, load, beg, en, kind⟩ q with
            | false =>
              rw [c5] at HMS
              have HR := hide (HNO.out (fun a => by have := (HTO.out.1 a).2.2.2; rw [c5] at this; cases this))
              clear HTO c5 HNO
              go_wp2_with (first
                | (go_at_call 95; refine (HMS.out _).mono ?_; rintro e w5 ⟨rfl, hb⟩; have HP := hide (HE.out.on hb); clear hb)
                | fail)
              go_ret
              exact TnP.not HP.out.bel rfl HR.out
            | true =>
              rw [c5] at HMS
              have HR := hide (HTO.out.2 ⟨by omega, by omega, c4, c5⟩)
              clear HTO c5 HNO
              go_upto_region 7 with (first
                | (go_at_call 95; refine (HMS.out _).mono ?_; rintro e w5 ⟨rfl, hb⟩; have HP := hide (HE.out.on hb); clear hb p0 p1 p2 p3 p4 p5 p6 q4 x1)
                | fail)
              have hfr := HP.out.ub.free
              have q5 := HP.out.ub.cell hpn
              have HS := hide (HP.out.put p)
              go_wp2_with fail
              exact ⟨⟨i + 1, by omega, rfl, by simp, ⟨HS.out.bel, HS.out.ub.ext (fun t _ => (HSS.out t).symm), HS.out.ge⟩, fun k hk => by
                by_cases e : k = i
                · rw [e]; exact HR.out
                · exact HF.out k (by omega)⟩, by simp [RowKit.intOf]; omega⟩
    · obtain rfl : m = i := by omega
      have HF2 : Hid (∀ k, k < o.length → trn l o q k) := fun k hk => HF.out k (by rw [HM'.out]; exact hk)
      have HE2 : Hid (HM w wr g n (std o o.length)) := by rw [← HM'.out]; exact HE.out
      clear HF HE
      go_wp2_with fail
      go_loopw [6, 10, 11, 50] (fun va _ _ t wr => ∃ i : Nat, i ≤ n ∧ va = .bool false ∧ t = .int .i64 (i : Int) ∧ HM w wr g n (std o o.length) ∧ ∀ k, k < i → ((spAt l k).kind == 2 || (spAt l k).kind == 4) = true → std o o.length k = true) (fun _ _ _ t _ => n - (RowKit.intOf t).toNat)
      case atStart => exact ⟨0, Nat.zero_le _, rfl, rfl, HE2.out, fun k hk => by omega⟩
      case round =>
        clear HE2
        obtain ⟨i, hin2, rfl, rfl, hev, hft⟩ := hrel
        have HE := hide hev; have HF := hide hft
        clear hev hft
        by_cases hlt2 : i < n
        · have hli : (i : Int) < (n : Int) := by omega
          obtain ⟨gs, os, rfl, hgs, p0, p1, p2, p3, p4, p5, p6⟩ := sp_cells (H.out.below HE.out.bel) i (by rw [← HN.out]; exact hlt2)
          have HCP := hide (fun W => countsP_any (spAt l i) W)
          have HNO : Hid (((spAt l i).kind == 2 || (spAt l i).kind == 4) = true → std o o.length i = false → ¬ Trn l o q) := fun a b c => by
            have := c.2 i (by rw [← HN.out]; exact hlt2) a
            rw [b] at this; cases this
          have HYE : Hid ((((spAt l i).kind == 2 || (spAt l i).kind == 4) = true → std o o.length i = true) → ∀ k, k < i + 1 → ((spAt l k).kind == 2 || (spAt l k).kind == 4) = true → std o o.length k = true) := fun a k hk => by
            by_cases e : k = i
            · rw [e]; exact a
            · exact HF.out k (by omega)
          generalize spAt l i = s at p0 p1 p2 p3 p4 p5 p6 HCP HNO HYE
          obtain ⟨who, ins, key, load, beg, en, kind⟩ := s
          simp only at HNO HYE p0 p1 p2 p3 p4 p5 p6
          unfold Sp.arr at HCP
          simp only at HCP
          generalize (kind == 2 || kind == 4) = cb at HCP HNO HYE
          obtain ⟨X, hX⟩ : ∃ X, X = wr.alloc (.cells #[.int .i64 who, .bool ins, .int .u64 key, .int .u64 load, .int .i64 beg, .int .i64 en, .int .i64 kind] 69) := ⟨_, rfl⟩
          have HBX : Hid (Below wr.heap.size wr X) := by rw [hX]; exact below_alloc (Below.refl _ _) _
          cases cb with
          | false =>
            have HY2 := hide (HYE.out (fun a => by simp at a))
            clear HNO HYE HF
            go_wp2_with (first
              | (go_at_call 69; refine (HCP.out _).mono ?_; rintro e w5 ⟨rfl, hb⟩; rw [← hX] at hb; have HP := hide ((HE.out.on HBX.out).on hb); clear hb p0 p1 p2 p3 p4 p5 p6)
              | fail)
            exact ⟨⟨i + 1, by omega, rfl, by simp, HP.out, HY2.out⟩, by simp [RowKit.intOf]; omega⟩
          | true =>
            cases c4 : std o o.length i with
            | true =>
              have HY2 := hide (HYE.out (fun _ => c4))
              clear HNO HYE HF
              go_wp2_with (first
                | (go_at_call 69; refine (HCP.out _).mono ?_; rintro e w5 ⟨rfl, hb⟩; rw [← hX] at hb; have HP := hide ((HE.out.on HBX.out).on hb); have q4 := HP.out.ub.cell hlt2; rw [c4] at q4; clear hb p0 p1 p2 p3 p4 p5 p6)
                | fail)
              exact ⟨⟨i + 1, by omega, rfl, by simp, HP.out, HY2.out⟩, by simp [RowKit.intOf]; omega⟩
            | false =>
              have HY2 := hide (HNO.out (by simp) c4)
              clear HNO HYE HF
              go_wp2_with (first
                | (go_at_call 69; refine (HCP.out _).mono ?_; rintro e w5 ⟨rfl, hb⟩; rw [← hX] at hb; have HP := hide ((HE.out.on HBX.out).on hb); have q4 := HP.out.ub.cell hlt2; rw [c4] at q4; clear hb p0 p1 p2 p3 p4 p5 p6)
                | fail)
              go_ret
              exact TnP.not HP.out.bel rfl HY2.out
        · obtain rfl : n = i := by omega
          have HT : Hid (Trn l o q) := ⟨HF2.out, fun k hk => HF.out k (by rw [HN.out]; exact hk)⟩
          go_wp2_with fail
          go_ret
          exact ⟨HE.out.bel, true, rfl, fun _ => HT.out, fun _ => rfl⟩
end Go.Proofs.Ytfoeljcgbfpknaa
