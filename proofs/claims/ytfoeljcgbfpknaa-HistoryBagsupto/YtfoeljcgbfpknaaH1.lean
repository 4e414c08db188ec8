/- The moments of spans, their kinds, their events. -/
import Derived.Test.YtfoeljcgbfpknaaHq
import Derived.Test.YtfoeljcgbfpknaaMk
namespace Go.Proofs.Ytfoeljcgbfpknaa
open Go.RowKit Go.Lib
set_option linter.unusedVariables false
set_option linter.unusedSimpArgs false
/-- The cells of a span in its list. -/
theorem sp_cells {w : World} {ao : Option Addr} {n cap : Nat} {l : List Sp} (h : RAt Sp.arr 7 w (.slice ao n cap) l) (i : Nat) (hi : i < l.length) : ∃ g o, ao = some ⟨g, o, none⟩ ∧ g < w.heap.size ∧ w.cell? ⟨g, o + i * 7, none⟩ = some (.int .i64 (spAt l i).who) ∧ w.cell? ⟨g, o + i * 7 + 1, none⟩ = some (.bool (spAt l i).ins) ∧ w.cell? ⟨g, o + i * 7 + 2, none⟩ = some (.int .u64 (spAt l i).key) ∧ w.cell? ⟨g, o + i * 7 + 3, none⟩ = some (.int .u64 (spAt l i).load) ∧ w.cell? ⟨g, o + i * 7 + 4, none⟩ = some (.int .i64 (spAt l i).beg) ∧ w.cell? ⟨g, o + i * 7 + 5, none⟩ = some (.int .i64 (spAt l i).en) ∧ w.cell? ⟨g, o + i * 7 + 6, none⟩ = some (.int .i64 (spAt l i).kind) := by
  obtain ⟨g, o, rfl, hg, p⟩ := h.at i hi
  have hs : spAt l i = l[i] := by simp [spAt, hi]
  rw [← hs] at p
  exact ⟨g, o, rfl, hg, p 0 _ rfl, p 1 _ rfl, p 2 _ rfl, p 3 _ rfl, p 4 _ rfl, p 5 _ rfl, p 6 _ rfl⟩
theorem momD_le (l : List Sp) : ∀ n, momD l n ≤ 2 * n
  | 0 => Nat.le_refl _
  | n + 1 => by have := momD_le l n; unfold momD; split <;> omega
theorem mdecH {i n : Nat} (h : i < n) : n - (RowKit.intOf (.int .i64 ((i : Int) + 1))).toNat < n - (RowKit.intOf (.int .i64 (i : Int))).toNat := by simp [RowKit.intOf]; omega
set_option maxRecDepth 100000 in
set_option maxHeartbeats 1000000 in
theorem momR_any (v : Value) (l : List Sp) (w : World) (h : RAt Sp.arr 7 w v l) (hl : l.length ≤ 17592186044416) : Calls Try.prog 39 #[v] w fun x w' => x = .returned (.int .i64 (momD l l.length : Nat)) ∧ w' = w := by
  obtain ⟨ao, cap, rfl, hcap, h63⟩ := h.shape
  have H := hide h
  obtain ⟨n, hn⟩ : ∃ n, n = l.length := ⟨_, rfl⟩
  have HN := hide hn
  rw [← hn] at hcap H hl ⊢
  clear h hn
  go_enter Try.func39, Try.ntmps39
  go_wp2_with fail
  go_loopw [3, 4] (fun a t wr => ∃ i : Nat, i ≤ n ∧ a = .int .i64 (momD l i : Nat) ∧ t = .int .i64 (i : Int) ∧ wr = w) (fun _ t _ => n - (RowKit.intOf t).toNat)
  case atStart => exact ⟨0, Nat.zero_le _, rfl, rfl, rfl⟩
  case round =>
    obtain ⟨i, hin, rfl, rfl, rfl⟩ := hrel
    have hmd := momD_le l i
    by_cases hlt : i < n
    · have hli : (i : Int) < (n : Int) := by omega
      obtain ⟨g, o, rfl, hg, p0, p1, p2, p3, p4, p5, p6⟩ := sp_cells H.out i (by rw [← HN.out]; exact hlt)
      have HD : Hid (momD l (i + 1) = if (spAt l i).en = -1 then momD l i + 1 else momD l i + 2) := rfl
      clear p0 p1 p2 p3 p4 p6
      generalize (spAt l i).en = b at p5 HD
      generalize momD l i = m at HD hmd
      by_cases hb : b = -1
      · have HR : Hid (momD l (i + 1) = m + 1) := hide (by rw [HD.out, if_pos hb])
        have hbb : (b != -1) = false := by simp [hb]
        clear HD hb
        go_wp2_with fail
        exact ⟨⟨i + 1, by omega, by rw [HR.out]; simp, by simp, by trivial⟩, mdecH hlt⟩
      · have HR : Hid (momD l (i + 1) = m + 2) := hide (by rw [HD.out, if_neg hb])
        have hbb : (b != -1) = true := by simp [hb]
        clear HD hb
        go_wp2_with fail
        exact ⟨⟨i + 1, by omega, by rw [HR.out]; simp [Int.add_assoc], by simp, by trivial⟩, mdecH hlt⟩
    · obtain rfl : i = n := by omega
      have hli : ¬ (i : Int) < (i : Int) := by omega
      go_wp2_with fail
      go_ret
      exact ⟨rfl, rfl⟩
/-- How many ends from 0 on there are. -/
def momP (l : List Sp) : Nat → Nat
  | 0 => 0
  | n + 1 => if 0 ≤ (spAt l n).en then momP l n + 1 else momP l n
theorem momP_le (l : List Sp) : ∀ n, momP l n ≤ n
  | 0 => Nat.le_refl _
  | n + 1 => by have := momP_le l n; unfold momP; split <;> omega
set_option maxRecDepth 100000 in
set_option maxHeartbeats 1000000 in
theorem momP_any (v : Value) (l : List Sp) (w : World) (h : RAt Sp.arr 7 w v l) (hl : l.length ≤ 17592186044416) : Calls Try.prog 66 #[v] w fun x w' => x = .returned (.int .i64 (l.length + momP l l.length : Nat)) ∧ Below w.heap.size w w' := by
  obtain ⟨ao, cap, rfl, hcap, h63⟩ := h.shape
  have H := hide h
  obtain ⟨n, hn⟩ : ∃ n, n = l.length := ⟨_, rfl⟩
  have HN := hide hn
  rw [← hn] at hcap H hl ⊢
  clear h hn
  go_enter Try.func66, Try.ntmps66
  go_wp2_with fail
  go_loopw [3, 5, 10] (fun a _ t wr => ∃ i : Nat, i ≤ n ∧ a = .int .i64 ((n : Int) + (momP l i : Nat)) ∧ t = .int .i64 (i : Int) ∧ Below w.heap.size w wr) (fun _ _ t _ => n - (RowKit.intOf t).toNat)
  case atStart => exact ⟨0, Nat.zero_le _, by simp [momP], rfl, Below.refl _ _⟩
  case round =>
    obtain ⟨i, hin, rfl, rfl, hb⟩ := hrel
    have HB := hide hb
    have hmd := momP_le l i
    clear hb
    by_cases hlt : i < n
    · have hli : (i : Int) < (n : Int) := by omega
      obtain ⟨g, o, rfl, hg, p0, p1, p2, p3, p4, p5, p6⟩ := sp_cells (H.out.below HB.out) i (by rw [← HN.out]; exact hlt)
      have HD : Hid (momP l (i + 1) = if 0 ≤ (spAt l i).en then momP l i + 1 else momP l i) := rfl
      generalize spAt l i = s at p0 p1 p2 p3 p4 p5 p6 HD
      obtain ⟨who, ins, key, load, beg, en, kind⟩ := s
      simp only at p0 p1 p2 p3 p4 p5 p6 HD
      generalize momP l i = m at HD hmd
      have HA : Hid (∀ o, Below w.heap.size w (wr.alloc o)) := fun o => below_alloc HB.out o
      by_cases hb : 0 ≤ en
      · have HR : Hid (momP l (i + 1) = m + 1) := hide (by rw [HD.out, if_pos hb])
        clear HD
        go_wp2_with fail
        exact ⟨⟨i + 1, by omega, by rw [HR.out]; simp [Int.add_assoc], by simp, HA.out _⟩, mdecH hlt⟩
      · have HR : Hid (momP l (i + 1) = m) := hide (by rw [HD.out, if_neg hb])
        clear HD
        go_wp2_with fail
        exact ⟨⟨i + 1, by omega, by rw [HR.out], by simp, HA.out _⟩, mdecH hlt⟩
    · obtain rfl : i = n := by omega
      have hli : ¬ (i : Int) < (i : Int) := by omega
      go_wp2_with fail
      go_ret
      exact ⟨by simp, HB.out⟩
theorem bool_kf {b : Bool} {p : Prop} [Decidable p] (h : b = true ↔ p) : b = decide p := by
  by_cases q : p
  · rw [decide_eq_true q]; exact h.2 q
  · rw [decide_eq_false q]
    cases b with
    | false => rfl
    | true => exact absurd (h.1 rfl) q
set_option maxRecDepth 100000 in
set_option maxHeartbeats 2000000 in
theorem kindFits_any (s : Sp) (w : World) : Calls Try.prog 92 #[.agg s.arr] w fun x w' => x = .returned (.bool (kfit s)) ∧ Below w.heap.size w w' := by
  obtain ⟨who, ins, key, load, beg, en, kind⟩ := s
  have HN := hide (fun W => none_any key load W)
  have HA : Hid (Below w.heap.size w (w.alloc (.cells #[.int .i64 who, .bool ins, .int .u64 key, .int .u64 load, .int .i64 beg, .int .i64 en, .int .i64 kind] 69))) := below_alloc (Below.refl _ _) _
  unfold Sp.arr
  simp only
  by_cases he : en = -1
  · have HK : Hid (kfit ⟨who, ins, key, load, beg, en, kind⟩ = decide (kind = 0 ∧ (ins = true ∨ (key = 0 ∧ load = 0)))) := bool_kf (kfit_open he)
    rw [HK.out]
    clear HK
    subst he
    by_cases hk : kind = 0
    · subst hk
      cases ins with
      | true =>
        go_enter Try.func92, Try.ntmps92
        go_wp2_with fail
        go_ret
        exact ⟨by simp, HA.out⟩
      | false =>
        go_enter Try.func92, Try.ntmps92
        go_wp2_with fail
        refine (HN.out _).mono ?_
        rintro e w2 ⟨rfl, hb⟩
        have HB := hide (below_on HA.out hb)
        clear hb
        go_wp2_with fail
        go_ret
        exact ⟨by simp, HB.out⟩
    · have hk2 : (kind == 0) = false := by simp [hk]
      have HR : Hid (decide (kind = 0 ∧ (ins = true ∨ (key = 0 ∧ load = 0))) = false) := decide_eq_false (fun h => hk h.1)
      rw [HR.out]
      clear hk
      go_enter Try.func92, Try.ntmps92
      go_wp2_with fail
      go_ret
      exact ⟨rfl, HA.out⟩
  · have he2 : (en == -1) = false := by simp [he]
    cases ins with
    | true =>
      have HK : Hid (kfit ⟨who, true, key, load, beg, en, kind⟩ = decide (kind = 2 ∨ kind = 6)) := bool_kf (kfit_ins he rfl)
      rw [HK.out]
      clear HK he
      by_cases hk : kind = 2
      · subst hk
        go_enter Try.func92, Try.ntmps92
        go_wp2_with fail
        go_ret
        exact ⟨by simp, HA.out⟩
      · have hk2 : (kind == 2) = false := by simp [hk]
        have HR : Hid (decide (kind = 2 ∨ kind = 6) = (kind == 6)) := hide (by by_cases q : kind = 6 <;> simp [hk, q])
        rw [HR.out]
        clear hk
        go_enter Try.func92, Try.ntmps92
        go_wp2_with fail
        go_ret
        exact ⟨by first | rfl | (simp; done), HA.out⟩
    | false =>
      have HK : Hid (kfit ⟨who, false, key, load, beg, en, kind⟩ = decide (kind = 4 ∨ ((kind = 5 ∨ kind = 6) ∧ key = 0 ∧ load = 0))) := bool_kf (kfit_out he rfl)
      rw [HK.out]
      clear HK he
      by_cases hk : kind = 4
      · subst hk
        go_enter Try.func92, Try.ntmps92
        go_wp2_with fail
        go_ret
        exact ⟨by simp, HA.out⟩
      · have hk2 : (kind == 4) = false := by simp [hk]
        by_cases h5 : kind = 5
        · subst h5
          clear hk hk2
          go_enter Try.func92, Try.ntmps92
          go_wp2_with fail
          refine (HN.out _).mono ?_
          rintro e w2 ⟨rfl, hb⟩
          have HB := hide (below_on HA.out hb)
          clear hb
          go_wp2_with fail
          go_ret
          exact ⟨by simp, HB.out⟩
        · have h52 : (kind == 5) = false := by simp [h5]
          by_cases h6 : kind = 6
          · subst h6
            clear hk hk2 h5 h52
            go_enter Try.func92, Try.ntmps92
            go_wp2_with fail
            refine (HN.out _).mono ?_
            rintro e w2 ⟨rfl, hb⟩
            have HB := hide (below_on HA.out hb)
            clear hb
            go_wp2_with fail
            go_ret
            exact ⟨by simp, HB.out⟩
          · have h62 : (kind == 6) = false := by simp [h6]
            have HR : Hid (decide (kind = 4 ∨ ((kind = 5 ∨ kind = 6) ∧ key = 0 ∧ load = 0)) = false) := decide_eq_false (fun h => by omega)
            rw [HR.out]
            clear hk h5 h6
            go_enter Try.func92, Try.ntmps92
            go_wp2_with fail
            go_ret
            exact ⟨rfl, HA.out⟩
theorem Try.results93 : Try.f93.results = #[.cell 2 87] := by kernel_rfl
theorem Try.results94 : Try.f94.results = #[.cell 2 87] := by kernel_rfl
end Go.Proofs.Ytfoeljcgbfpknaa
