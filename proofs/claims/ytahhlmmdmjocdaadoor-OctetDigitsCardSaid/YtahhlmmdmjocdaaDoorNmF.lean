/- octet.Number. -/
import Derived.Test.YtahhlmmdmjocdaaDoorNmE
namespace Go.Proofs.YtahhlmmdmjocdaaDoor
open Go.Shelf Go.RowKit Go.Sort Go.Lib
set_option linter.unusedVariables false
set_option linter.unusedSimpArgs false
/-- The number of digits alone, behind acc; none: too great. -/
def rdN (acc : Nat) : List UInt8 → Option Nat
  | [] => some acc
  | c :: r => if 18446744073709551615 < acc * 10 + (c.toNat - 48) then none else rdN (acc * 10 + (c.toNat - 48)) r
theorem pm_rdN : ∀ (l : List UInt8) (acc : Nat), (∀ c ∈ l, 48 ≤ c.toNat ∧ c.toNat ≤ 57) → Lib.parseUintM 18446744073709551615 acc l = (match rdN acc l with | some u => .ok u | none => .range)
  | [], acc, _ => rfl
  | c :: r, acc, h => by
    have hc := h c (by simp)
    unfold Lib.parseUintM rdN
    rw [if_pos hc]
    by_cases h1 : 1844674407370955162 ≤ acc
    · rw [if_pos h1, if_pos (by omega)]
    · rw [if_neg h1]
      by_cases h2 : 18446744073709551615 < acc * 10 + (c.toNat - 48)
      · rw [if_pos h2, if_pos h2]
      · rw [if_neg h2, if_neg h2]
        exact pm_rdN r _ (fun x hx => h x (by simp [hx]))
theorem dig_of {s : ByteArray} (h : okS s) : ∀ c ∈ s.data.toList, 48 ≤ c.toNat ∧ c.toNat ≤ 57 := by
  intro c hc
  obtain ⟨i, hi, rfl⟩ := List.mem_iff_getElem.1 hc
  have h1 := h.2.2 i (by simpa using hi)
  unfold bt at h1
  rw [List.getElem?_eq_getElem hi] at h1
  exact h1
theorem pb_rdN {s : ByteArray} (h : okS s) : Lib.parseUintB 64 s.data.toList = (match rdN 0 s.data.toList with | some u => .ok u | none => .range) := by
  unfold Lib.parseUintB
  rw [if_neg (by intro e; have := h.1; have h2 : s.data.toList.length = s.size := (by simp); rw [e] at h2; simp at h2; omega)]
  exact pm_rdN _ _ (dig_of h)
/-- What Number answers. -/
def NumIs (s : ByteArray) (v : Int) (e : Int) : Prop :=
  (¬ okS s ∧ v = 0 ∧ e = 5) ∨ (okS s ∧ ((∃ u, rdN 0 s.data.toList = some u ∧ v = (u : Int) ∧ e = 0) ∨ (rdN 0 s.data.toList = none ∧ v = 0 ∧ e = 2)))
theorem NumIs.one {s : ByteArray} {v e v' e' : Int} (h : NumIs s v e) (k : NumIs s v' e') : v = v' ∧ e = e' := by
  rcases h with ⟨h, rfl, rfl⟩ | ⟨h, ⟨u, hu, rfl, rfl⟩ | ⟨hu, rfl, rfl⟩⟩ <;> rcases k with ⟨k, rfl, rfl⟩ | ⟨k, ⟨u', hu', rfl, rfl⟩ | ⟨hu', rfl, rfl⟩⟩
  all_goals first
    | exact ⟨rfl, rfl⟩
    | exact absurd h k
    | exact absurd k h
    | (rw [hu] at hu'; cases hu'; exact ⟨rfl, rfl⟩)
    | (rw [hu] at hu'; cases hu')
set_option maxRecDepth 100000 in
set_option maxHeartbeats 1000000 in
theorem number_any (s : ByteArray) (hs : s.size ≤ 140737488351232) (tp : TypeId) (p : Value) (w : World) (hvar : w.var? Tryd.prog "strconv.ErrRange" = some #[.iface tp p]) :
    Calls Tryd.prog 5 #[.string s] w fun e w' => ∃ v c, e = .returned (.tuple #[.int .u64 v, .int .i64 c]) ∧ NumIs s v c ∧ Below w.heap.size w w' := by
  have HI := hide (isDec_any s hs w)
  by_cases hok : okS s
  · cases hr : rdN 0 s.data.toList with
    | some u =>
      have HP := hide (Tryd.strconv_ParseUint_10_at64_ok s (by omega) u (by rw [pb_rdN hok, hr]) w)
      have HN : Hid (NumIs s (u : Int) 0) := .inr ⟨hok, .inl ⟨u, hr, rfl, rfl⟩⟩
      have HO := hide hok
      clear hvar hok hr
      go_enter Tryd.func5, Tryd.ntmps5
      go_wp2_with (first
        | (go_at_call 19; refine HI.out.mono ?_; rintro e w' ⟨h1, _, rfl⟩; rw [h1 HO.out]; clear h1)
        | (go_at_call 20; refine HP.out.mono ?_; rintro e w2 ⟨rfl, hw⟩; have HW := hide hw; clear hw)
        | fail)
      go_ret2
      refine ⟨_, _, rfl, HN.out, ?_⟩
      rcases HW.out with rfl | rfl
      · exact Below.refl _ _
      · exact Lib.bytesWorld_below _ _ _
    | none =>
      have HP := hide (Tryd.strconv_ParseUint_10_at64_range_var s (by omega) (by rw [pb_rdN hok, hr]) tp p w hvar)
      have HN : Hid (NumIs s 0 2) := .inr ⟨hok, .inr ⟨hr, rfl, rfl⟩⟩
      have HO := hide hok
      clear hvar hok hr
      go_enter Tryd.func5, Tryd.ntmps5
      go_wp2_with (first
        | (go_at_call 19; refine HI.out.mono ?_; rintro e w' ⟨h1, _, rfl⟩; rw [h1 HO.out]; clear h1)
        | (go_at_call 20; refine HP.out.mono ?_; rintro e w2 ⟨N, rfl, _, _, hb⟩; have HW := hide hb; clear hb)
        | fail)
      go_ret2
      exact ⟨_, _, rfl, HN.out, HW.out⟩
  · have HO := hide hok
    have HN : Hid (NumIs s 0 5) := .inl ⟨hok, rfl, rfl⟩
    clear hvar hok
    go_enter Tryd.func5, Tryd.ntmps5
    go_wp2_with (first
      | (go_at_call 19; refine HI.out.mono ?_; rintro e w' ⟨_, h1, rfl⟩; rw [h1 HO.out]; clear h1)
      | fail)
    go_ret2
    exact ⟨_, _, rfl, HN.out, Below.refl _ _⟩
end Go.Proofs.YtahhlmmdmjocdaaDoor
