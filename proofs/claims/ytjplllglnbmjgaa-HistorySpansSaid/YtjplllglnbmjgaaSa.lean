/- The program's Spans. -/
import Derived.Test.YtjplllglnbmjgaaOp
namespace Go.Proofs.Ytjplllglnbmjgaa
open Go.RowKit Go.Lib Go.Maps
set_option linter.unusedVariables false
set_option linter.unusedSimpArgs false
set_option maxRecDepth 100000 in
set_option maxHeartbeats 2000000 in
theorem spans_any (v : Value) (evs : List Ev) (w : World) (h : EAt w v evs) (hlen : evs.length ≤ 3518437208880) (hok : Eok evs) : Calls Try.prog 6 #[v] w (SpP evs w) := by
  have HO := hide (operations_any v evs w h hlen hok)
  obtain ⟨ao, cap, rfl, hcap, h63⟩ := h.shape
  have HM : Hid (2000 < evs.length → badAt evs = none → aSp evs = [] ∧ aEr evs = 71 ∧ aIx evs = 0) := fun a b => ans_many b a
  have HG : Hid (∀ l last, ¬ 2000 < evs.length → badAt evs = none → rn evs evs.length = some (l, last) → aSp evs = l ∧ aEr evs = 0 ∧ aIx evs = 0) := fun l last a b c => ans_good b a c
  obtain ⟨n, hn⟩ : ∃ n, n = evs.length := ⟨_, rfl⟩
  have HN := hide hn
  rw [← hn] at HO hcap HM HG hlen ⊢
  clear h hn hok
  go_enter Try.func6, Try.ntmps6
  go_wp2_with fail
  refine HO.out.mono ?_
  rintro e w2 (⟨i, hb, rfl, hbl⟩ | ⟨v', l, last, hb, hr, rfl, hso, hbl⟩)
  · have HB := hide hb
    have HBL := hide hbl
    have hne : ¬ (i : Int) = -1 := by omega
    have hneb : ((i : Int) != -1) = true := by simp
    clear hb hbl HO HM HG
    go_wp2
    go_ret3
    exact SpP.bad HB.out HBL.out
  · have HB := hide hb
    have HBL := hide hbl
    have HSO := hide hso
    rw [← HN.out] at hr
    have HR := hide hr
    clear hb hbl HO hso hr
    by_cases hm : 2000 < n
    · obtain ⟨a1, a2, a3⟩ := HM.out hm HB.out
      have HA := hide (And.intro a1 (And.intro a2 a3))
      have hmi : (2000 : Int) < (n : Int) := by omega
      clear a1 a2 a3
      go_wp2
      go_ret3
      obtain ⟨h1, h2, h3⟩ := HA.out
      refine ⟨_, by rw [h2, h3]; rfl, ?_, HBL.out⟩
      rw [h1]; exact ROwn.nil _ _
    · obtain ⟨a1, a2, a3⟩ := HG.out l last hm HB.out HR.out
      have HA := hide (And.intro a1 (And.intro a2 a3))
      have hmi : ¬ (2000 : Int) < (n : Int) := by omega
      clear a1 a2 a3
      go_wp2
      go_ret3
      obtain ⟨h1, h2, h3⟩ := HA.out
      refine ⟨_, by rw [h2, h3]; rfl, ?_, HBL.out⟩
      rw [h1]; exact HSO.out
end Go.Proofs.Ytjplllglnbmjgaa
