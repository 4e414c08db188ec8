/- HistoryShows: the walk. -/
import Derived.Test.YtedebahkcgdekaaDoorSpC
namespace Go.Proofs.YtedebahkcgdekaaDoor
open Go.Shelf Go.RowKit Go.Sort Go.Lib
set_option linter.unusedVariables false
set_option linter.unusedSimpArgs false
set_option maxRecDepth 100000 in
set_option maxHeartbeats 4000000 in
theorem shows_law (v : Value) (l : List Ev) (w : World) (h : EAt w v l) (hk : ∀ i, i < l.length → Evok (evAt l i)) (hlen : l.length ≤ 1048576) (hW : WordsAt w) (htab : Lib.TabIs Tryd.prog w "internal/strconv.uint64pow10" .u64 Lib.pow10Tab) :
    Calls Tryd.prog 3 #[v] w fun e w' => e = .returned (.bool true) ∧ Below w.heap.size w w' := by
  obtain ⟨ao, cap, rfl, hcap, h63⟩ := h.shape
  have H := hide h
  have H4 := hide (rshow_any _ l w h hk hlen htab)
  have H5 : Hid (∀ W, Below w.heap.size w W → Calls Tryd.prog 5 #[.slice ao l.length cap] W _) := fun W hb => events_any _ l W (h.below hb) (by omega)
  have H6 : Hid (∀ W vv, Below w.heap.size w W → EAt W vv l → Calls Tryd.prog 6 #[vv] W _) := fun W vv hb hh => show_any vv l W hh hk hlen (hW.below hb) (Lib.tabBelow_of_tabIs htab W hb)
  have H7 : Hid (∀ W fr g c, Below w.heap.size w W → EM W fr g c l → Calls Tryd.prog 7 #[.slice (some ⟨g, 0, none⟩) l.length c, .slice ao l.length cap] W _) := fun W fr g c hb hem => kept_any fr g c _ l W hem (h.below hb)
  obtain ⟨SS, hSS⟩ : ∃ SS, SS = shS l := ⟨_, rfl⟩
  obtain ⟨SE, hSE⟩ : ∃ SE, SE = shE l := ⟨_, rfl⟩
  obtain ⟨n, hn⟩ : ∃ n, n = l.length := ⟨_, rfl⟩
  rw [← hSS, ← hSE] at H4
  simp only [← hSS, ← hSE] at H6
  rw [← hn] at hcap ⊢
  simp only [← hn] at H4 H5 H6 H7
  have HN := hide hn
  clear h hSS hSE hk hW htab hlen hn
  go_enter Tryd.func3, Tryd.ntmps3
  go_wp2_with (first
    | (go_at_call 4; refine H4.out.mono ?_; rintro e w1 ⟨rfl, hb⟩; have HB1 := hide hb; clear hb)
    | (go_at_call 5; refine (H5.out _ HB1.out).mono ?_; rintro e w2 ⟨g, c, rfl, hem, hb⟩; have HB2 := hide (below_on HB1.out hb); have HEM := hide hem; have HEE := hide hem.eat; rw [← HN.out] at HEE; clear hb hem)
    | (go_at_call 6; refine (H6.out _ _ HB2.out HEE.out).mono ?_; rintro e w3 ⟨rfl, hb⟩; have HB3 := hide (below_on HB2.out hb); have HE3 := hide (HEM.out.below hb); clear hb)
    | (go_at_call 7; refine (H7.out _ _ _ _ HB3.out HE3.out).mono ?_; rintro e w4 ⟨rfl, hb⟩; have HB4 := hide (below_on HB3.out hb); clear hb)
    | fail)
  go_ret
  exact ⟨rfl, HB4.out⟩
end Go.Proofs.YtedebahkcgdekaaDoor
