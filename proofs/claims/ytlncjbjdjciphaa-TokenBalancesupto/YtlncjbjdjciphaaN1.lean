/- The steps of a node, whatever the access does to the arena. -/
import Derived.Test.YtlncjbjdjciphaaNo
import Derived.Deep.RegionWith
import Derived.Laws.EntriesVeiled
namespace Go.Proofs.Ytlncjbjdjciphaa
open Go.RowKit Go.Lib
set_option linter.unusedVariables false
set_option linter.unusedSimpArgs false
/-- A step: the access has left a world of P, then the node's own block has turned. -/
def StN (P : World → Prop) (q : Nat) (ob : Obj) (w' : World) : Prop := ∃ w2, P w2 ∧ w'.heap[q]? = some ob ∧ Chg (fun k => k = q) w2 w'
theorem StN.of {P : World → Prop} {q : Nat} {ob : Obj} {w2 w3 : World} (h : P w2) (hq : w2.heap[q]? = some ob) (hb : Below w2.heap.size w2 w3) : StN P q ob w3 :=
  ⟨w2, h, (hb.block _ (lt_of_heap hq)).trans hq, Chg.of_below hb⟩
theorem StN.more {P : World → Prop} {q : Nat} {ob' : Obj} {w2 : World} {i : Nat} {u : Value} {cs : Array Value} (h : StN P q (.cells cs 88 (0, 0)) w2) (he : ob' = .cells (cs.setIfInBounds i u) 88 (0, 0)) : StN P q ob' (w2.setCell ⟨q, i, none⟩ u) := by
  obtain ⟨w1, h1, h2, h3⟩ := h
  exact ⟨w1, h1, by rw [heap_set h2, he], h3.setCell (p := ⟨q, i, none⟩) rfl _⟩

section
variable {w : World} {q p : Nat} {d : Nd} {sv : Value} {x : Int} {P : World → Prop}
set_option maxRecDepth 100000 in
theorem isFirst_any (W : World) (h : W.heap[q]? = some (d.obj sv)) : Calls Try.prog 88 #[.pointer (some ⟨q, 0, none⟩)] W fun e w' => e = .returned (.bool (decide (d.who = 0))) ∧ w' = W := by
  unfold Nd.obj NObj at h
  have c5 := cell_of h (i := 5) rfl
  obtain ⟨y, hy⟩ : ∃ y, y = d.who := ⟨_, rfl⟩
  rw [← hy] at c5 ⊢
  clear hy h
  by_cases h0 : y = 0
  · subst h0
    go_enter Try.func88, Try.ntmps88
    go_wp2
    go_ret
    exact ⟨rfl, rfl⟩
  · have h1 : ((y : Int) == 0) = false := by simp; omega
    have h2 : decide (y = 0) = false := by simp [h0]
    rw [h2]
    go_enter Try.func88, Try.ntmps88
    go_wp2
    go_ret
    exact ⟨rfl, rfl⟩

set_option maxRecDepth 100000 in
set_option maxHeartbeats 4000000 in
theorem ph1N (so : Option Addr) (sl sc : Nat) (hsv : sv = .slice so sl sc) (hsl : sl = d.sends.length) (hl : sl ≤ 10000) (hs : 0 ≤ d.sent) (hs2 : d.sent ≤ 10000) (hd : d.ph = 1)
    (HA : ∀ X, Below w.heap.size w X → Calls Try.prog 58 #[.pointer (some ⟨p, 0, none⟩), .int .i64 0] X fun e w2 => e = .returned (.int .u64 x) ∧ P w2) (hP : ∀ w2, P w2 → w2.heap[q]? = some (d.obj sv)) :
    Calls Try.prog 50 #[.pointer (some ⟨q, 0, none⟩), .pointer (some ⟨p, 0, none⟩)] w fun e w' => e = .returned (.tuple #[]) ∧ StN P q ((d.next x).obj sv) w' := by
  have HQ := hide hP
  have HC := hide HA
  have HD := hide hd
  clear hP HA
  subst hsv
  have HSL := hide hsl
  obtain ⟨act, hact⟩ : ∃ act, act = d.active := ⟨_, rfl⟩
  obtain ⟨lf, hlf⟩ : ∃ lf, lf = d.left := ⟨_, rfl⟩
  obtain ⟨sn, hsn⟩ : ∃ sn, sn = d.sent := ⟨_, rfl⟩
  have HACT := hide hact; have HLF := hide hlf; have HSN := hide hsn
  rw [← hsn] at hs hs2
  clear hact hlf hsn hd hsl
  by_cases hx : x = 0
  · have hx1 : (x != 0) = false := by simp [hx]
    have HX := hide hx
    clear hx
    cases act with
    | false =>
      have HN : Hid (d.next x = { d with ph := 3, active := false }) := by
        unfold Nd.next Hid; simp only [HD.out]
        rw [if_neg (by simp [HX.out]), if_neg (by rw [← HACT.out]; simp)]
      go_enter Try.func50, Try.ntmps50
      go_wp2_with fail
      refine (HC.out w (Below.refl _ _)).mono ?_
      rintro e w2 ⟨rfl, hp2⟩
      have hq := HQ.out w2 hp2
      unfold Nd.obj NObj at hq
      rw [← HACT.out, ← HLF.out, ← HSN.out] at hq
      have c0 := cell_of hq (i := 0) rfl; have c1 := cell_of hq (i := 1) rfl; have c2 := cell_of hq (i := 2) rfl; have c7 := cell_of hq (i := 7) rfl; have c9 := cell_of hq (i := 9) rfl
      have f9 := free_of hq 9; have f0 := free_of hq 0
      have HE : Hid (∀ k, StN P q ((d.next x).obj (.slice so sl sc)) (((w2.drewN k).setCell ⟨q, 0, none⟩ (.bool false)).setCell ⟨q, 9, none⟩ (.func (.func 60) #[] #[]))) := hide (fun k => (((StN.of hp2 hq (below_drN w2 k)).more rfl).more (by rw [HN.out]; unfold Nd.obj NObj; simp only [← HACT.out, ← HLF.out, ← HSN.out, nxF]; rfl)))
      clear hp2 hq
      go_wp2_with fail
      go_quiet (fail)
      go_wp2_with fail
      first | go_end0 | refine bodyPost_ret (results_none rfl _ _ _) rfl ?_
      exact ⟨rfl, HE.out _⟩
    | true =>
      by_cases hb : 0 < lf
      · by_cases hc : sn < (sl : Int)
        · have HN : Hid (d.next x = { d with ph := 2 }) := by
            unfold Nd.next Hid; simp only [HD.out]
            rw [if_neg (by simp [HX.out]), if_pos ⟨HACT.out.symm, by rw [← HLF.out]; exact hb, by rw [← HSN.out, ← HSL.out]; exact hc⟩]
          go_enter Try.func50, Try.ntmps50
          go_wp2_with fail
          refine (HC.out w (Below.refl _ _)).mono ?_
          rintro e w2 ⟨rfl, hp2⟩
          have hq := HQ.out w2 hp2
          unfold Nd.obj NObj at hq
          rw [← HACT.out, ← HLF.out, ← HSN.out] at hq
          have c0 := cell_of hq (i := 0) rfl; have c1 := cell_of hq (i := 1) rfl; have c2 := cell_of hq (i := 2) rfl; have c7 := cell_of hq (i := 7) rfl; have c9 := cell_of hq (i := 9) rfl
          have f9 := free_of hq 9; have f0 := free_of hq 0
          have HE : Hid (∀ k, StN P q ((d.next x).obj (.slice so sl sc)) ((w2.drewN k).setCell ⟨q, 9, none⟩ (.func (.func 59) #[] #[]))) := hide (fun k => ((StN.of hp2 hq (below_drN w2 k)).more (by rw [HN.out]; unfold Nd.obj NObj; simp only [← HACT.out, ← HLF.out, ← HSN.out, nxF]; rfl)))
          clear hp2 hq
          go_wp2_with fail
          go_quiet (fail)
          go_wp2_with fail
          first | go_end0 | refine bodyPost_ret (results_none rfl _ _ _) rfl ?_
          exact ⟨rfl, HE.out _⟩
        · have hc2 : decide (sn < (sl : Int)) = false := by simpa using hc
          have HN : Hid (d.next x = { d with ph := 3, active := false }) := by
            unfold Nd.next Hid; simp only [HD.out]
            rw [if_neg (by simp [HX.out]), if_neg (by rw [← HSN.out, ← HSL.out]; exact fun q => hc q.2.2)]
          go_enter Try.func50, Try.ntmps50
          go_wp2_with fail
          refine (HC.out w (Below.refl _ _)).mono ?_
          rintro e w2 ⟨rfl, hp2⟩
          have hq := HQ.out w2 hp2
          unfold Nd.obj NObj at hq
          rw [← HACT.out, ← HLF.out, ← HSN.out] at hq
          have c0 := cell_of hq (i := 0) rfl; have c1 := cell_of hq (i := 1) rfl; have c2 := cell_of hq (i := 2) rfl; have c7 := cell_of hq (i := 7) rfl; have c9 := cell_of hq (i := 9) rfl
          have f9 := free_of hq 9; have f0 := free_of hq 0
          have HE : Hid (∀ k, StN P q ((d.next x).obj (.slice so sl sc)) (((w2.drewN k).setCell ⟨q, 0, none⟩ (.bool false)).setCell ⟨q, 9, none⟩ (.func (.func 60) #[] #[]))) := hide (fun k => (((StN.of hp2 hq (below_drN w2 k)).more rfl).more (by rw [HN.out]; unfold Nd.obj NObj; simp only [← HACT.out, ← HLF.out, ← HSN.out, nxF]; rfl)))
          clear hp2 hq
          go_wp2_with fail
          go_quiet (fail)
          go_wp2_with fail
          first | go_end0 | refine bodyPost_ret (results_none rfl _ _ _) rfl ?_
          exact ⟨rfl, HE.out _⟩
      · have hb2 : decide (0 < lf) = false := by simpa using hb
        have HN : Hid (d.next x = { d with ph := 3, active := false }) := by
          unfold Nd.next Hid; simp only [HD.out]
          rw [if_neg (by simp [HX.out]), if_neg (by rw [← HLF.out]; exact fun q => hb q.2.1)]
        go_enter Try.func50, Try.ntmps50
        go_wp2_with fail
        refine (HC.out w (Below.refl _ _)).mono ?_
        rintro e w2 ⟨rfl, hp2⟩
        have hq := HQ.out w2 hp2
        unfold Nd.obj NObj at hq
        rw [← HACT.out, ← HLF.out, ← HSN.out] at hq
        have c0 := cell_of hq (i := 0) rfl; have c1 := cell_of hq (i := 1) rfl; have c2 := cell_of hq (i := 2) rfl; have c7 := cell_of hq (i := 7) rfl; have c9 := cell_of hq (i := 9) rfl
        have f9 := free_of hq 9; have f0 := free_of hq 0
        have HE : Hid (∀ k, StN P q ((d.next x).obj (.slice so sl sc)) (((w2.drewN k).setCell ⟨q, 0, none⟩ (.bool false)).setCell ⟨q, 9, none⟩ (.func (.func 60) #[] #[]))) := hide (fun k => (((StN.of hp2 hq (below_drN w2 k)).more rfl).more (by rw [HN.out]; unfold Nd.obj NObj; simp only [← HACT.out, ← HLF.out, ← HSN.out, nxF]; rfl)))
        clear hp2 hq
        go_wp2_with fail
        go_quiet (fail)
        go_wp2_with fail
        first | go_end0 | refine bodyPost_ret (results_none rfl _ _ _) rfl ?_
        exact ⟨rfl, HE.out _⟩
  · have hx1 : (x != 0) = true := by simp [hx]
    have HN : Hid (d.next x = { d with ph := 0 }) := by
      unfold Nd.next Hid; simp only [HD.out]
      rw [if_pos hx]
    go_enter Try.func50, Try.ntmps50
    go_wp2_with fail
    refine (HC.out w (Below.refl _ _)).mono ?_
    rintro e w2 ⟨rfl, hp2⟩
    have hq := HQ.out w2 hp2
    unfold Nd.obj NObj at hq
    rw [← HACT.out, ← HLF.out, ← HSN.out] at hq
    have c0 := cell_of hq (i := 0) rfl; have c1 := cell_of hq (i := 1) rfl; have c2 := cell_of hq (i := 2) rfl; have c7 := cell_of hq (i := 7) rfl; have c9 := cell_of hq (i := 9) rfl
    have f9 := free_of hq 9; have f0 := free_of hq 0
    have HE : Hid (StN P q ((d.next x).obj (.slice so sl sc)) (w2.setCell ⟨q, 9, none⟩ .nilFunc)) := hide ((StN.of hp2 hq (Below.refl _ _)).more (by rw [HN.out]; unfold Nd.obj NObj; simp only [← HACT.out, ← HLF.out, ← HSN.out, nxF]; rfl))
    clear hp2 hq
    go_wp2_with fail
    first | go_end0 | refine bodyPost_ret (results_none rfl _ _ _) rfl ?_
    exact ⟨rfl, HE.out⟩

set_option maxRecDepth 100000 in
set_option maxHeartbeats 4000000 in
theorem ph3N (hwh : d.who < 64) (h0 : w.heap[q]? = some (d.obj sv)) (hd : d.ph = 3)
    (HA : ∀ X, Below w.heap.size w X → Calls Try.prog 58 #[.pointer (some ⟨p, 0, none⟩), .int .i64 (4 + (d.who : Int))] X fun e w2 => e = .returned (.int .u64 x) ∧ P w2) (hP : ∀ w2, P w2 → w2.heap[q]? = some (d.obj sv)) :
    Calls Try.prog 60 #[.pointer (some ⟨q, 0, none⟩), .pointer (some ⟨p, 0, none⟩)] w fun e w' => e = .returned (.tuple #[]) ∧ StN P q ((d.next x).obj sv) w' := by
  have HQ := hide hP
  have HC := hide HA
  have HD := hide hd
  clear hP HA
  have HW := hide hwh
  obtain ⟨y, hy⟩ : ∃ y, y = d.who := ⟨_, rfl⟩
  have HY := hide hy
  rw [← hy] at HC
  have hw1 : IntKind.i64.wrap (4 + (y : Int)) = 4 + (y : Int) := IntWalk.i64_in _ (by omega)
  have hq0 := h0
  unfold Nd.obj NObj at hq0
  have b5 := cell_of hq0 (i := 5) rfl
  rw [← hy] at b5
  clear hy hd hwh h0 hq0
  by_cases hx : x = 0
  · have HN : Hid (d.next x = { d with ph := 5, m := x }) := by
      unfold Nd.next Hid; simp only [HD.out]
      rw [if_pos hx]
    have hx1 : (x == 0) = true := by simp [hx]
    go_enter Try.func60, Try.ntmps60
    go_wp2_with fail
    refine (HC.out w (Below.refl _ _)).mono ?_
    rintro e w2 ⟨rfl, hp2⟩
    have hq := HQ.out w2 hp2
    unfold Nd.obj NObj at hq
    have c6 := cell_of hq (i := 10) rfl; have c9 := cell_of hq (i := 9) rfl
    have f9 := free_of hq 9; have f6 := free_of hq 10
    have HE : Hid (StN P q ((d.next x).obj sv) ((w2.setCell ⟨q, 10, none⟩ (.int .u64 x)).setCell ⟨q, 9, none⟩ (.func (.func 73) #[] #[]))) := hide (((StN.of hp2 hq (Below.refl _ _)).more rfl).more (by rw [HN.out]; unfold Nd.obj NObj; simp only [nxF]; rfl))
    clear hp2 hq hx
    go_wp2_with fail
    first | go_end0 | refine bodyPost_ret (results_none rfl _ _ _) rfl ?_
    exact ⟨rfl, HE.out⟩
  · have HN : Hid (d.next x = { d with ph := 4, m := x }) := by
      unfold Nd.next Hid; simp only [HD.out]
      rw [if_neg hx]
    have hx1 : (x == 0) = false := by simp [hx]
    go_enter Try.func60, Try.ntmps60
    go_wp2_with fail
    refine (HC.out w (Below.refl _ _)).mono ?_
    rintro e w2 ⟨rfl, hp2⟩
    have hq := HQ.out w2 hp2
    unfold Nd.obj NObj at hq
    have c6 := cell_of hq (i := 10) rfl; have c9 := cell_of hq (i := 9) rfl
    have f9 := free_of hq 9; have f6 := free_of hq 10
    have HE : Hid (StN P q ((d.next x).obj sv) ((w2.setCell ⟨q, 10, none⟩ (.int .u64 x)).setCell ⟨q, 9, none⟩ (.func (.func 74) #[] #[]))) := hide (((StN.of hp2 hq (Below.refl _ _)).more rfl).more (by rw [HN.out]; unfold Nd.obj NObj; simp only [nxF]; rfl))
    clear hp2 hq hx
    go_wp2_with fail
    first | go_end0 | refine bodyPost_ret (results_none rfl _ _ _) rfl ?_
    exact ⟨rfl, HE.out⟩

set_option maxRecDepth 100000 in
set_option maxHeartbeats 4000000 in
theorem ph6N (hd : d.ph = 6)
    (HA : ∀ X, Below w.heap.size w X → Calls Try.prog 58 #[.pointer (some ⟨p, 0, none⟩), .int .i64 2] X fun e w2 => e = .returned (.int .u64 x) ∧ P w2) (hP : ∀ w2, P w2 → w2.heap[q]? = some (d.obj sv)) :
    Calls Try.prog 84 #[.pointer (some ⟨q, 0, none⟩), .pointer (some ⟨p, 0, none⟩)] w fun e w' => e = .returned (.tuple #[]) ∧ StN P q ((d.next x).obj sv) w' := by
  have HQ := hide hP
  have HC := hide HA
  have HD := hide hd
  clear hP HA
  have HN : Hid (d.next x = { d with ph := 7, q := x }) := by
    unfold Nd.next Hid; simp only [HD.out]
  clear hd
  go_enter Try.func84, Try.ntmps84
  go_wp2_with fail
  refine (HC.out w (Below.refl _ _)).mono ?_
  rintro e w2 ⟨rfl, hp2⟩
  have hq := HQ.out w2 hp2
  unfold Nd.obj NObj at hq
  have c6 := cell_of hq (i := 11) rfl; have c9 := cell_of hq (i := 9) rfl
  have f9 := free_of hq 9; have f6 := free_of hq 11
  have HE : Hid (StN P q ((d.next x).obj sv) ((w2.setCell ⟨q, 11, none⟩ (.int .u64 x)).setCell ⟨q, 9, none⟩ (.func (.func 87) #[] #[]))) := hide (((StN.of hp2 hq (Below.refl _ _)).more rfl).more (by rw [HN.out]; unfold Nd.obj NObj; simp only [nxF]; rfl))
  clear hp2 hq
  go_wp2_with fail
  first | go_end0 | refine bodyPost_ret (results_none rfl _ _ _) rfl ?_
  exact ⟨rfl, HE.out⟩

set_option maxRecDepth 100000 in
set_option maxHeartbeats 4000000 in
theorem ph11N (hd : d.ph = 11)
    (HA : ∀ X, Below w.heap.size w X → Calls Try.prog 92 #[.pointer (some ⟨p, 0, none⟩), .int .i64 0, .int .u64 1] X fun e w2 => e = .returned (.tuple #[]) ∧ P w2) (hP : ∀ w2, P w2 → w2.heap[q]? = some (d.obj sv)) :
    Calls Try.prog 90 #[.pointer (some ⟨q, 0, none⟩), .pointer (some ⟨p, 0, none⟩)] w fun e w' => e = .returned (.tuple #[]) ∧ StN P q ((d.next x).obj sv) w' := by
  have HQ := hide hP
  have HC := hide HA
  have HD := hide hd
  clear hP HA
  have HN : Hid (d.next x = { d with ph := 0 }) := by
    unfold Nd.next Hid; simp only [HD.out]
  clear hd
  go_enter Try.func90, Try.ntmps90
  go_wp2_with fail
  refine (HC.out w (Below.refl _ _)).mono ?_
  rintro e w2 ⟨rfl, hp2⟩
  have hq := HQ.out w2 hp2
  unfold Nd.obj NObj at hq
  have c9 := cell_of hq (i := 9) rfl
  have f9 := free_of hq 9
  have HE : Hid (StN P q ((d.next x).obj sv) (w2.setCell ⟨q, 9, none⟩ .nilFunc)) := hide ((StN.of hp2 hq (Below.refl _ _)).more (by rw [HN.out]; unfold Nd.obj NObj; simp only [nxF]; rfl))
  clear hp2 hq
  go_wp2_with fail
  first | go_end0 | refine bodyPost_ret (results_none rfl _ _ _) rfl ?_
  exact ⟨rfl, HE.out⟩

end
end Go.Proofs.Ytlncjbjdjciphaa
