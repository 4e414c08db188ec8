import Derived.Test.YtlncjbjdjciphaaNq
import Derived.Test.YtlncjbjdjciphaaN2
/- The document's node: each of its steps, whatever the access does to the arena. -/
namespace Go.Proofs.Ytlncjbjdjciphaa
open Go.RowKit Go.Lib
set_option linter.unusedVariables false
set_option linter.unusedSimpArgs false
theorem StN.moreR {P : World → Prop} {q : Nat} {ob' : Obj} {w2 : World} {i : Nat} {u : Value} {cs : Array Value} (h : StN P q (.cells cs 102 (0, 0)) w2) (he : ob' = .cells (cs.setIfInBounds i u) 102 (0, 0)) : StN P q ob' (w2.setCell ⟨q, i, none⟩ u) := by
  obtain ⟨w1, h1, h2, h3⟩ := h
  exact ⟨w1, h1, by rw [heap_set h2, he], h3.setCell (p := ⟨q, i, none⟩) rfl _⟩
theorem set_one (w : World) (q i : Nat) (u : Value) : Chg (fun k => k = q) w (w.setCell ⟨q, i, none⟩ u) := Chg.setCell (S := fun k => k = q) (Chg.refl _ w) (p := ⟨q, i, none⟩) rfl _
section
variable {w : World} {r ra : Nat} {d : Nd} {sv : Value} {x wi : Int} {P : World → Prop}

set_option maxRecDepth 100000 in
set_option maxHeartbeats 4000000 in
theorem rph11 (hd : d.ph = 11) (hwh : d.who < 64) (h0 : w.heap[r]? = some (d.robj sv))
    (HA : ∀ X ob, X.heap[r]? = some ob → Chg (fun k => k = r) w X → Calls Try.prog 44 #[.pointer (some ⟨ra, 0, none⟩), .int .i64 wi, .int .i64 0, .int .u64 1] X fun e w2 => e = .returned (.tuple #[]) ∧ P w2 ∧ w2.heap[r]? = some ob) :
    Calls Try.prog 17 #[.pointer (some ⟨r, 0, none⟩), .pointer (some ⟨ra, 0, none⟩), .int .i64 wi] w fun e w' => e = .returned (.tuple #[]) ∧ StN P r ((d.next x).robj sv) w' := by
  have HC := hide HA
  have HD := hide hd
  have hq : w.heap[r]? = some (.cells #[.int .i64 d.who, .int .i64 d.n, sv, .int .i64 d.burst, .int .i64 11, .bool d.active, .int .i64 d.left, .int .i64 d.sent, .int .i64 d.bal, .bool d.black, .int .u64 d.m, .int .u64 d.q, .int .u64 d.k] 102 (0, 0)) := by
    unfold Nd.robj at h0; rw [hd] at h0; exact h0
  have HQ := hide hq
  have b0 := cell_of hq (i := 0) rfl; have b4 := cell_of hq (i := 4) rfl
  have hw0 : IntKind.i64.wrap (4 + (d.who : Int)) = 4 + (d.who : Int) := IntWalk.i64_in _ (by omega)
  clear HA h0 hd
  have HN : Hid (d.next x = { d with ph := 0 }) := by
    unfold Nd.next Hid; simp only [HD.out]
  clear hq
  go_enter Try.func17, Try.ntmps17
  go_wp2_with fail
  refine (HC.out w _ HQ.out (Chg.refl _ _)).mono ?_
  rintro e w2 ⟨rfl, hp2, hq2⟩
  have c4 := cell_of hq2 (i := 4) rfl; have f4 := free_of hq2 4
  have HE : Hid (StN P r ((d.next x).robj sv) (w2.setCell ⟨r, 4, none⟩ (.int .i64 0))) := hide ((StN.of hp2 hq2 (Below.refl _ _)).moreR (by rw [HN.out]; unfold Nd.robj; first | rfl | (simp only [HD.out]; rfl) | simp))
  clear hp2 hq2 b0 b4
  go_wp2_with fail
  first | go_end0 | refine bodyPost_ret (results_none rfl _ _ _) rfl ?_
  exact ⟨rfl, HE.out⟩

set_option maxRecDepth 100000 in
set_option maxHeartbeats 4000000 in
theorem rph3 (hd : d.ph = 3) (hwh : d.who < 64) (h0 : w.heap[r]? = some (d.robj sv))
    (HA : ∀ X ob, X.heap[r]? = some ob → Chg (fun k => k = r) w X → Calls Try.prog 39 #[.pointer (some ⟨ra, 0, none⟩), .int .i64 wi, .int .i64 (4 + (d.who : Int))] X fun e w2 => e = .returned (.int .u64 x) ∧ P w2 ∧ w2.heap[r]? = some ob) :
    Calls Try.prog 17 #[.pointer (some ⟨r, 0, none⟩), .pointer (some ⟨ra, 0, none⟩), .int .i64 wi] w fun e w' => e = .returned (.tuple #[]) ∧ StN P r ((d.next x).robj sv) w' := by
  have HC := hide HA
  have HD := hide hd
  have hq : w.heap[r]? = some (.cells #[.int .i64 d.who, .int .i64 d.n, sv, .int .i64 d.burst, .int .i64 3, .bool d.active, .int .i64 d.left, .int .i64 d.sent, .int .i64 d.bal, .bool d.black, .int .u64 d.m, .int .u64 d.q, .int .u64 d.k] 102 (0, 0)) := by
    unfold Nd.robj at h0; rw [hd] at h0; exact h0
  have HQ := hide hq
  have b0 := cell_of hq (i := 0) rfl; have b4 := cell_of hq (i := 4) rfl
  have hw0 : IntKind.i64.wrap (4 + (d.who : Int)) = 4 + (d.who : Int) := IntWalk.i64_in _ (by omega)
  clear HA h0 hd
  by_cases hx : x = 0
  · have hx1 : (x == 0) = true := by simp [hx]
    have HN : Hid (d.next x = { d with ph := 5, m := x }) := by
      unfold Nd.next Hid; simp only [HD.out]
      rw [if_pos hx]
    clear hq
    go_enter Try.func17, Try.ntmps17
    go_wp2_with fail
    refine (HC.out w _ HQ.out (Chg.refl _ _)).mono ?_
    rintro e w2 ⟨rfl, hp2, hq2⟩
    have c4 := cell_of hq2 (i := 4) rfl; have f4 := free_of hq2 4
    have c10 := cell_of hq2 (i := 10) rfl; have f10 := free_of hq2 10
    have HE : Hid (StN P r ((d.next x).robj sv) (((w2.setCell ⟨r, 10, none⟩ (.int .u64 x)).setCell ⟨r, 4, none⟩ (.int .i64 4)).setCell ⟨r, 4, none⟩ (.int .i64 5))) := hide ((((StN.of hp2 hq2 (Below.refl _ _)).moreR rfl).moreR rfl).moreR (by rw [HN.out]; unfold Nd.robj; first | rfl | (simp only [HD.out]; rfl) | simp))
    clear hp2 hq2 b0 b4 hx
    go_wp2_with fail
    first | go_end0 | refine bodyPost_ret (results_none rfl _ _ _) rfl ?_
    exact ⟨rfl, HE.out⟩
  · have hx1 : (x == 0) = false := by simp [hx]
    have HN : Hid (d.next x = { d with ph := 4, m := x }) := by
      unfold Nd.next Hid; simp only [HD.out]
      rw [if_neg hx]
    clear hq
    go_enter Try.func17, Try.ntmps17
    go_wp2_with fail
    refine (HC.out w _ HQ.out (Chg.refl _ _)).mono ?_
    rintro e w2 ⟨rfl, hp2, hq2⟩
    have c4 := cell_of hq2 (i := 4) rfl; have f4 := free_of hq2 4
    have c10 := cell_of hq2 (i := 10) rfl; have f10 := free_of hq2 10
    have HE : Hid (StN P r ((d.next x).robj sv) ((w2.setCell ⟨r, 10, none⟩ (.int .u64 x)).setCell ⟨r, 4, none⟩ (.int .i64 4))) := hide (((StN.of hp2 hq2 (Below.refl _ _)).moreR rfl).moreR (by rw [HN.out]; unfold Nd.robj; first | rfl | (simp only [HD.out]; rfl) | simp))
    clear hp2 hq2 b0 b4 hx
    go_wp2_with fail
    first | go_end0 | refine bodyPost_ret (results_none rfl _ _ _) rfl ?_
    exact ⟨rfl, HE.out⟩

set_option maxRecDepth 100000 in
set_option maxHeartbeats 4000000 in
theorem rph6 (hd : d.ph = 6) (hwh : d.who < 64) (h0 : w.heap[r]? = some (d.robj sv))
    (HA : ∀ X ob, X.heap[r]? = some ob → Chg (fun k => k = r) w X → Calls Try.prog 39 #[.pointer (some ⟨ra, 0, none⟩), .int .i64 wi, .int .i64 2] X fun e w2 => e = .returned (.int .u64 x) ∧ P w2 ∧ w2.heap[r]? = some ob) :
    Calls Try.prog 17 #[.pointer (some ⟨r, 0, none⟩), .pointer (some ⟨ra, 0, none⟩), .int .i64 wi] w fun e w' => e = .returned (.tuple #[]) ∧ StN P r ((d.next x).robj sv) w' := by
  have HC := hide HA
  have HD := hide hd
  have hq : w.heap[r]? = some (.cells #[.int .i64 d.who, .int .i64 d.n, sv, .int .i64 d.burst, .int .i64 6, .bool d.active, .int .i64 d.left, .int .i64 d.sent, .int .i64 d.bal, .bool d.black, .int .u64 d.m, .int .u64 d.q, .int .u64 d.k] 102 (0, 0)) := by
    unfold Nd.robj at h0; rw [hd] at h0; exact h0
  have HQ := hide hq
  have b0 := cell_of hq (i := 0) rfl; have b4 := cell_of hq (i := 4) rfl
  have hw0 : IntKind.i64.wrap (4 + (d.who : Int)) = 4 + (d.who : Int) := IntWalk.i64_in _ (by omega)
  clear HA h0 hd
  have HN : Hid (d.next x = { d with ph := 7, q := x }) := by
    unfold Nd.next Hid; simp only [HD.out]
  clear hq
  go_enter Try.func17, Try.ntmps17
  go_wp2_with fail
  refine (HC.out w _ HQ.out (Chg.refl _ _)).mono ?_
  rintro e w2 ⟨rfl, hp2, hq2⟩
  have c4 := cell_of hq2 (i := 4) rfl; have f4 := free_of hq2 4
  have c11 := cell_of hq2 (i := 11) rfl; have f11 := free_of hq2 11
  have HE : Hid (StN P r ((d.next x).robj sv) ((w2.setCell ⟨r, 11, none⟩ (.int .u64 x)).setCell ⟨r, 4, none⟩ (.int .i64 7))) := hide (((StN.of hp2 hq2 (Below.refl _ _)).moreR rfl).moreR (by rw [HN.out]; unfold Nd.robj; first | rfl | (simp only [HD.out]; rfl) | simp))
  clear hp2 hq2 b0 b4
  go_wp2_with fail
  first | go_end0 | refine bodyPost_ret (results_none rfl _ _ _) rfl ?_
  exact ⟨rfl, HE.out⟩

end
end Go.Proofs.Ytlncjbjdjciphaa

/- The document's node: phase 1. -/
namespace Go.Proofs.Ytlncjbjdjciphaa
open Go.RowKit Go.Lib
set_option linter.unusedVariables false
set_option linter.unusedSimpArgs false
section
variable {w : World} {r ra : Nat} {d : Nd} {sv : Value} {x wi : Int} {P : World → Prop}

set_option maxRecDepth 100000 in
set_option maxHeartbeats 4000000 in
theorem rph1 (so : Option Addr) (sl sc : Nat) (hsv : sv = .slice so sl sc) (hsl : sl = d.sends.length) (hl : sl ≤ 10000) (hs : 0 ≤ d.sent) (hs2 : d.sent ≤ 10000) (hd : d.ph = 1) (hwh : d.who < 64) (h0 : w.heap[r]? = some (d.robj sv))
    (HA : ∀ X ob, X.heap[r]? = some ob → Chg (fun k => k = r) w X → Calls Try.prog 39 #[.pointer (some ⟨ra, 0, none⟩), .int .i64 wi, .int .i64 0] X fun e w2 => e = .returned (.int .u64 x) ∧ P w2 ∧ w2.heap[r]? = some ob) :
    Calls Try.prog 17 #[.pointer (some ⟨r, 0, none⟩), .pointer (some ⟨ra, 0, none⟩), .int .i64 wi] w fun e w' => e = .returned (.tuple #[]) ∧ StN P r ((d.next x).robj sv) w' := by
  have HC := hide HA
  have HD := hide hd
  have hq : w.heap[r]? = some (.cells #[.int .i64 d.who, .int .i64 d.n, sv, .int .i64 d.burst, .int .i64 1, .bool d.active, .int .i64 d.left, .int .i64 d.sent, .int .i64 d.bal, .bool d.black, .int .u64 d.m, .int .u64 d.q, .int .u64 d.k] 102 (0, 0)) := by
    unfold Nd.robj at h0; rw [hd] at h0; exact h0
  have HQ := hide hq
  have b0 := cell_of hq (i := 0) rfl; have b4 := cell_of hq (i := 4) rfl
  have hw0 : IntKind.i64.wrap (4 + (d.who : Int)) = 4 + (d.who : Int) := IntWalk.i64_in _ (by omega)
  clear HA h0 hd
  subst hsv
  have HSL := hide hsl
  obtain ⟨act, hact⟩ : ∃ act, act = d.active := ⟨_, rfl⟩
  obtain ⟨lf, hlf⟩ : ∃ lf, lf = d.left := ⟨_, rfl⟩
  obtain ⟨sn, hsn⟩ : ∃ sn, sn = d.sent := ⟨_, rfl⟩
  have HACT := hide hact; have HLF := hide hlf; have HSN := hide hsn
  rw [← hsn] at hs hs2
  rw [← hact, ← hlf, ← hsn] at hq
  have g4 := free_of hq 4
  have HQ1 : Hid ((w.setCell ⟨r, 4, none⟩ (.int .i64 3)).heap[r]? = some (.cells #[.int .i64 d.who, .int .i64 d.n, .slice so sl sc, .int .i64 d.burst, .int .i64 3, .bool act, .int .i64 lf, .int .i64 sn, .int .i64 d.bal, .bool d.black, .int .u64 d.m, .int .u64 d.q, .int .u64 d.k] 102 (0, 0))) := hide (heap_set (u := .int .i64 3) hq)
  clear hact hlf hsn hsl HQ hq
  by_cases hx : x = 0
  · have hx1 : (x != 0) = false := by simp [hx]
    have HX := hide hx
    clear hx
    cases act with
    | false =>
      have HN : Hid (d.next x = { d with ph := 3, active := false }) := by
        unfold Nd.next Hid; simp only [HD.out]
        rw [if_neg (by simp [HX.out]), if_neg (by rw [← HACT.out]; simp)]
      go_enter Try.func17, Try.ntmps17
      go_wp2_with fail
      refine (HC.out _ _ HQ1.out (set_one w r 4 _)).mono ?_
      rintro e w2 ⟨rfl, hp2, hq2⟩
      have c4 := cell_of hq2 (i := 4) rfl; have f4 := free_of hq2 4
      have c5 := cell_of hq2 (i := 5) rfl; have f5 := free_of hq2 5
      have c6 := cell_of hq2 (i := 6) rfl; have f6 := free_of hq2 6
      have c7 := cell_of hq2 (i := 7) rfl; have f7 := free_of hq2 7
      have c2 := cell_of hq2 (i := 2) rfl; have f2 := free_of hq2 2
      have HE : Hid (∀ k, StN P r ((d.next x).robj (.slice so sl sc)) ((w2.drewN k).setCell ⟨r, 5, none⟩ (.bool false))) := hide (fun k => ((StN.of hp2 hq2 (below_drN w2 k)).moreR (by rw [HN.out]; unfold Nd.robj; first | rfl | (simp only [← HACT.out, ← HLF.out, ← HSN.out, HD.out]; rfl) | simp)))
      clear hp2 hq2 b0 b4 g4
      go_wp2_with fail
      go_quiet (fail)
      go_wp2_with fail
      first | go_end0 | refine bodyPost_ret (results_none rfl _ _ _) rfl ?_
      exact ⟨rfl, HE.out _⟩
    | true =>
      by_cases hb : 0 < lf
      · by_cases hc : sn < (sl : Int)
        · have HN : Hid (d.next x = { d with ph := 2 }) := by
            unfold Nd.next Hid; simp only [HD.out]
            rw [if_neg (by simp [HX.out]), if_pos ⟨HACT.out.symm, by rw [← HLF.out]; exact hb, by rw [← HSN.out, ← HSL.out]; exact hc⟩]
          go_enter Try.func17, Try.ntmps17
          go_wp2_with fail
          refine (HC.out _ _ HQ1.out (set_one w r 4 _)).mono ?_
          rintro e w2 ⟨rfl, hp2, hq2⟩
          have c4 := cell_of hq2 (i := 4) rfl; have f4 := free_of hq2 4
          have c5 := cell_of hq2 (i := 5) rfl; have f5 := free_of hq2 5
          have c6 := cell_of hq2 (i := 6) rfl; have f6 := free_of hq2 6
          have c7 := cell_of hq2 (i := 7) rfl; have f7 := free_of hq2 7
          have c2 := cell_of hq2 (i := 2) rfl; have f2 := free_of hq2 2
          have HE : Hid (∀ k, StN P r ((d.next x).robj (.slice so sl sc)) ((w2.drewN k).setCell ⟨r, 4, none⟩ (.int .i64 2))) := hide (fun k => ((StN.of hp2 hq2 (below_drN w2 k)).moreR (by rw [HN.out]; unfold Nd.robj; first | rfl | (simp only [← HACT.out, ← HLF.out, ← HSN.out, HD.out]; rfl) | simp)))
          clear hp2 hq2 b0 b4 g4
          go_wp2_with fail
          go_quiet (fail)
          go_wp2_with fail
          first | go_end0 | refine bodyPost_ret (results_none rfl _ _ _) rfl ?_
          exact ⟨rfl, HE.out _⟩
        · have hc2 : decide (sn < (sl : Int)) = false := by simpa using hc
          have HN : Hid (d.next x = { d with ph := 3, active := false }) := by
            unfold Nd.next Hid; simp only [HD.out]
            rw [if_neg (by simp [HX.out]), if_neg (by rw [← HSN.out, ← HSL.out]; exact fun q => hc q.2.2)]
          go_enter Try.func17, Try.ntmps17
          go_wp2_with fail
          refine (HC.out _ _ HQ1.out (set_one w r 4 _)).mono ?_
          rintro e w2 ⟨rfl, hp2, hq2⟩
          have c4 := cell_of hq2 (i := 4) rfl; have f4 := free_of hq2 4
          have c5 := cell_of hq2 (i := 5) rfl; have f5 := free_of hq2 5
          have c6 := cell_of hq2 (i := 6) rfl; have f6 := free_of hq2 6
          have c7 := cell_of hq2 (i := 7) rfl; have f7 := free_of hq2 7
          have c2 := cell_of hq2 (i := 2) rfl; have f2 := free_of hq2 2
          have HE : Hid (∀ k, StN P r ((d.next x).robj (.slice so sl sc)) ((w2.drewN k).setCell ⟨r, 5, none⟩ (.bool false))) := hide (fun k => ((StN.of hp2 hq2 (below_drN w2 k)).moreR (by rw [HN.out]; unfold Nd.robj; first | rfl | (simp only [← HACT.out, ← HLF.out, ← HSN.out, HD.out]; rfl) | simp)))
          clear hp2 hq2 b0 b4 g4
          go_wp2_with fail
          go_quiet (fail)
          go_wp2_with fail
          first | go_end0 | refine bodyPost_ret (results_none rfl _ _ _) rfl ?_
          exact ⟨rfl, HE.out _⟩
      · have hb2 : decide (0 < lf) = false := by simpa using hb
        have HN : Hid (d.next x = { d with ph := 3, active := false }) := by
          unfold Nd.next Hid; simp only [HD.out]
          rw [if_neg (by simp [HX.out]), if_neg (by rw [← HLF.out]; exact fun q => hb q.2.1)]
        go_enter Try.func17, Try.ntmps17
        go_wp2_with fail
        refine (HC.out _ _ HQ1.out (set_one w r 4 _)).mono ?_
        rintro e w2 ⟨rfl, hp2, hq2⟩
        have c4 := cell_of hq2 (i := 4) rfl; have f4 := free_of hq2 4
        have c5 := cell_of hq2 (i := 5) rfl; have f5 := free_of hq2 5
        have c6 := cell_of hq2 (i := 6) rfl; have f6 := free_of hq2 6
        have c7 := cell_of hq2 (i := 7) rfl; have f7 := free_of hq2 7
        have c2 := cell_of hq2 (i := 2) rfl; have f2 := free_of hq2 2
        have HE : Hid (∀ k, StN P r ((d.next x).robj (.slice so sl sc)) ((w2.drewN k).setCell ⟨r, 5, none⟩ (.bool false))) := hide (fun k => ((StN.of hp2 hq2 (below_drN w2 k)).moreR (by rw [HN.out]; unfold Nd.robj; first | rfl | (simp only [← HACT.out, ← HLF.out, ← HSN.out, HD.out]; rfl) | simp)))
        clear hp2 hq2 b0 b4 g4
        go_wp2_with fail
        go_quiet (fail)
        go_wp2_with fail
        first | go_end0 | refine bodyPost_ret (results_none rfl _ _ _) rfl ?_
        exact ⟨rfl, HE.out _⟩
  · have hx1 : (x != 0) = true := by simp [hx]
    have HN : Hid (d.next x = { d with ph := 0 }) := by
      unfold Nd.next Hid; simp only [HD.out]
      rw [if_pos hx]
    go_enter Try.func17, Try.ntmps17
    go_wp2_with fail
    refine (HC.out _ _ HQ1.out (set_one w r 4 _)).mono ?_
    rintro e w2 ⟨rfl, hp2, hq2⟩
    have c4 := cell_of hq2 (i := 4) rfl; have f4 := free_of hq2 4
    have c5 := cell_of hq2 (i := 5) rfl; have f5 := free_of hq2 5
    have c6 := cell_of hq2 (i := 6) rfl; have f6 := free_of hq2 6
    have c7 := cell_of hq2 (i := 7) rfl; have f7 := free_of hq2 7
    have c2 := cell_of hq2 (i := 2) rfl; have f2 := free_of hq2 2
    have HE : Hid (StN P r ((d.next x).robj (.slice so sl sc)) (w2.setCell ⟨r, 4, none⟩ (.int .i64 0))) := hide ((StN.of hp2 hq2 (Below.refl _ _)).moreR (by rw [HN.out]; unfold Nd.robj; first | rfl | (simp only [← HACT.out, ← HLF.out, ← HSN.out, HD.out]; rfl) | simp))
    clear hp2 hq2 b0 b4 g4
    go_wp2_with fail
    first | go_end0 | refine bodyPost_ret (results_none rfl _ _ _) rfl ?_
    exact ⟨rfl, HE.out⟩

end
end Go.Proofs.Ytlncjbjdjciphaa

/- The document's node: phases 5, 8, 9, 10. -/
namespace Go.Proofs.Ytlncjbjdjciphaa
open Go.RowKit Go.Lib
set_option linter.unusedVariables false
set_option linter.unusedSimpArgs false
section
variable {w : World} {r ra : Nat} {d : Nd} {sv : Value} {x wi : Int} {P : World → Prop}

set_option maxRecDepth 100000 in
set_option maxHeartbeats 4000000 in
theorem rph5 (hd : d.ph = 5) (hwh : d.who < 64) (h0 : w.heap[r]? = some (d.robj sv))
    (HA : ∀ X ob, X.heap[r]? = some ob → Chg (fun k => k = r) w X → Calls Try.prog 39 #[.pointer (some ⟨ra, 0, none⟩), .int .i64 wi, .int .i64 1] X fun e w2 => e = .returned (.int .u64 x) ∧ P w2 ∧ w2.heap[r]? = some ob) :
    Calls Try.prog 17 #[.pointer (some ⟨r, 0, none⟩), .pointer (some ⟨ra, 0, none⟩), .int .i64 wi] w fun e w' => e = .returned (.tuple #[]) ∧ StN P r ((d.next x).robj sv) w' := by
  have HC := hide HA
  have HD := hide hd
  have hq : w.heap[r]? = some (.cells #[.int .i64 d.who, .int .i64 d.n, sv, .int .i64 d.burst, .int .i64 5, .bool d.active, .int .i64 d.left, .int .i64 d.sent, .int .i64 d.bal, .bool d.black, .int .u64 d.m, .int .u64 d.q, .int .u64 d.k] 102 (0, 0)) := by
    unfold Nd.robj at h0; rw [hd] at h0; exact h0
  have HQ := hide hq
  have b0 := cell_of hq (i := 0) rfl; have b4 := cell_of hq (i := 4) rfl
  have hw0 : IntKind.i64.wrap (4 + (d.who : Int)) = 4 + (d.who : Int) := IntWalk.i64_in _ (by omega)
  clear HA h0 hd
  obtain ⟨yw, hyw⟩ : ∃ yw, yw = d.who := ⟨_, rfl⟩
  have HYW := hide hyw
  rw [← hyw] at hq b0 hw0 hwh
  have hw2 : IntKind.u64.wrap (yw : Int) = (yw : Int) := wr_id (by unfold W64; omega)
  have b0' := b0
  have g4 := free_of hq 4
  have HQ1 : Hid ((w.setCell ⟨r, 4, none⟩ (.int .i64 1)).heap[r]? = some (.cells #[.int .i64 (yw : Int), .int .i64 d.n, sv, .int .i64 d.burst, .int .i64 1, .bool d.active, .int .i64 d.left, .int .i64 d.sent, .int .i64 d.bal, .bool d.black, .int .u64 d.m, .int .u64 d.q, .int .u64 d.k] 102 (0, 0))) := hide (heap_set (u := .int .i64 1) hq)
  clear HQ hq hyw
  go_enter Try.func17, Try.ntmps17
  go_upto_region 29 with fail
  have y0 := cell_of HQ1.out (i := 0) rfl
  refine wp_region_noPanic ?_
  go_region_held3 (fun x => x.cell? ⟨r, 0, none⟩ = some (.int .i64 (yw : Int))) (first | with_reducible exact z0 | go_keep)
    (first
      | (go_at_call 39; refine (HC.out (w.setCell ⟨r, 4, none⟩ (.int .i64 1)).drew _ HQ1.out (set_one w r 4 _).drew).mono ?_; rintro e w2 ⟨rfl, hp2, hq2⟩; have HP2 := hide hp2; have HQ2 := hide hq2; have z0 : w2.cell? ⟨r, 0, none⟩ = some (.int .i64 (yw : Int)) := cell_of hq2 (i := 0) rfl; clear hp2 hq2)
      | fail)
  rename_i hHeld
  clear hHeld hw2 b0 b0' y0 g4 b4
  refine NoPanic.normal ?_
  by_cases hx : x = (yw : Int)
  · have hx1 : (x == (yw : Int)) = true := by simp [hx]
    have HN : Hid (d.next x = { d with ph := 6 }) := by
      unfold Nd.next Hid; simp only [HD.out]
      rw [if_pos (by rw [← HYW.out]; exact hx)]
    have hp2 := HP2.out; have hq2 := HQ2.out
    clear hx
    have c4 := cell_of hq2 (i := 4) rfl; have f4 := free_of hq2 4
    have HE : Hid (StN P r ((d.next x).robj sv) (w2.setCell ⟨r, 4, none⟩ (.int .i64 6))) := hide ((StN.of hp2 hq2 (Below.refl _ _)).moreR (by rw [HN.out]; unfold Nd.robj; first | rfl | (rw [← HYW.out]; rfl) | simp))
    clear hp2 hq2
    first | rw [hx1] | skip
    go_wp2_with fail
    first | go_end0 | refine bodyPost_ret (results_none rfl _ _ _) rfl ?_
    exact ⟨rfl, HE.out⟩
  · have hx1 : (x == (yw : Int)) = false := by simp [hx]
    have HN : Hid (d.next x = { d with ph := 1 }) := by
      unfold Nd.next Hid; simp only [HD.out]
      rw [if_neg (by rw [← HYW.out]; exact hx)]
    have hp2 := HP2.out; have hq2 := HQ2.out
    clear hx
    have c4 := cell_of hq2 (i := 4) rfl; have f4 := free_of hq2 4
    have HE : Hid (StN P r ((d.next x).robj sv) w2) := hide (by rw [HN.out]; exact StN.of hp2 (by rw [hq2]; unfold Nd.robj; rw [HYW.out]; rfl) (Below.refl _ _))
    clear hp2 hq2
    first | rw [hx1] | skip
    go_wp2_with fail
    first | go_end0 | refine bodyPost_ret (results_none rfl _ _ _) rfl ?_
    exact ⟨rfl, HE.out⟩

set_option maxRecDepth 100000 in
set_option maxHeartbeats 4000000 in
theorem rph8 (hd : d.ph = 8) (hwh : d.who < 64) (h0 : w.heap[r]? = some (d.robj sv))
    (HA : ∀ X ob, X.heap[r]? = some ob → Chg (fun k => k = r) w X → Calls Try.prog 44 #[.pointer (some ⟨ra, 0, none⟩), .int .i64 wi, .int .i64 2, .int .u64 d.put8] X fun e w2 => e = .returned (.tuple #[]) ∧ P w2 ∧ w2.heap[r]? = some ob) :
    Calls Try.prog 17 #[.pointer (some ⟨r, 0, none⟩), .pointer (some ⟨ra, 0, none⟩), .int .i64 wi] w fun e w' => e = .returned (.tuple #[]) ∧ StN P r ((d.next x).robj sv) w' := by
  have HC := hide HA
  have HD := hide hd
  have hq : w.heap[r]? = some (.cells #[.int .i64 d.who, .int .i64 d.n, sv, .int .i64 d.burst, .int .i64 8, .bool d.active, .int .i64 d.left, .int .i64 d.sent, .int .i64 d.bal, .bool d.black, .int .u64 d.m, .int .u64 d.q, .int .u64 d.k] 102 (0, 0)) := by
    unfold Nd.robj at h0; rw [hd] at h0; exact h0
  have HQ := hide hq
  have b0 := cell_of hq (i := 0) rfl; have b4 := cell_of hq (i := 4) rfl
  have hw0 : IntKind.i64.wrap (4 + (d.who : Int)) = 4 + (d.who : Int) := IntWalk.i64_in _ (by omega)
  clear HA h0 hd
  obtain ⟨yw, hyw⟩ : ∃ yw, yw = d.who := ⟨_, rfl⟩
  have HYW := hide hyw
  rw [← hyw] at hq b0 hw0 hwh
  have HQ := hide hq
  have b8 := cell_of hq (i := 8) rfl; have b11 := cell_of hq (i := 11) rfl
  have HN : Hid (d.next x = { d with ph := 9 }) := by
    unfold Nd.next Hid; simp only [HD.out]
  clear hq hyw
  by_cases h0 : yw = 0
  · have HV : Hid (d.put8 = 0) := by unfold Nd.put8 Hid; rw [if_pos (by rw [← HYW.out]; exact h0)]
    rw [HV.out] at HC
    have h1 : ((yw : Int) == 0) = true := by simp [h0]
    clear h0
    go_enter Try.func17, Try.ntmps17
    go_wp2_with fail
    go_quiet (fail)
    go_wp2_with fail
    refine (HC.out (w.drewN nq) _ HQ.out (Chg.of_below (below_drN w nq))).mono ?_
    rintro e w2 ⟨rfl, hp2, hq2⟩
    clear b0 b8 b11 b4
    have c4 := cell_of hq2 (i := 4) rfl; have f4 := free_of hq2 4
    have HE : Hid (StN P r ((d.next x).robj sv) (w2.setCell ⟨r, 4, none⟩ (.int .i64 9))) := hide ((StN.of hp2 hq2 (Below.refl _ _)).moreR (by rw [HN.out]; unfold Nd.robj; first | rfl | (rw [← HYW.out]; rfl) | simp))
    clear hp2 hq2
    go_wp2_with fail
    first | go_end0 | refine bodyPost_ret (results_none rfl _ _ _) rfl ?_
    exact ⟨rfl, HE.out⟩
  · have HV : Hid (d.put8 = wr (d.q + wr d.bal)) := by unfold Nd.put8 Hid; rw [if_neg (by rw [← HYW.out]; exact h0)]
    rw [HV.out] at HC
    have h1 : ((yw : Int) == 0) = false := by simp; omega
    clear h0
    unfold wr at HC
    go_enter Try.func17, Try.ntmps17
    go_wp2_with fail
    go_quiet (fail)
    go_wp2_with fail
    refine (HC.out (w.drewN nq) _ HQ.out (Chg.of_below (below_drN w nq))).mono ?_
    rintro e w2 ⟨rfl, hp2, hq2⟩
    clear b0 b8 b11 b4
    have c4 := cell_of hq2 (i := 4) rfl; have f4 := free_of hq2 4
    have HE : Hid (StN P r ((d.next x).robj sv) (w2.setCell ⟨r, 4, none⟩ (.int .i64 9))) := hide ((StN.of hp2 hq2 (Below.refl _ _)).moreR (by rw [HN.out]; unfold Nd.robj; first | rfl | (rw [← HYW.out]; rfl) | simp))
    clear hp2 hq2
    go_wp2_with fail
    first | go_end0 | refine bodyPost_ret (results_none rfl _ _ _) rfl ?_
    exact ⟨rfl, HE.out⟩

set_option maxRecDepth 100000 in
set_option maxHeartbeats 4000000 in
theorem rph9 (hd : d.ph = 9) (hwh : d.who < 64) (h0 : w.heap[r]? = some (d.robj sv))
    (HA : ∀ X ob, X.heap[r]? = some ob → Chg (fun k => k = r) w X → Calls Try.prog 44 #[.pointer (some ⟨ra, 0, none⟩), .int .i64 wi, .int .i64 3, .int .u64 d.put9] X fun e w2 => e = .returned (.tuple #[]) ∧ P w2 ∧ w2.heap[r]? = some ob) :
    Calls Try.prog 17 #[.pointer (some ⟨r, 0, none⟩), .pointer (some ⟨ra, 0, none⟩), .int .i64 wi] w fun e w' => e = .returned (.tuple #[]) ∧ StN P r ((d.next x).robj sv) w' := by
  have HC := hide HA
  have HD := hide hd
  have hq : w.heap[r]? = some (.cells #[.int .i64 d.who, .int .i64 d.n, sv, .int .i64 d.burst, .int .i64 9, .bool d.active, .int .i64 d.left, .int .i64 d.sent, .int .i64 d.bal, .bool d.black, .int .u64 d.m, .int .u64 d.q, .int .u64 d.k] 102 (0, 0)) := by
    unfold Nd.robj at h0; rw [hd] at h0; exact h0
  have HQ := hide hq
  have b0 := cell_of hq (i := 0) rfl; have b4 := cell_of hq (i := 4) rfl
  have hw0 : IntKind.i64.wrap (4 + (d.who : Int)) = 4 + (d.who : Int) := IntWalk.i64_in _ (by omega)
  clear HA h0 hd
  obtain ⟨yw, hyw⟩ : ∃ yw, yw = d.who := ⟨_, rfl⟩
  have HYW := hide hyw
  rw [← hyw] at hq b0 hw0 hwh
  have HQ := hide hq
  obtain ⟨bk, hbk⟩ : ∃ bk, bk = d.black := ⟨_, rfl⟩
  have HBK := hide hbk
  have b9 : w.cell? ⟨r, 9, none⟩ = some (.bool bk) := by rw [hbk]; exact cell_of hq (i := 9) rfl
  have b12 := cell_of hq (i := 12) rfl
  have HN : Hid (d.next x = { d with ph := 10, black := false }) := by
    unfold Nd.next Hid; simp only [HD.out]
  clear hq hyw hbk
  by_cases h0 : yw = 0
  · have HV : Hid (d.put9 = 0) := by unfold Nd.put9 Hid; rw [if_neg (by rw [← HYW.out]; exact fun h => h.1 h0)]
    rw [HV.out] at HC
    have h1 : ((yw : Int) != 0) = false := by simp [h0]
    clear h0
    go_enter Try.func17, Try.ntmps17
    go_wp2_with fail
    refine (HC.out w _ HQ.out (Chg.refl _ _)).mono ?_
    rintro e w2 ⟨rfl, hp2, hq2⟩
    clear b0 b9 b12 b4
    have c4 := cell_of hq2 (i := 4) rfl; have f4 := free_of hq2 4
    have c9 := cell_of hq2 (i := 9) rfl; have f9 := free_of hq2 9
    have HE : Hid (StN P r ((d.next x).robj sv) ((w2.setCell ⟨r, 9, none⟩ (.bool false)).setCell ⟨r, 4, none⟩ (.int .i64 10))) := hide (((StN.of hp2 hq2 (Below.refl _ _)).moreR rfl).moreR (by rw [HN.out]; unfold Nd.robj; first | rfl | (rw [← HYW.out]; rfl) | simp))
    clear hp2 hq2
    go_wp2_with fail
    first | go_end0 | refine bodyPost_ret (results_none rfl _ _ _) rfl ?_
    exact ⟨rfl, HE.out⟩
  · by_cases hk : d.k = 0
    · cases bk with
      | false =>
        have HV : Hid (d.put9 = 0) := by unfold Nd.put9 Hid; rw [if_neg (by rw [← HBK.out]; exact fun h => h.2.elim (fun q => q hk) (fun q => by cases q))]
        rw [HV.out] at HC
        have h1 : ((yw : Int) != 0) = true := by simp; omega
        have h2 : (d.k != 0) = false := by simp [hk]
        clear h0 hk
        go_enter Try.func17, Try.ntmps17
        go_wp2_with fail
        refine (HC.out w _ HQ.out (Chg.refl _ _)).mono ?_
        rintro e w2 ⟨rfl, hp2, hq2⟩
        clear b0 b9 b12 b4
        have c4 := cell_of hq2 (i := 4) rfl; have f4 := free_of hq2 4
        have c9 := cell_of hq2 (i := 9) rfl; have f9 := free_of hq2 9
        have HE : Hid (StN P r ((d.next x).robj sv) ((w2.setCell ⟨r, 9, none⟩ (.bool false)).setCell ⟨r, 4, none⟩ (.int .i64 10))) := hide (((StN.of hp2 hq2 (Below.refl _ _)).moreR rfl).moreR (by rw [HN.out]; unfold Nd.robj; first | rfl | (rw [← HYW.out]; rfl) | simp))
        clear hp2 hq2
        go_wp2_with fail
        first | go_end0 | refine bodyPost_ret (results_none rfl _ _ _) rfl ?_
        exact ⟨rfl, HE.out⟩
      | true =>
        have HV : Hid (d.put9 = 1) := by unfold Nd.put9 Hid; rw [if_pos ⟨by rw [← HYW.out]; exact h0, Or.inr (by rw [← HBK.out])⟩]
        rw [HV.out] at HC
        have h1 : ((yw : Int) != 0) = true := by simp; omega
        have h2 : (d.k != 0) = false := by simp [hk]
        clear h0 hk
        go_enter Try.func17, Try.ntmps17
        go_wp2_with fail
        refine (HC.out w _ HQ.out (Chg.refl _ _)).mono ?_
        rintro e w2 ⟨rfl, hp2, hq2⟩
        clear b0 b9 b12 b4
        have c4 := cell_of hq2 (i := 4) rfl; have f4 := free_of hq2 4
        have c9 := cell_of hq2 (i := 9) rfl; have f9 := free_of hq2 9
        have HE : Hid (StN P r ((d.next x).robj sv) ((w2.setCell ⟨r, 9, none⟩ (.bool false)).setCell ⟨r, 4, none⟩ (.int .i64 10))) := hide (((StN.of hp2 hq2 (Below.refl _ _)).moreR rfl).moreR (by rw [HN.out]; unfold Nd.robj; first | rfl | (rw [← HYW.out]; rfl) | simp))
        clear hp2 hq2
        go_wp2_with fail
        first | go_end0 | refine bodyPost_ret (results_none rfl _ _ _) rfl ?_
        exact ⟨rfl, HE.out⟩
    · have HV : Hid (d.put9 = 1) := by unfold Nd.put9 Hid; rw [if_pos ⟨by rw [← HYW.out]; exact h0, Or.inl hk⟩]
      rw [HV.out] at HC
      have h1 : ((yw : Int) != 0) = true := by simp; omega
      have h2 : (d.k != 0) = true := by simp [hk]
      clear h0 hk
      go_enter Try.func17, Try.ntmps17
      go_wp2_with fail
      refine (HC.out w _ HQ.out (Chg.refl _ _)).mono ?_
      rintro e w2 ⟨rfl, hp2, hq2⟩
      clear b0 b9 b12 b4
      have c4 := cell_of hq2 (i := 4) rfl; have f4 := free_of hq2 4
      have c9 := cell_of hq2 (i := 9) rfl; have f9 := free_of hq2 9
      have HE : Hid (StN P r ((d.next x).robj sv) ((w2.setCell ⟨r, 9, none⟩ (.bool false)).setCell ⟨r, 4, none⟩ (.int .i64 10))) := hide (((StN.of hp2 hq2 (Below.refl _ _)).moreR rfl).moreR (by rw [HN.out]; unfold Nd.robj; first | rfl | (rw [← HYW.out]; rfl) | simp))
      clear hp2 hq2
      go_wp2_with fail
      first | go_end0 | refine bodyPost_ret (results_none rfl _ _ _) rfl ?_
      exact ⟨rfl, HE.out⟩

set_option maxRecDepth 100000 in
set_option maxHeartbeats 4000000 in
theorem rph10 (hn : 1 ≤ d.n ∧ d.n ≤ 64) (hd : d.ph = 10) (hwh : d.who < 64) (h0 : w.heap[r]? = some (d.robj sv))
    (HA : ∀ X ob, X.heap[r]? = some ob → Chg (fun k => k = r) w X → Calls Try.prog 44 #[.pointer (some ⟨ra, 0, none⟩), .int .i64 wi, .int .i64 1, .int .u64 d.put10] X fun e w2 => e = .returned (.tuple #[]) ∧ P w2 ∧ w2.heap[r]? = some ob) :
    Calls Try.prog 17 #[.pointer (some ⟨r, 0, none⟩), .pointer (some ⟨ra, 0, none⟩), .int .i64 wi] w fun e w' => e = .returned (.tuple #[]) ∧ StN P r ((d.next x).robj sv) w' := by
  have HC := hide HA
  have HD := hide hd
  have hq : w.heap[r]? = some (.cells #[.int .i64 d.who, .int .i64 d.n, sv, .int .i64 d.burst, .int .i64 10, .bool d.active, .int .i64 d.left, .int .i64 d.sent, .int .i64 d.bal, .bool d.black, .int .u64 d.m, .int .u64 d.q, .int .u64 d.k] 102 (0, 0)) := by
    unfold Nd.robj at h0; rw [hd] at h0; exact h0
  have HQ := hide hq
  have b0 := cell_of hq (i := 0) rfl; have b4 := cell_of hq (i := 4) rfl
  have hw0 : IntKind.i64.wrap (4 + (d.who : Int)) = 4 + (d.who : Int) := IntWalk.i64_in _ (by omega)
  clear HA h0 hd
  obtain ⟨yw, hyw⟩ : ∃ yw, yw = d.who := ⟨_, rfl⟩
  have HYW := hide hyw
  rw [← hyw] at hq b0 hw0 hwh
  have HQ := hide hq
  have b1 := cell_of hq (i := 1) rfl
  have hwi : IntKind.i64.wrap ((yw : Int) - 1) = (yw : Int) - 1 := IntWalk.i64_in _ (by omega)
  have HN : Hid (d.next x = { d with ph := 1 }) := by
    unfold Nd.next Hid; simp only [HD.out]
  clear hq hyw
  by_cases h0 : yw = 0
  · have HV : Hid (d.put10 = (d.n : Int) - 1) := by unfold Nd.put10 Hid; rw [if_pos (by rw [← HYW.out]; exact h0)]
    rw [HV.out] at HC
    have h1 : ((yw : Int) == 0) = true := by simp [h0]
    have hw3 : IntKind.i64.wrap ((d.n : Int) - 1) = (d.n : Int) - 1 := IntWalk.i64_in _ (by omega)
    have hw4 : IntKind.u64.wrap ((d.n : Int) - 1) = (d.n : Int) - 1 := wr_id (by unfold W64; omega)
    clear h0
    go_enter Try.func17, Try.ntmps17
    go_wp2_with fail
    refine (HC.out w _ HQ.out (Chg.refl _ _)).mono ?_
    rintro e w2 ⟨rfl, hp2, hq2⟩
    clear b0 b1 b4
    have c4 := cell_of hq2 (i := 4) rfl; have f4 := free_of hq2 4
    have HE : Hid (StN P r ((d.next x).robj sv) (w2.setCell ⟨r, 4, none⟩ (.int .i64 1))) := hide ((StN.of hp2 hq2 (Below.refl _ _)).moreR (by rw [HN.out]; unfold Nd.robj; first | rfl | (rw [← HYW.out]; rfl) | simp))
    clear hp2 hq2
    go_wp2_with fail
    first | go_end0 | refine bodyPost_ret (results_none rfl _ _ _) rfl ?_
    exact ⟨rfl, HE.out⟩
  · have HV : Hid (d.put10 = (yw : Int) - 1) := by unfold Nd.put10 Hid; rw [if_neg (by rw [← HYW.out]; exact h0), HYW.out]
    rw [HV.out] at HC
    have h1 : ((yw : Int) == 0) = false := by simp; omega
    have hw3 : IntKind.u64.wrap ((yw : Int) - 1) = (yw : Int) - 1 := wr_id (by unfold W64; omega)
    clear h0
    go_enter Try.func17, Try.ntmps17
    go_wp2_with fail
    refine (HC.out w _ HQ.out (Chg.refl _ _)).mono ?_
    rintro e w2 ⟨rfl, hp2, hq2⟩
    clear b0 b1 b4
    have c4 := cell_of hq2 (i := 4) rfl; have f4 := free_of hq2 4
    have HE : Hid (StN P r ((d.next x).robj sv) (w2.setCell ⟨r, 4, none⟩ (.int .i64 1))) := hide ((StN.of hp2 hq2 (Below.refl _ _)).moreR (by rw [HN.out]; unfold Nd.robj; first | rfl | (rw [← HYW.out]; rfl) | simp))
    clear hp2 hq2
    go_wp2_with fail
    first | go_end0 | refine bodyPost_ret (results_none rfl _ _ _) rfl ?_
    exact ⟨rfl, HE.out⟩

end
end Go.Proofs.Ytlncjbjdjciphaa

/- The document's node: phase 7. -/
namespace Go.Proofs.Ytlncjbjdjciphaa
open Go.RowKit Go.Lib
set_option linter.unusedVariables false
set_option linter.unusedSimpArgs false
section
variable {w : World} {r ra : Nat} {d : Nd} {sv : Value} {x wi : Int} {P : World → Prop}

set_option maxRecDepth 100000 in
theorem quiet_any (W : World) (yw : Nat) (bal : Int) (bl : Bool) (q k : Int) (v1 v2 v3 v4 v5 v6 v7 v10 : Value) (h : W.heap[r]? = some (.cells #[.int .i64 (yw : Int), v1, v2, v3, v4, v5, v6, v7, .int .i64 bal, .bool bl, v10, .int .u64 q, .int .u64 k] 102 (0, 0))) :
    Calls Try.prog 43 #[.pointer (some ⟨r, 0, none⟩)] W fun e w' => e = .returned (.bool (decide (yw = 0 ∧ k = 0 ∧ bl = false ∧ wr (q + wr bal) = 0))) ∧ Below W.heap.size W w' := by
  have b0 := cell_of h (i := 0) rfl; have b12 := cell_of h (i := 12) rfl; have b9 := cell_of h (i := 9) rfl; have b8 := cell_of h (i := 8) rfl; have b11 := cell_of h (i := 11) rfl
  have HB := hide (fun m => below_drN W m)
  have HR := hide (Below.refl W.heap.size W)
  clear h
  by_cases h0 : yw = 0
  · by_cases hk : k = 0
    · cases bl with
      | false =>
        by_cases hs : wr (q + wr bal) = 0
        · rw [show decide (yw = 0 ∧ k = 0 ∧ false = false ∧ wr (q + wr bal) = 0) = true from by simp [h0, hk, hs]]
          have h1 : ((yw : Int) == 0) = true := by simp [h0]
          have h2 : (k == 0) = true := by simp [hk]
          have h3 : (wr (q + wr bal) == 0) = true := by simp [hs]
          clear h0 hk hs
          unfold wr at h3
          go_enter Try.func43, Try.ntmps43
          go_wp2_with fail
          go_quiet (fail)
          go_wp2_with fail
          go_ret
          first | exact ⟨rfl, HB.out _⟩ | (refine ⟨?_, HB.out _⟩; simp_all)
        · rw [show decide (yw = 0 ∧ k = 0 ∧ false = false ∧ wr (q + wr bal) = 0) = false from by simp [hs]]
          have h1 : ((yw : Int) == 0) = true := by simp [h0]
          have h2 : (k == 0) = true := by simp [hk]
          have h3 : (wr (q + wr bal) == 0) = false := by simp [hs]
          clear h0 hk hs
          unfold wr at h3
          go_enter Try.func43, Try.ntmps43
          go_wp2_with fail
          go_quiet (fail)
          go_wp2_with fail
          go_ret
          first | exact ⟨rfl, HB.out _⟩ | (refine ⟨?_, HB.out _⟩; simp_all)
      | true =>
        rw [show decide (yw = 0 ∧ k = 0 ∧ true = false ∧ wr (q + wr bal) = 0) = false from by simp]
        have h1 : ((yw : Int) == 0) = true := by simp [h0]
        have h2 : (k == 0) = true := by simp [hk]
        clear h0 hk
        go_enter Try.func43, Try.ntmps43
        go_wp2_with fail
        go_quiet (fail)
        go_wp2_with fail
        go_ret
        first | exact ⟨rfl, HB.out _⟩ | (refine ⟨?_, HB.out _⟩; simp_all)
    · rw [show decide (yw = 0 ∧ k = 0 ∧ bl = false ∧ wr (q + wr bal) = 0) = false from by simp [hk]]
      have h1 : ((yw : Int) == 0) = true := by simp [h0]
      have h2 : (k == 0) = false := by simp [hk]
      clear h0 hk
      go_enter Try.func43, Try.ntmps43
      go_wp2_with fail
      go_quiet (fail)
      go_wp2_with fail
      go_ret
      first | exact ⟨rfl, HB.out _⟩ | (refine ⟨?_, HB.out _⟩; simp_all)
  · rw [show decide (yw = 0 ∧ k = 0 ∧ bl = false ∧ wr (q + wr bal) = 0) = false from by simp [h0]]
    have h1 : ((yw : Int) == 0) = false := by simp; omega
    clear h0
    go_enter Try.func43, Try.ntmps43
    go_wp2_with fail
    go_quiet (fail)
    go_wp2_with fail
    go_ret
    first | exact ⟨rfl, HB.out _⟩ | (refine ⟨?_, HB.out _⟩; simp_all)

set_option maxRecDepth 100000 in
set_option maxHeartbeats 4000000 in
theorem rph7 (hd : d.ph = 7) (hwh : d.who < 64) (h0 : w.heap[r]? = some (d.robj sv))
    (HA : ∀ X ob, X.heap[r]? = some ob → Chg (fun k => k = r) w X → Calls Try.prog 39 #[.pointer (some ⟨ra, 0, none⟩), .int .i64 wi, .int .i64 3] X fun e w2 => e = .returned (.int .u64 x) ∧ P w2 ∧ w2.heap[r]? = some ob) :
    Calls Try.prog 17 #[.pointer (some ⟨r, 0, none⟩), .pointer (some ⟨ra, 0, none⟩), .int .i64 wi] w fun e w' => e = .returned (.tuple #[]) ∧ StN P r ((d.next x).robj sv) w' := by
  have HC := hide HA
  have HD := hide hd
  have hq : w.heap[r]? = some (.cells #[.int .i64 d.who, .int .i64 d.n, sv, .int .i64 d.burst, .int .i64 7, .bool d.active, .int .i64 d.left, .int .i64 d.sent, .int .i64 d.bal, .bool d.black, .int .u64 d.m, .int .u64 d.q, .int .u64 d.k] 102 (0, 0)) := by
    unfold Nd.robj at h0; rw [hd] at h0; exact h0
  have HQ := hide hq
  have b0 := cell_of hq (i := 0) rfl; have b4 := cell_of hq (i := 4) rfl
  have hw0 : IntKind.i64.wrap (4 + (d.who : Int)) = 4 + (d.who : Int) := IntWalk.i64_in _ (by omega)
  clear HA h0 hd
  by_cases hdn : d.done x = true
  · have HN : Hid (d.next x = { d with ph := 11, k := x }) := by
      unfold Nd.next Hid; simp only [HD.out]
      rw [hdn]; rfl
    go_enter Try.func17, Try.ntmps17
    go_wp2_with fail
    refine (HC.out w _ HQ.out (Chg.refl _ _)).mono ?_
    rintro e w2 ⟨rfl, hp2, hq2⟩
    have c4 := cell_of hq2 (i := 4) rfl; have f4 := free_of hq2 4
    have c12 := cell_of hq2 (i := 12) rfl; have f12 := free_of hq2 12
    have hq3 : ((w2.setCell ⟨r, 12, none⟩ (.int .u64 x)).setCell ⟨r, 4, none⟩ (.int .i64 8)).heap[r]? = some (.cells #[.int .i64 d.who, .int .i64 d.n, sv, .int .i64 d.burst, .int .i64 8, .bool d.active, .int .i64 d.left, .int .i64 d.sent, .int .i64 d.bal, .bool d.black, .int .u64 d.m, .int .u64 d.q, .int .u64 x] 102 (0, 0)) := heap_set (i := 4) (u := .int .i64 8) (heap_set (i := 12) (u := .int .u64 x) hq2)
    have HY := hide (quiet_any ((w2.setCell ⟨r, 12, none⟩ (.int .u64 x)).setCell ⟨r, 4, none⟩ (.int .i64 8)) d.who d.bal d.black d.q x _ _ _ _ _ _ _ _ hq3)
    have HF4 := hide (fun W3 (kb : Below ((w2.setCell ⟨r, 12, none⟩ (.int .u64 x)).setCell ⟨r, 4, none⟩ (.int .i64 8)).heap.size ((w2.setCell ⟨r, 12, none⟩ (.int .u64 x)).setCell ⟨r, 4, none⟩ (.int .i64 8)) W3) => free_of ((kb.block _ (lt_of_heap hq3)).trans hq3) 4)
    have HC4 := hide (fun W3 (kb : Below ((w2.setCell ⟨r, 12, none⟩ (.int .u64 x)).setCell ⟨r, 4, none⟩ (.int .i64 8)).heap.size ((w2.setCell ⟨r, 12, none⟩ (.int .u64 x)).setCell ⟨r, 4, none⟩ (.int .i64 8)) W3) => cell_of ((kb.block _ (lt_of_heap hq3)).trans hq3) (i := 4) rfl)
    have HE : Hid (∀ W3, Below ((w2.setCell ⟨r, 12, none⟩ (.int .u64 x)).setCell ⟨r, 4, none⟩ (.int .i64 8)).heap.size ((w2.setCell ⟨r, 12, none⟩ (.int .u64 x)).setCell ⟨r, 4, none⟩ (.int .i64 8)) W3 → StN P r ((d.next x).robj sv) (W3.setCell ⟨r, 4, none⟩ (.int .i64 11))) := hide (fun W3 kb => by
      have ha := ((StN.of hp2 hq2 (Below.refl _ _)).moreR (i := 12) (u := .int .u64 x) rfl).moreR (i := 4) (u := .int .i64 8) rfl
      obtain ⟨wa, hpa, hqa, hca⟩ := ha
      have hb : StN P r _ W3 := ⟨wa, hpa, (kb.block _ (lt_of_heap hqa)).trans hqa, hca.trans (Chg.of_below kb)⟩
      refine hb.moreR ?_
      rw [HN.out]; unfold Nd.robj; first | rfl | (simp only [HD.out]; rfl) | simp)
    clear hp2 hq2 hq3 b0 b4
    unfold Nd.done at hdn
    rw [hdn] at HY
    go_wp2_with fail
    refine HY.out.mono ?_
    rintro e w3 ⟨rfl, hb3⟩
    have f5 := HF4.out w3 hb3
    have c5 := HC4.out w3 hb3
    have HE3 := hide (HE.out w3 hb3)
    clear hb3 HF4 HC4 HY HE
    go_wp2_with fail
    first | go_end0 | refine bodyPost_ret (results_none rfl _ _ _) rfl ?_
    exact ⟨rfl, HE3.out⟩
  · replace hdn : d.done x = false := by simpa using hdn
    have HN : Hid (d.next x = { d with ph := 8, k := x }) := by
      unfold Nd.next Hid; simp only [HD.out]
      rw [hdn]; rfl
    go_enter Try.func17, Try.ntmps17
    go_wp2_with fail
    refine (HC.out w _ HQ.out (Chg.refl _ _)).mono ?_
    rintro e w2 ⟨rfl, hp2, hq2⟩
    have c4 := cell_of hq2 (i := 4) rfl; have f4 := free_of hq2 4
    have c12 := cell_of hq2 (i := 12) rfl; have f12 := free_of hq2 12
    have hq3 : ((w2.setCell ⟨r, 12, none⟩ (.int .u64 x)).setCell ⟨r, 4, none⟩ (.int .i64 8)).heap[r]? = some (.cells #[.int .i64 d.who, .int .i64 d.n, sv, .int .i64 d.burst, .int .i64 8, .bool d.active, .int .i64 d.left, .int .i64 d.sent, .int .i64 d.bal, .bool d.black, .int .u64 d.m, .int .u64 d.q, .int .u64 x] 102 (0, 0)) := heap_set (i := 4) (u := .int .i64 8) (heap_set (i := 12) (u := .int .u64 x) hq2)
    have HY := hide (quiet_any ((w2.setCell ⟨r, 12, none⟩ (.int .u64 x)).setCell ⟨r, 4, none⟩ (.int .i64 8)) d.who d.bal d.black d.q x _ _ _ _ _ _ _ _ hq3)
    have HF4 := hide (fun W3 (kb : Below ((w2.setCell ⟨r, 12, none⟩ (.int .u64 x)).setCell ⟨r, 4, none⟩ (.int .i64 8)).heap.size ((w2.setCell ⟨r, 12, none⟩ (.int .u64 x)).setCell ⟨r, 4, none⟩ (.int .i64 8)) W3) => free_of ((kb.block _ (lt_of_heap hq3)).trans hq3) 4)
    have HC4 := hide (fun W3 (kb : Below ((w2.setCell ⟨r, 12, none⟩ (.int .u64 x)).setCell ⟨r, 4, none⟩ (.int .i64 8)).heap.size ((w2.setCell ⟨r, 12, none⟩ (.int .u64 x)).setCell ⟨r, 4, none⟩ (.int .i64 8)) W3) => cell_of ((kb.block _ (lt_of_heap hq3)).trans hq3) (i := 4) rfl)
    have HE : Hid (∀ W3, Below ((w2.setCell ⟨r, 12, none⟩ (.int .u64 x)).setCell ⟨r, 4, none⟩ (.int .i64 8)).heap.size ((w2.setCell ⟨r, 12, none⟩ (.int .u64 x)).setCell ⟨r, 4, none⟩ (.int .i64 8)) W3 → StN P r ((d.next x).robj sv) W3) := hide (fun W3 kb => by
      have ha := ((StN.of hp2 hq2 (Below.refl _ _)).moreR (i := 12) (u := .int .u64 x) rfl).moreR (i := 4) (u := .int .i64 8) rfl
      obtain ⟨wa, hpa, hqa, hca⟩ := ha
      have hb : StN P r _ W3 := ⟨wa, hpa, (kb.block _ (lt_of_heap hqa)).trans hqa, hca.trans (Chg.of_below kb)⟩
      refine cast ?_ hb; congr 1
      rw [HN.out]; unfold Nd.robj; first | rfl | (simp only [HD.out]; rfl) | simp)
    clear hp2 hq2 hq3 b0 b4
    unfold Nd.done at hdn
    rw [hdn] at HY
    go_wp2_with fail
    refine HY.out.mono ?_
    rintro e w3 ⟨rfl, hb3⟩
    have f5 := HF4.out w3 hb3
    have c5 := HC4.out w3 hb3
    have HE3 := hide (HE.out w3 hb3)
    clear hb3 HF4 HC4 HY HE
    go_wp2_with fail
    first | go_end0 | refine bodyPost_ret (results_none rfl _ _ _) rfl ?_
    exact ⟨rfl, HE3.out⟩

end
end Go.Proofs.Ytlncjbjdjciphaa

/- The document's node: phase 2. -/
namespace Go.Proofs.Ytlncjbjdjciphaa
open Go.RowKit Go.Lib
set_option linter.unusedVariables false
set_option linter.unusedSimpArgs false
section
variable {w : World} {r ra : Nat} {d : Nd} {sv : Value} {x wi : Int} {P : World → Prop}

set_option maxRecDepth 100000 in
set_option maxHeartbeats 4000000 in
theorem rph2 {y : Value} (so : Option Addr) (sl sc : Nat) (hsv : sv = .slice so sl sc) (hsl : sl = d.sends.length) (hl : sl ≤ 10000) (hs0 : 0 ≤ d.sent) (hs1 : d.sent < sl) (hlf : 0 < d.left ∧ d.left ≤ 10000) (hba : -4611686018427387904 ≤ d.bal ∧ d.bal ≤ 4611686018427387904) (hr : 0 ≤ at_ d.sends d.sent.toNat ∧ at_ d.sends d.sent.toNat < 64) (hrow : RowAt .i64 w sv d.sends) (hrow0 : ∀ w2, P w2 → RowAt .i64 w2 sv d.sends) (hd : d.ph = 2) (hwh : d.who < 64) (h0 : w.heap[r]? = some (d.robj sv))
    (HA : ∀ X ob, X.heap[r]? = some ob → Chg (fun k => k = r) w X → Calls Try.prog 40 #[.pointer (some ⟨ra, 0, none⟩), .int .i64 wi, .int .i64 (4 + at_ d.sends d.sent.toNat), .int .u64 1] X fun e w2 => e = .returned (y) ∧ P w2 ∧ w2.heap[r]? = some ob) :
    Calls Try.prog 17 #[.pointer (some ⟨r, 0, none⟩), .pointer (some ⟨ra, 0, none⟩), .int .i64 wi] w fun e w' => e = .returned (.tuple #[]) ∧ StN P r ((d.next x).robj sv) w' := by
  have HC := hide HA
  have HD := hide hd
  have hq : w.heap[r]? = some (.cells #[.int .i64 d.who, .int .i64 d.n, sv, .int .i64 d.burst, .int .i64 2, .bool d.active, .int .i64 d.left, .int .i64 d.sent, .int .i64 d.bal, .bool d.black, .int .u64 d.m, .int .u64 d.q, .int .u64 d.k] 102 (0, 0)) := by
    unfold Nd.robj at h0; rw [hd] at h0; exact h0
  have HQ := hide hq
  have b0 := cell_of hq (i := 0) rfl; have b4 := cell_of hq (i := 4) rfl
  have hw0 : IntKind.i64.wrap (4 + (d.who : Int)) = 4 + (d.who : Int) := IntWalk.i64_in _ (by omega)
  clear HA h0 hd
  subst hsv
  have HS := hide (hrow.cellAt d.sent.toNat (by omega))
  obtain ⟨s, hs⟩ : ∃ s, s = at_ d.sends d.sent.toNat := ⟨_, rfl⟩
  rw [← hs] at HC HS hr
  have hw1 : IntKind.i64.wrap (4 + s) = 4 + s := IntWalk.i64_in _ (by omega)
  have HW2 := hide (show IntKind.i64.wrap (d.sent + 1) = d.sent + 1 from IntWalk.i64_in _ (by omega))
  have HW3 := hide (show IntKind.i64.wrap (d.left - 1) = d.left - 1 from IntWalk.i64_in _ (by omega))
  have HW4 := hide (show IntKind.i64.wrap (d.bal + 1) = d.bal + 1 from IntWalk.i64_in _ (by omega))
  have HV2 := hide (show wrap64 (d.sent + 1) = d.sent + 1 from IntWalk.wrap64_in _ (by omega))
  have HV3 := hide (show wrap64 (d.left - 1) = d.left - 1 from IntWalk.wrap64_in _ (by omega))
  have HV4 := hide (show wrap64 (d.bal + 1) = d.bal + 1 from IntWalk.wrap64_in _ (by omega))
  have HN : Hid (d.next x = { d with ph := 1, sent := d.sent + 1, bal := d.bal + 1, left := d.left - 1 }) := by
    unfold Nd.next Hid; simp only [HD.out]
  have hrow2 : ∀ w2, P w2 → ∃ gg oo cc, Value.slice so sl sc = .slice (some ⟨gg, oo, none⟩) d.sends.length cc ∧ w2.cell? ⟨gg, oo + d.sent.toNat, none⟩ = some (.int .i64 s) := fun w2 hp => by
    obtain ⟨g, o, c, h1, h2, h3⟩ := (hrow0 w2 hp).cellAt d.sent.toNat (by omega)
    exact ⟨g, o, c, h1, by rw [hs]; exact h3⟩
  clear hrow0
  obtain ⟨sn, hsn⟩ : ∃ sn : Nat, d.sent = (sn : Int) := ⟨d.sent.toNat, by omega⟩
  rw [hsn] at hq HW2 HV2 hs0 hs1
  have HSN := hide hsn
  obtain ⟨gg, oo, cc, he, hcc, hce⟩ := HS.out
  simp only [Value.slice.injEq] at he
  obtain ⟨he1, he2, he3⟩ := he
  subst he1
  have hsn2 : d.sent.toNat = sn := by rw [hsn]; rfl
  rw [hsn2] at hce
  have b7 : w.cell? ⟨r, 7, none⟩ = some (.int .i64 (sn : Int)) := cell_of hq (i := 7) rfl
  have b2 : w.cell? ⟨r, 2, none⟩ = some (.slice (some ⟨gg, oo, none⟩) sl sc) := cell_of hq (i := 2) rfl
  have hlt : (sn : Int) < (sl : Int) := by omega
  have hlt2 : sn < sl := by omega
  have hrow3 : ∀ w2, P w2 → w2.cell? ⟨gg, oo + sn, none⟩ = some (.int .i64 s) := fun w2 hp => by
    obtain ⟨g, o, c, h1, h2⟩ := hrow2 w2 hp
    simp only [Value.slice.injEq, Option.some.injEq, Addr.mk.injEq, true_and, and_true] at h1
    obtain ⟨⟨rfl, rfl⟩, _⟩ := h1
    rw [← hsn2]; exact h2
  have HRW := hide hrow3
  have HQ3 : Hid (w.heap[r]? = some (.cells #[.int .i64 d.who, .int .i64 d.n, .slice (some ⟨gg, oo, none⟩) sl sc, .int .i64 d.burst, .int .i64 2, .bool d.active, .int .i64 d.left, .int .i64 (sn : Int), .int .i64 d.bal, .bool d.black, .int .u64 d.m, .int .u64 d.q, .int .u64 d.k] 102 (0, 0))) := hide hq
  clear hrow3 hrow2 HQ hcc he3 hs hrow hq he2 hsn hsn2 hs0 hs1 hlf hr hl HS hsl hba
  go_enter Try.func17, Try.ntmps17
  go_upto_region 10 with fail
  refine wp_region_noPanic ?_
  go_region_held3 (fun x => x.cell? ⟨r, 2, none⟩ = some (.slice (some ⟨gg, oo, none⟩) sl sc) ∧ x.cell? ⟨r, 7, none⟩ = some (.int .i64 (sn : Int)) ∧ x.cell? ⟨gg, oo + sn, none⟩ = some (.int .i64 s)) (first | with_reducible exact ⟨z2, z7, zc⟩ | go_keep)
    (first
      | (go_at_call 40; refine (HC.out w.drew _ HQ3.out (Chg.refl _ w).drew).mono ?_; rintro e w2 ⟨rfl, hp2, hq2⟩; have HP2 := hide hp2; have HQ2 := hide hq2; have z2 : w2.cell? ⟨r, 2, none⟩ = some (.slice (some ⟨gg, oo, none⟩) sl sc) := cell_of hq2 (i := 2) rfl; have z7 : w2.cell? ⟨r, 7, none⟩ = some (.int .i64 (sn : Int)) := cell_of hq2 (i := 7) rfl; have zc : w2.cell? ⟨gg, oo + sn, none⟩ = some (.int .i64 s) := HRW.out w2 hp2; clear hp2 hq2)
      | fail)
  rename_i hHeld
  clear hHeld b0 b4 b2 b7 hce
  refine NoPanic.normal ?_
  have hp2 := HP2.out; have hq2 := HQ2.out
  have c4 := cell_of hq2 (i := 4) rfl; have f4 := free_of hq2 4
  have c6 := cell_of hq2 (i := 6) rfl; have f6 := free_of hq2 6
  have c7 := cell_of hq2 (i := 7) rfl; have f7 := free_of hq2 7
  have c8 := cell_of hq2 (i := 8) rfl; have f8 := free_of hq2 8
  have HE : Hid (StN P r ((d.next x).robj (.slice (some ⟨gg, oo, none⟩) sl sc)) ((((w2.setCell ⟨r, 7, none⟩ (.int .i64 ((sn : Int) + 1))).setCell ⟨r, 8, none⟩ (.int .i64 (d.bal + 1))).setCell ⟨r, 6, none⟩ (.int .i64 (d.left - 1))).setCell ⟨r, 4, none⟩ (.int .i64 1))) := hide (((((StN.of hp2 hq2 (Below.refl _ _)).moreR rfl).moreR rfl).moreR rfl).moreR (by rw [HN.out]; unfold Nd.robj; first | rfl | (simp only [HSN.out]; rfl) | simp))
  have hw2 := HW2.out; have hw3 := HW3.out; have hv2 := HV2.out; have hv3 := HV3.out; have hw4 := HW4.out; have hv4 := HV4.out
  clear hp2 hq2 z7 z2 zc
  go_wp2_with fail
  first | go_end0 | refine bodyPost_ret (results_none rfl _ _ _) rfl ?_
  exact ⟨rfl, HE.out⟩

end
end Go.Proofs.Ytlncjbjdjciphaa

/- The document's node: phase 4. -/
namespace Go.Proofs.Ytlncjbjdjciphaa
open Go.RowKit Go.Lib
set_option linter.unusedVariables false
set_option linter.unusedSimpArgs false
section
variable {w : World} {r ra : Nat} {d : Nd} {sv : Value} {x wi : Int} {P : World → Prop}

set_option maxRecDepth 100000 in
set_option maxHeartbeats 4000000 in
theorem more_any (W : World) (bu le : Int) (so : Option Addr) (sl sc : Nat) (hl : sl ≤ 10000) (hle : 0 ≤ le ∧ le ≤ sl) (hbr : 0 ≤ bu ∧ bu ≤ 9223372036854775807) (v0 v1 v4 v5 v7 v8 v9 v10 v11 v12 : Value) (h : W.heap[r]? = some (.cells #[v0, v1, .slice so sl sc, .int .i64 bu, v4, v5, .int .i64 le, v7, v8, v9, v10, v11, v12] 102 (0, 0))) :
    Calls Try.prog 42 #[.pointer (some ⟨r, 0, none⟩)] W fun e w' => e = .returned (.tuple #[]) ∧ ∃ W3, Below W.heap.size W W3 ∧ w' = W3.setCell ⟨r, 6, none⟩ (.int .i64 (min (le + bu) sl)) := by
  have b2 := cell_of h (i := 2) rfl; have b3 := cell_of h (i := 3) rfl; have b6 := cell_of h (i := 6) rfl
  have f6 := free_of h 6
  have HB := hide (fun m => below_drN W m)
  have HB2 := hide (fun m k => (below_drN W m).trans ((below_drN (W.drewN m) k).mono (below_drN W m).size))
  have HH := hide h
  clear h
  by_cases h1 : (sl : Int) ≤ bu
  · rw [show min (le + bu) (sl : Int) = (sl : Int) from by omega]
    have g1 : decide ((sl : Int) ≤ bu) = true := by simpa using h1
    clear h1 hl hle hbr
    go_enter Try.func42, Try.ntmps42
    go_wp2_with fail
    go_quiet (fail)
    go_wp2_with fail
    skip
    first | go_end0 | refine bodyPost_ret (results_none rfl _ _ _) rfl ?_
    first | exact ⟨rfl, _, HB.out _, rfl⟩ | exact ⟨rfl, _, HB2.out _ _, rfl⟩
  · have g1 : decide ((sl : Int) ≤ bu) = false := by simpa using h1
    have hw1 : IntKind.i64.wrap (le + bu) = le + bu := IntWalk.i64_in _ (by omega)
    by_cases h2 : (sl : Int) ≤ le + bu
    · rw [show min (le + bu) (sl : Int) = (sl : Int) from by omega]
      have g2 : decide ((sl : Int) ≤ le + bu) = true := by simpa using h2
      clear h1 h2 hl hle hbr
      go_enter Try.func42, Try.ntmps42
      go_wp2_with fail
      go_quiet (fail)
      go_wp2_with fail
      skip
      first | go_end0 | refine bodyPost_ret (results_none rfl _ _ _) rfl ?_
      first | exact ⟨rfl, _, HB.out _, rfl⟩ | exact ⟨rfl, _, HB2.out _ _, rfl⟩
    · rw [show min (le + bu) (sl : Int) = le + bu from by omega]
      have g2 : decide ((sl : Int) ≤ le + bu) = false := by simpa using h2
      clear h1 h2 hl hle hbr
      go_enter Try.func42, Try.ntmps42
      go_wp2_with fail
      go_quiet (fail)
      go_wp2_with fail
      obtain ⟨w3, hw3⟩ : ∃ w3, w3 = W.drewN nq := ⟨_, rfl⟩
      have HB3 : Hid (Below W.heap.size W w3) := hide (by rw [hw3]; exact HB.out nq)
      have c3 : w3.cell? ⟨r, 3, none⟩ = some (.int .i64 bu) := by rw [hw3]; exact b3
      have c6 : w3.cell? ⟨r, 6, none⟩ = some (.int .i64 le) := by rw [hw3]; exact b6
      have g6 : w3.frozen? ⟨r, 6, none⟩ = false := by rw [hw3]; exact f6
      rw [← hw3]
      clear b2 b3 b6 f6 g1 g2 HB HB2
      have c3d : w3.drew.cell? ⟨r, 3, none⟩ = some (.int .i64 bu) := c3
      have hSt := hide (show ∀ u, (w3.drew.setCell ⟨r, 6, none⟩ u).cell? ⟨r, 3, none⟩ = some (.int .i64 bu) from fun u => cell_of (heap_set (i := 6) (u := u) (w := w3.drew) (by rw [hw3]; exact HH.out)) (i := 3) rfl)
      clear hw3 HH
      refine wp_region_noPanic ?_
      refine wp_region_held_drew (S := (fun x => x.cell? ⟨r, 3, none⟩ = some (.int .i64 bu))) (by kernel_rfl) c3d (fun hHeld => ?_)
      refine wpAnyH_take (i := 0) (oi := { dst := some 37, op := Op.move (Operand.tmp 0), type := 50, pos := "token.go:112", after := #[], guard := none }) (v := ?_) rfl (by kernel_rfl) (by kernel_rfl) (by kernel_rfl) (fun _ _ _ h => h) (Or.inl ⟨by rfl, ?_⟩) (by assumption) ?_
      rotate_left
      · intro w hSw
        try dsimp only at hSw
        go_simp
        all_goals try with_reducible rfl
      try simp only [Act.put, List.setIfInBounds_toArray, List.set_cons_zero, List.set_cons_succ]
      refine wpAnyH_take (i := 1) (oi := { dst := some 38, op := Op.move (Operand.tmp 0), type := 50, pos := "token.go:112", after := #[], guard := none }) (v := ?_) rfl (by kernel_rfl) (by kernel_rfl) (by kernel_rfl) (fun _ _ _ h => h) (Or.inl ⟨by rfl, ?_⟩) (by assumption) ?_
      rotate_left
      · intro w hSw
        try dsimp only at hSw
        go_simp
        all_goals try with_reducible rfl
      try simp only [Act.put, List.setIfInBounds_toArray, List.set_cons_zero, List.set_cons_succ]
      refine wpAnyH_take (i := 2) (oi := { dst := some 39, op := Op.nilCheck (Operand.tmp 38), type := 0, pos := "token.go:112", after := #[{ on := 1, ground := Ground.data }], guard := none }) (v := ?_) rfl (by kernel_rfl) (by kernel_rfl) (by kernel_rfl) (fun _ _ _ h => h) (Or.inl ⟨by rfl, ?_⟩) (by assumption) ?_
      rotate_left
      · intro w hSw
        try dsimp only at hSw
        go_simp
        all_goals try with_reducible rfl
      try simp only [Act.put, List.setIfInBounds_toArray, List.set_cons_zero, List.set_cons_succ]
      refine wpAnyH_take (i := 3) (oi := { dst := some 40, op := Op.fieldAddr 102 (Operand.tmp 39) 6, type := 0, pos := "token.go:112", after := #[{ on := 2, ground := Ground.data }], guard := none }) (v := ?_) rfl (by kernel_rfl) (by kernel_rfl) (by kernel_rfl) (fun _ _ _ h => h) (Or.inl ⟨by rfl, ?_⟩) (by assumption) ?_
      rotate_left
      · intro w hSw
        try dsimp only at hSw
        go_simp
        all_goals try with_reducible rfl
      try simp only [Act.put, List.setIfInBounds_toArray, List.set_cons_zero, List.set_cons_succ]
      refine wpAnyH_take (i := 5) (oi := { dst := some 42, op := Op.move (Operand.tmp 0), type := 50, pos := "token.go:112", after := #[], guard := none }) (v := ?_) rfl (by kernel_rfl) (by kernel_rfl) (by kernel_rfl) (fun _ _ _ h => h) (Or.inl ⟨by rfl, ?_⟩) (by assumption) ?_
      rotate_left
      · intro w hSw
        try dsimp only at hSw
        go_simp
        all_goals try with_reducible rfl
      try simp only [Act.put, List.setIfInBounds_toArray, List.set_cons_zero, List.set_cons_succ]
      refine wpAnyH_take (i := 6) (oi := { dst := some 43, op := Op.nilCheck (Operand.tmp 42), type := 0, pos := "token.go:112", after := #[{ on := 5, ground := Ground.data }], guard := none }) (v := ?_) rfl (by kernel_rfl) (by kernel_rfl) (by kernel_rfl) (fun _ _ _ h => h) (Or.inl ⟨by rfl, ?_⟩) (by assumption) ?_
      rotate_left
      · intro w hSw
        try dsimp only at hSw
        go_simp
        all_goals try with_reducible rfl
      try simp only [Act.put, List.setIfInBounds_toArray, List.set_cons_zero, List.set_cons_succ]
      refine wpAnyH_take (i := 7) (oi := { dst := some 44, op := Op.fieldAddr 102 (Operand.tmp 43) 3, type := 0, pos := "token.go:112", after := #[{ on := 6, ground := Ground.data }], guard := none }) (v := ?_) rfl (by kernel_rfl) (by kernel_rfl) (by kernel_rfl) (fun _ _ _ h => h) (Or.inl ⟨by rfl, ?_⟩) (by assumption) ?_
      rotate_left
      · intro w hSw
        try dsimp only at hSw
        go_simp
        all_goals try with_reducible rfl
      try simp only [Act.put, List.setIfInBounds_toArray, List.set_cons_zero, List.set_cons_succ]
      refine wpAnyH_take (i := 8) (oi := { dst := some 45, op := Op.load 3 (Operand.tmp 44), type := 3, pos := "token.go:112", after := #[{ on := 7, ground := Ground.data }], guard := none }) (v := ?_) rfl (by kernel_rfl) (by kernel_rfl) (by kernel_rfl) (fun _ _ _ h => h) (Or.inl ⟨by rfl, ?_⟩) (by assumption) ?_
      rotate_left
      · intro w hSw
        try dsimp only at hSw
        go_simp
        all_goals try with_reducible rfl
      try simp only [Act.put, List.setIfInBounds_toArray, List.set_cons_zero, List.set_cons_succ]
      refine wpAnyH_ready (rs := [4]) (by kernel_rfl) (by simp) ?_
      refine AllReadyH.cons (o := { dst := some 41, op := Op.load 3 (Operand.tmp 40), type := 3, pos := "token.go:112", after := #[{ on := 3, ground := Ground.data }], guard := none }) rfl (fun K hK => ?_) AllReadyH.nil
      go_simp
      refine hK.out _ _ (by first | exact hHeld | go_keep) (fun hHeld => ?_)
      clear hK K
      try simp only [Act.put, List.setIfInBounds_toArray, List.set_cons_zero, List.set_cons_succ]
      refine wpAnyH_take (i := 9) (oi := { dst := some 46, op := Op.binOp BinOp.add 3 (Operand.tmp 41) (Operand.tmp 45) 3, type := 3, pos := "token.go:112", after := #[{ on := 4, ground := Ground.data }, { on := 8, ground := Ground.data }], guard := none }) (v := ?_) rfl (by kernel_rfl) (by kernel_rfl) (by kernel_rfl) (fun _ _ _ h => h) (Or.inl ⟨by rfl, ?_⟩) (by assumption) ?_
      rotate_left
      · intro w hSw
        try dsimp only at hSw
        go_simp
        all_goals try with_reducible rfl
      try simp only [Act.put, List.setIfInBounds_toArray, List.set_cons_zero, List.set_cons_succ]
      refine wpAnyH_take (i := 10) (oi := { dst := some 47, op := Op.nilCheck (Operand.tmp 37), type := 0, pos := "token.go:112", after := #[{ on := 0, ground := Ground.data }, { on := 0, ground := Ground.phase }, { on := 1, ground := Ground.phase }, { on := 2, ground := Ground.phase }, { on := 3, ground := Ground.phase }, { on := 4, ground := Ground.phase }, { on := 5, ground := Ground.phase }, { on := 6, ground := Ground.phase }, { on := 7, ground := Ground.phase }, { on := 8, ground := Ground.phase }, { on := 9, ground := Ground.phase }], guard := none }) (v := ?_) rfl (by kernel_rfl) (by kernel_rfl) (by kernel_rfl) (fun _ _ _ h => h) (Or.inl ⟨by rfl, ?_⟩) (by assumption) ?_
      rotate_left
      · intro w hSw
        try dsimp only at hSw
        go_simp
        all_goals try with_reducible rfl
      try simp only [Act.put, List.setIfInBounds_toArray, List.set_cons_zero, List.set_cons_succ]
      refine wpAnyH_take (i := 11) (oi := { dst := some 48, op := Op.fieldAddr 102 (Operand.tmp 47) 6, type := 0, pos := "token.go:112", after := #[{ on := 10, ground := Ground.data }, { on := 0, ground := Ground.phase }, { on := 1, ground := Ground.phase }, { on := 2, ground := Ground.phase }, { on := 3, ground := Ground.phase }, { on := 4, ground := Ground.phase }, { on := 5, ground := Ground.phase }, { on := 6, ground := Ground.phase }, { on := 7, ground := Ground.phase }, { on := 8, ground := Ground.phase }, { on := 9, ground := Ground.phase }], guard := none }) (v := ?_) rfl (by kernel_rfl) (by kernel_rfl) (by kernel_rfl) (fun _ _ _ h => h) (Or.inl ⟨by rfl, ?_⟩) (by assumption) ?_
      rotate_left
      · intro w hSw
        try dsimp only at hSw
        go_simp
        all_goals try with_reducible rfl
      try simp only [Act.put, List.setIfInBounds_toArray, List.set_cons_zero, List.set_cons_succ]
      refine wpAnyH_ready (rs := [12]) (by kernel_rfl) (by simp) ?_
      refine AllReadyH.cons (o := { dst := none, op := Op.store 3 (Operand.tmp 48) (Operand.tmp 46), type := 0, pos := "token.go:112", after := #[{ on := 11, ground := Ground.data }, { on := 9, ground := Ground.data }, { on := 0, ground := Ground.phase }, { on := 1, ground := Ground.phase }, { on := 2, ground := Ground.phase }, { on := 3, ground := Ground.phase }, { on := 4, ground := Ground.phase }, { on := 5, ground := Ground.phase }, { on := 6, ground := Ground.phase }, { on := 7, ground := Ground.phase }, { on := 8, ground := Ground.phase }, { on := 9, ground := Ground.phase }], guard := none }) rfl (fun K hK => ?_) AllReadyH.nil
      go_simp
      refine hK.out _ _ (by first | exact hSt.out _ | go_keep) (fun hHeld => ?_)
      clear hK K
      try simp only [Act.put, List.setIfInBounds_toArray, List.set_cons_zero, List.set_cons_succ]
      refine wpAnyH_done (by kernel_rfl) ?_ _
      refine NoPanic.normal ?_
      clear hHeld c3d hw1
      go_wp2_with fail
      first | go_end0 | refine bodyPost_ret (results_none rfl _ _ _) rfl ?_
      first | exact ⟨rfl, _, HB3.out, rfl⟩ | exact ⟨rfl, _, HB3.out.drew, rfl⟩

set_option maxRecDepth 100000 in
set_option maxHeartbeats 4000000 in
theorem rph4 (so : Option Addr) (sl sc : Nat) (hsv : sv = .slice so sl sc) (hsl : sl = d.sends.length) (hl : sl ≤ 10000) (hm0 : 0 < d.m ∧ d.m ≤ 18446744073709551615) (hle : 0 ≤ d.left ∧ d.left ≤ sl) (hbr : 0 ≤ d.burst ∧ d.burst ≤ 9223372036854775807) (hba : -4611686018427387904 ≤ d.bal ∧ d.bal ≤ 4611686018427387904) (hd : d.ph = 4) (hwh : d.who < 64) (h0 : w.heap[r]? = some (d.robj sv))
    (HA : ∀ X ob, X.heap[r]? = some ob → Chg (fun k => k = r) w X → Calls Try.prog 41 #[.pointer (some ⟨ra, 0, none⟩), .int .i64 wi, .int .i64 (4 + (d.who : Int)), .int .u64 d.m, .int .u64 (d.m - 1)] X fun e w2 => e = .returned (.bool (decide (x = d.m))) ∧ P w2 ∧ w2.heap[r]? = some ob) :
    Calls Try.prog 17 #[.pointer (some ⟨r, 0, none⟩), .pointer (some ⟨ra, 0, none⟩), .int .i64 wi] w fun e w' => e = .returned (.tuple #[]) ∧ StN P r ((d.next x).robj sv) w' := by
  have HC := hide HA
  have HD := hide hd
  have hq : w.heap[r]? = some (.cells #[.int .i64 d.who, .int .i64 d.n, sv, .int .i64 d.burst, .int .i64 4, .bool d.active, .int .i64 d.left, .int .i64 d.sent, .int .i64 d.bal, .bool d.black, .int .u64 d.m, .int .u64 d.q, .int .u64 d.k] 102 (0, 0)) := by
    unfold Nd.robj at h0; rw [hd] at h0; exact h0
  have HQ := hide hq
  have b0 := cell_of hq (i := 0) rfl; have b4 := cell_of hq (i := 4) rfl
  have hw0 : IntKind.i64.wrap (4 + (d.who : Int)) = 4 + (d.who : Int) := IntWalk.i64_in _ (by omega)
  clear HA h0 hd
  subst hsv
  have HSL := hide hsl
  obtain ⟨yw, hyw⟩ : ∃ yw, yw = d.who := ⟨_, rfl⟩
  obtain ⟨ym, hym⟩ : ∃ ym, ym = d.m := ⟨_, rfl⟩
  obtain ⟨lf, hlf⟩ : ∃ lf, lf = d.left := ⟨_, rfl⟩
  obtain ⟨bu, hbu⟩ : ∃ bu, bu = d.burst := ⟨_, rfl⟩
  have HYW := hide hyw; have HYM := hide hym; have HLF := hide hlf; have HBU := hide hbu
  rw [← hyw] at hq b0 hw0 hwh HC
  rw [← hym] at hq HC hm0
  rw [← hlf] at hq hle
  rw [← hbu] at hq hbr
  have HQ3 : Hid (w.heap[r]? = some (.cells #[.int .i64 (yw : Int), .int .i64 d.n, .slice so sl sc, .int .i64 bu, .int .i64 4, .bool d.active, .int .i64 lf, .int .i64 d.sent, .int .i64 d.bal, .bool d.black, .int .u64 ym, .int .u64 d.q, .int .u64 d.k] 102 (0, 0))) := hide hq
  have HQ := HQ3
  have b10 : w.cell? ⟨r, 10, none⟩ = some (.int .u64 ym) := cell_of hq (i := 10) rfl
  have hwm : IntKind.u64.wrap (ym - 1) = ym - 1 := wr_id (by unfold W64; omega)
  have HW4 := hide (show IntKind.i64.wrap (d.bal - 1) = d.bal - 1 from IntWalk.i64_in _ (by omega))
  have HV4 := hide (show wrap64 (d.bal - 1) = d.bal - 1 from IntWalk.wrap64_in _ (by omega))
  have HM := hide (fun (W : World) (v0 v1 v4 v5 v7 v8 v9 v10 v11 v12 : Value) h => more_any (r := r) W bu lf so sl sc hl hle hbr v0 v1 v4 v5 v7 v8 v9 v10 v11 v12 h)
  clear hyw hym hlf hbu hq hm0 hle hbr hl hsl hba
  go_enter Try.func17, Try.ntmps17
  go_upto_region 21 with fail
  refine wp_region_noPanic ?_
  go_region_held3 (fun x => x.cell? ⟨r, 10, none⟩ = some (.int .u64 ym)) (first | with_reducible exact z10 | go_keep)
    (first
      | (go_at_call 41; refine (HC.out w.drew _ HQ3.out (Chg.refl _ w).drew).mono ?_; rintro e w2 ⟨rfl, hp2, hq2⟩; have HP2 := hide hp2; have HQ2 := hide hq2; have z10 : w2.cell? ⟨r, 10, none⟩ = some (.int .u64 ym) := cell_of hq2 (i := 10) rfl; clear hp2 hq2)
      | fail)
  rename_i hHeld
  clear hHeld b0 b4 b10 hwm
  refine NoPanic.normal ?_
  have hp2 := HP2.out; have hq2 := HQ2.out
  by_cases hx : x = ym
  · have hx1 : decide (x = ym) = true := by simpa using hx
    have HN : Hid (d.next x = { d with ph := 1, bal := d.bal - 1, black := true, active := true, left := min (d.left + d.burst) d.sends.length }) := by
      unfold Nd.next Hid; simp only [HD.out]
      rw [if_pos (by rw [← HYM.out]; exact hx)]
    clear hx
    have c5 := cell_of hq2 (i := 5) rfl; have f5 := free_of hq2 5
    have c8 := cell_of hq2 (i := 8) rfl; have f8 := free_of hq2 8
    have c9 := cell_of hq2 (i := 9) rfl; have f9 := free_of hq2 9
    have hq3 : (((w2.setCell ⟨r, 8, none⟩ (.int .i64 (d.bal - 1))).setCell ⟨r, 9, none⟩ (.bool true)).setCell ⟨r, 5, none⟩ (.bool true)).heap[r]? = some (.cells #[.int .i64 (yw : Int), .int .i64 d.n, .slice so sl sc, .int .i64 bu, .int .i64 4, .bool true, .int .i64 lf, .int .i64 d.sent, .int .i64 (d.bal - 1), .bool true, .int .u64 ym, .int .u64 d.q, .int .u64 d.k] 102 (0, 0)) := heap_set (i := 5) (u := .bool true) (heap_set (i := 9) (u := .bool true) (heap_set (i := 8) (u := .int .i64 (d.bal - 1)) hq2))
    have HY := hide (HM.out (((w2.setCell ⟨r, 8, none⟩ (.int .i64 (d.bal - 1))).setCell ⟨r, 9, none⟩ (.bool true)).setCell ⟨r, 5, none⟩ (.bool true)) _ _ _ _ _ _ _ _ _ _ hq3)
    have HE : Hid (∀ W3, Below (((w2.setCell ⟨r, 8, none⟩ (.int .i64 (d.bal - 1))).setCell ⟨r, 9, none⟩ (.bool true)).setCell ⟨r, 5, none⟩ (.bool true)).heap.size (((w2.setCell ⟨r, 8, none⟩ (.int .i64 (d.bal - 1))).setCell ⟨r, 9, none⟩ (.bool true)).setCell ⟨r, 5, none⟩ (.bool true)) W3 → StN P r ((d.next x).robj (.slice so sl sc)) ((W3.setCell ⟨r, 6, none⟩ (.int .i64 (min (lf + bu) sl))).setCell ⟨r, 4, none⟩ (.int .i64 1)) ∧ (W3.setCell ⟨r, 6, none⟩ (.int .i64 (min (lf + bu) sl))).cell? ⟨r, 4, none⟩ = some (.int .i64 4) ∧ (W3.setCell ⟨r, 6, none⟩ (.int .i64 (min (lf + bu) sl))).frozen? ⟨r, 4, none⟩ = false) := hide (fun W3 kb => by
      have ha := (((StN.of hp2 hq2 (Below.refl _ _)).moreR (i := 8) (u := .int .i64 (d.bal - 1)) rfl).moreR (i := 9) (u := .bool true) rfl).moreR (i := 5) (u := .bool true) rfl
      obtain ⟨wa, hpa, hqa, hca⟩ := ha
      have hqb := (kb.block _ (lt_of_heap hqa)).trans hqa
      have hb : StN P r _ W3 := ⟨wa, hpa, hqb, hca.trans (Chg.of_below kb)⟩
      refine ⟨(hb.moreR (i := 6) (u := .int .i64 (min (lf + bu) sl)) rfl).moreR ?_, cell_of (heap_set (i := 6) hqb _) (i := 4) rfl, free_of (heap_set (i := 6) hqb _) 4⟩
      rw [HN.out]; unfold Nd.robj; simp only [HYW.out, HYM.out, HLF.out, HBU.out, HSL.out]; rfl)
    have hw4 := HW4.out; have hv4 := HV4.out
    clear hp2 hq2 hq3 z10
    first | rw [hx1] | skip
    go_wp2_with fail
    refine HY.out.mono ?_
    rintro e w4 ⟨rfl, W3, kb, rfl⟩
    obtain ⟨he, c6, f6⟩ := HE.out W3 kb
    have HE3 := hide he
    clear kb he HE HY
    go_wp2_with fail
    first | go_end0 | refine bodyPost_ret (results_none rfl _ _ _) rfl ?_
    exact ⟨rfl, HE3.out⟩
  · have hx1 : decide (x = ym) = false := by simpa using hx
    have HN : Hid (d.next x = { d with ph := 1 }) := by
      unfold Nd.next Hid; simp only [HD.out]
      rw [if_neg (by rw [← HYM.out]; exact hx)]
    clear hx
    have c4 := cell_of hq2 (i := 4) rfl; have f4 := free_of hq2 4
    have HE : Hid (StN P r ((d.next x).robj (.slice so sl sc)) (w2.setCell ⟨r, 4, none⟩ (.int .i64 1))) := hide ((StN.of hp2 hq2 (Below.refl _ _)).moreR (by rw [HN.out]; unfold Nd.robj; simp only [HYW.out, HYM.out, HLF.out, HBU.out]; rfl))
    clear hp2 hq2 z10
    first | rw [hx1] | skip
    go_wp2_with fail
    first | go_end0 | refine bodyPost_ret (results_none rfl _ _ _) rfl ?_
    exact ⟨rfl, HE.out⟩

end
end Go.Proofs.Ytlncjbjdjciphaa
