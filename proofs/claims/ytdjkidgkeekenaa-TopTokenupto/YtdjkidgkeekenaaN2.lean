import Derived.Test.YtdjkidgkeekenaaNo
import Derived.Deep.RegionWith
import Derived.Laws.EntriesVeiled
/- The steps of a node, whatever the access does to the arena. -/
namespace Go.Proofs.Ytdjkidgkeekenaa
open Go.RowKit Go.Lib
set_option linter.unusedVariables false
set_option linter.unusedSimpArgs false
/-- A step: the access has left a world of P, then the node's own block has turned. -/
def StN (P : World → Prop) (q : Nat) (ob : Obj) (w' : World) : Prop := ∃ w2, P w2 ∧ w'.heap[q]? = some ob ∧ Chg (fun k => k = q) w2 w'
theorem StN.of {P : World → Prop} {q : Nat} {ob : Obj} {w2 w3 : World} (h : P w2) (hq : w2.heap[q]? = some ob) (hb : Below w2.heap.size w2 w3) : StN P q ob w3 :=
  ⟨w2, h, (hb.block _ (lt_of_heap hq)).trans hq, Chg.of_below hb⟩
theorem StN.more {P : World → Prop} {q : Nat} {ob' : Obj} {w2 : World} {i : Nat} {u : Value} {cs : Array Value} (h : StN P q (.cells cs 96 (0, 0)) w2) (he : ob' = .cells (cs.setIfInBounds i u) 96 (0, 0)) : StN P q ob' (w2.setCell ⟨q, i, none⟩ u) := by
  obtain ⟨w1, h1, h2, h3⟩ := h
  exact ⟨w1, h1, by rw [heap_set h2, he], h3.setCell (p := ⟨q, i, none⟩) rfl _⟩

section
variable {w : World} {q p : Nat} {d : Nd} {sv : Value} {x : Int} {P : World → Prop}
set_option maxRecDepth 100000 in
theorem isFirst_any (W : World) (h : W.heap[q]? = some (d.obj sv)) : Calls Try.prog 75 #[.pointer (some ⟨q, 0, none⟩)] W fun e w' => e = .returned (.bool (decide (d.who = 0))) ∧ w' = W := by
  unfold Nd.obj NObj at h
  have c5 := cell_of h (i := 5) rfl
  obtain ⟨y, hy⟩ : ∃ y, y = d.who := ⟨_, rfl⟩
  rw [← hy] at c5 ⊢
  clear hy h
  by_cases h0 : y = 0
  · subst h0
    go_enter Try.func75, Try.ntmps75
    go_wp2
    go_ret
    exact ⟨rfl, rfl⟩
  · have h1 : ((y : Int) == 0) = false := by simp; omega
    have h2 : decide (y = 0) = false := by simp [h0]
    rw [h2]
    go_enter Try.func75, Try.ntmps75
    go_wp2
    go_ret
    exact ⟨rfl, rfl⟩

set_option maxRecDepth 100000 in
set_option maxHeartbeats 4000000 in
theorem ph1N (so : Option Addr) (sl sc : Nat) (hsv : sv = .slice so sl sc) (hsl : sl = d.sends.length) (hl : sl ≤ 10000) (hs : 0 ≤ d.sent) (hs2 : d.sent ≤ 10000) (hd : d.ph = 1)
    (HA : ∀ X, Below w.heap.size w X → Calls Try.prog 44 #[.pointer (some ⟨p, 0, none⟩), .int .i64 0] X fun e w2 => e = .returned (.int .u64 x) ∧ P w2) (hP : ∀ w2, P w2 → w2.heap[q]? = some (d.obj sv)) :
    Calls Try.prog 31 #[.pointer (some ⟨q, 0, none⟩), .pointer (some ⟨p, 0, none⟩)] w fun e w' => e = .returned (.tuple #[]) ∧ StN P q ((d.next x).obj sv) w' := by
  have HQ := hide hP
  have HC := hide HA
  have HD := hide hd
  clear hP HA
  subst hsv
  have HSL := hide hsl
  obtain ⟨act, hact⟩ : ∃ act, act = d.active := ⟨_, rfl⟩
  obtain ⟨lf, hlf⟩ : ∃ lf, lf = d.left := ⟨_, rfl⟩
  obtain ⟨sn, hsn⟩ : ∃ sn, sn = d.sent := ⟨_, rfl⟩
  have HACT := hide hact; have HLF := hide hlf; have HSN := hide hsn
  rw [← hsn] at hs hs2
  clear hact hlf hsn hd hsl
  by_cases hx : x = 0
  · have hx1 : (x != 0) = false := by simp [hx]
    have HX := hide hx
    clear hx
    cases act with
    | false =>
      have HN : Hid (d.next x = { d with ph := 3, active := false }) := by
        unfold Nd.next Hid; simp only [HD.out]
        rw [if_neg (by simp [HX.out]), if_neg (by rw [← HACT.out]; simp)]
      go_enter Try.func31, Try.ntmps31
      go_wp2_with fail
      refine (HC.out w (Below.refl _ _)).mono ?_
      rintro e w2 ⟨rfl, hp2⟩
      have hq := HQ.out w2 hp2
      unfold Nd.obj NObj at hq
      rw [← HACT.out, ← HLF.out, ← HSN.out] at hq
      have c0 := cell_of hq (i := 0) rfl; have c1 := cell_of hq (i := 1) rfl; have c2 := cell_of hq (i := 2) rfl; have c7 := cell_of hq (i := 7) rfl; have c9 := cell_of hq (i := 9) rfl
      have f9 := free_of hq 9; have f0 := free_of hq 0
      have HE : Hid (∀ k, StN P q ((d.next x).obj (.slice so sl sc)) (((w2.drewN k).setCell ⟨q, 0, none⟩ (.bool false)).setCell ⟨q, 9, none⟩ (.func (.func 46) #[] #[]))) := hide (fun k => (((StN.of hp2 hq (below_drN w2 k)).more rfl).more (by rw [HN.out]; unfold Nd.obj NObj; simp only [← HACT.out, ← HLF.out, ← HSN.out, nxF]; rfl)))
      clear hp2 hq
      go_wp2_with fail
      go_quiet (fail)
      go_wp2_with fail
      first | go_end0 | refine bodyPost_ret (results_none rfl _ _ _) rfl ?_
      exact ⟨rfl, HE.out _⟩
    | true =>
      by_cases hb : 0 < lf
      · by_cases hc : sn < (sl : Int)
        · have HN : Hid (d.next x = { d with ph := 2 }) := by
            unfold Nd.next Hid; simp only [HD.out]
            rw [if_neg (by simp [HX.out]), if_pos ⟨HACT.out.symm, by rw [← HLF.out]; exact hb, by rw [← HSN.out, ← HSL.out]; exact hc⟩]
          go_enter Try.func31, Try.ntmps31
          go_wp2_with fail
          refine (HC.out w (Below.refl _ _)).mono ?_
          rintro e w2 ⟨rfl, hp2⟩
          have hq := HQ.out w2 hp2
          unfold Nd.obj NObj at hq
          rw [← HACT.out, ← HLF.out, ← HSN.out] at hq
          have c0 := cell_of hq (i := 0) rfl; have c1 := cell_of hq (i := 1) rfl; have c2 := cell_of hq (i := 2) rfl; have c7 := cell_of hq (i := 7) rfl; have c9 := cell_of hq (i := 9) rfl
          have f9 := free_of hq 9; have f0 := free_of hq 0
          have HE : Hid (∀ k, StN P q ((d.next x).obj (.slice so sl sc)) ((w2.drewN k).setCell ⟨q, 9, none⟩ (.func (.func 45) #[] #[]))) := hide (fun k => ((StN.of hp2 hq (below_drN w2 k)).more (by rw [HN.out]; unfold Nd.obj NObj; simp only [← HACT.out, ← HLF.out, ← HSN.out, nxF]; rfl)))
          clear hp2 hq
          go_wp2_with fail
          go_quiet (fail)
          go_wp2_with fail
          first | go_end0 | refine bodyPost_ret (results_none rfl _ _ _) rfl ?_
          exact ⟨rfl, HE.out _⟩
        · have hc2 : decide (sn < (sl : Int)) = false := by simpa using hc
          have HN : Hid (d.next x = { d with ph := 3, active := false }) := by
            unfold Nd.next Hid; simp only [HD.out]
            rw [if_neg (by simp [HX.out]), if_neg (by rw [← HSN.out, ← HSL.out]; exact fun q => hc q.2.2)]
          go_enter Try.func31, Try.ntmps31
          go_wp2_with fail
          refine (HC.out w (Below.refl _ _)).mono ?_
          rintro e w2 ⟨rfl, hp2⟩
          have hq := HQ.out w2 hp2
          unfold Nd.obj NObj at hq
          rw [← HACT.out, ← HLF.out, ← HSN.out] at hq
          have c0 := cell_of hq (i := 0) rfl; have c1 := cell_of hq (i := 1) rfl; have c2 := cell_of hq (i := 2) rfl; have c7 := cell_of hq (i := 7) rfl; have c9 := cell_of hq (i := 9) rfl
          have f9 := free_of hq 9; have f0 := free_of hq 0
          have HE : Hid (∀ k, StN P q ((d.next x).obj (.slice so sl sc)) (((w2.drewN k).setCell ⟨q, 0, none⟩ (.bool false)).setCell ⟨q, 9, none⟩ (.func (.func 46) #[] #[]))) := hide (fun k => (((StN.of hp2 hq (below_drN w2 k)).more rfl).more (by rw [HN.out]; unfold Nd.obj NObj; simp only [← HACT.out, ← HLF.out, ← HSN.out, nxF]; rfl)))
          clear hp2 hq
          go_wp2_with fail
          go_quiet (fail)
          go_wp2_with fail
          first | go_end0 | refine bodyPost_ret (results_none rfl _ _ _) rfl ?_
          exact ⟨rfl, HE.out _⟩
      · have hb2 : decide (0 < lf) = false := by simpa using hb
        have HN : Hid (d.next x = { d with ph := 3, active := false }) := by
          unfold Nd.next Hid; simp only [HD.out]
          rw [if_neg (by simp [HX.out]), if_neg (by rw [← HLF.out]; exact fun q => hb q.2.1)]
        go_enter Try.func31, Try.ntmps31
        go_wp2_with fail
        refine (HC.out w (Below.refl _ _)).mono ?_
        rintro e w2 ⟨rfl, hp2⟩
        have hq := HQ.out w2 hp2
        unfold Nd.obj NObj at hq
        rw [← HACT.out, ← HLF.out, ← HSN.out] at hq
        have c0 := cell_of hq (i := 0) rfl; have c1 := cell_of hq (i := 1) rfl; have c2 := cell_of hq (i := 2) rfl; have c7 := cell_of hq (i := 7) rfl; have c9 := cell_of hq (i := 9) rfl
        have f9 := free_of hq 9; have f0 := free_of hq 0
        have HE : Hid (∀ k, StN P q ((d.next x).obj (.slice so sl sc)) (((w2.drewN k).setCell ⟨q, 0, none⟩ (.bool false)).setCell ⟨q, 9, none⟩ (.func (.func 46) #[] #[]))) := hide (fun k => (((StN.of hp2 hq (below_drN w2 k)).more rfl).more (by rw [HN.out]; unfold Nd.obj NObj; simp only [← HACT.out, ← HLF.out, ← HSN.out, nxF]; rfl)))
        clear hp2 hq
        go_wp2_with fail
        go_quiet (fail)
        go_wp2_with fail
        first | go_end0 | refine bodyPost_ret (results_none rfl _ _ _) rfl ?_
        exact ⟨rfl, HE.out _⟩
  · have hx1 : (x != 0) = true := by simp [hx]
    have HN : Hid (d.next x = { d with ph := 0 }) := by
      unfold Nd.next Hid; simp only [HD.out]
      rw [if_pos hx]
    go_enter Try.func31, Try.ntmps31
    go_wp2_with fail
    refine (HC.out w (Below.refl _ _)).mono ?_
    rintro e w2 ⟨rfl, hp2⟩
    have hq := HQ.out w2 hp2
    unfold Nd.obj NObj at hq
    rw [← HACT.out, ← HLF.out, ← HSN.out] at hq
    have c0 := cell_of hq (i := 0) rfl; have c1 := cell_of hq (i := 1) rfl; have c2 := cell_of hq (i := 2) rfl; have c7 := cell_of hq (i := 7) rfl; have c9 := cell_of hq (i := 9) rfl
    have f9 := free_of hq 9; have f0 := free_of hq 0
    have HE : Hid (StN P q ((d.next x).obj (.slice so sl sc)) (w2.setCell ⟨q, 9, none⟩ .nilFunc)) := hide ((StN.of hp2 hq (Below.refl _ _)).more (by rw [HN.out]; unfold Nd.obj NObj; simp only [← HACT.out, ← HLF.out, ← HSN.out, nxF]; rfl))
    clear hp2 hq
    go_wp2_with fail
    first | go_end0 | refine bodyPost_ret (results_none rfl _ _ _) rfl ?_
    exact ⟨rfl, HE.out⟩

set_option maxRecDepth 100000 in
set_option maxHeartbeats 4000000 in
theorem ph3N (hwh : d.who < 64) (h0 : w.heap[q]? = some (d.obj sv)) (hd : d.ph = 3)
    (HA : ∀ X, Below w.heap.size w X → Calls Try.prog 44 #[.pointer (some ⟨p, 0, none⟩), .int .i64 (4 + (d.who : Int))] X fun e w2 => e = .returned (.int .u64 x) ∧ P w2) (hP : ∀ w2, P w2 → w2.heap[q]? = some (d.obj sv)) :
    Calls Try.prog 46 #[.pointer (some ⟨q, 0, none⟩), .pointer (some ⟨p, 0, none⟩)] w fun e w' => e = .returned (.tuple #[]) ∧ StN P q ((d.next x).obj sv) w' := by
  have HQ := hide hP
  have HC := hide HA
  have HD := hide hd
  clear hP HA
  have HW := hide hwh
  obtain ⟨y, hy⟩ : ∃ y, y = d.who := ⟨_, rfl⟩
  have HY := hide hy
  rw [← hy] at HC
  have hw1 : IntKind.i64.wrap (4 + (y : Int)) = 4 + (y : Int) := IntWalk.i64_in _ (by omega)
  have hq0 := h0
  unfold Nd.obj NObj at hq0
  have b5 := cell_of hq0 (i := 5) rfl
  rw [← hy] at b5
  clear hy hd hwh h0 hq0
  by_cases hx : x = 0
  · have HN : Hid (d.next x = { d with ph := 5, m := x }) := by
      unfold Nd.next Hid; simp only [HD.out]
      rw [if_pos hx]
    have hx1 : (x == 0) = true := by simp [hx]
    go_enter Try.func46, Try.ntmps46
    go_wp2_with fail
    refine (HC.out w (Below.refl _ _)).mono ?_
    rintro e w2 ⟨rfl, hp2⟩
    have hq := HQ.out w2 hp2
    unfold Nd.obj NObj at hq
    have c6 := cell_of hq (i := 10) rfl; have c9 := cell_of hq (i := 9) rfl
    have f9 := free_of hq 9; have f6 := free_of hq 10
    have HE : Hid (StN P q ((d.next x).obj sv) ((w2.setCell ⟨q, 10, none⟩ (.int .u64 x)).setCell ⟨q, 9, none⟩ (.func (.func 61) #[] #[]))) := hide (((StN.of hp2 hq (Below.refl _ _)).more rfl).more (by rw [HN.out]; unfold Nd.obj NObj; simp only [nxF]; rfl))
    clear hp2 hq hx
    go_wp2_with fail
    first | go_end0 | refine bodyPost_ret (results_none rfl _ _ _) rfl ?_
    exact ⟨rfl, HE.out⟩
  · have HN : Hid (d.next x = { d with ph := 4, m := x }) := by
      unfold Nd.next Hid; simp only [HD.out]
      rw [if_neg hx]
    have hx1 : (x == 0) = false := by simp [hx]
    go_enter Try.func46, Try.ntmps46
    go_wp2_with fail
    refine (HC.out w (Below.refl _ _)).mono ?_
    rintro e w2 ⟨rfl, hp2⟩
    have hq := HQ.out w2 hp2
    unfold Nd.obj NObj at hq
    have c6 := cell_of hq (i := 10) rfl; have c9 := cell_of hq (i := 9) rfl
    have f9 := free_of hq 9; have f6 := free_of hq 10
    have HE : Hid (StN P q ((d.next x).obj sv) ((w2.setCell ⟨q, 10, none⟩ (.int .u64 x)).setCell ⟨q, 9, none⟩ (.func (.func 62) #[] #[]))) := hide (((StN.of hp2 hq (Below.refl _ _)).more rfl).more (by rw [HN.out]; unfold Nd.obj NObj; simp only [nxF]; rfl))
    clear hp2 hq hx
    go_wp2_with fail
    first | go_end0 | refine bodyPost_ret (results_none rfl _ _ _) rfl ?_
    exact ⟨rfl, HE.out⟩

set_option maxRecDepth 100000 in
set_option maxHeartbeats 4000000 in
theorem ph6N (hd : d.ph = 6)
    (HA : ∀ X, Below w.heap.size w X → Calls Try.prog 44 #[.pointer (some ⟨p, 0, none⟩), .int .i64 2] X fun e w2 => e = .returned (.int .u64 x) ∧ P w2) (hP : ∀ w2, P w2 → w2.heap[q]? = some (d.obj sv)) :
    Calls Try.prog 72 #[.pointer (some ⟨q, 0, none⟩), .pointer (some ⟨p, 0, none⟩)] w fun e w' => e = .returned (.tuple #[]) ∧ StN P q ((d.next x).obj sv) w' := by
  have HQ := hide hP
  have HC := hide HA
  have HD := hide hd
  clear hP HA
  have HN : Hid (d.next x = { d with ph := 7, q := x }) := by
    unfold Nd.next Hid; simp only [HD.out]
  clear hd
  go_enter Try.func72, Try.ntmps72
  go_wp2_with fail
  refine (HC.out w (Below.refl _ _)).mono ?_
  rintro e w2 ⟨rfl, hp2⟩
  have hq := HQ.out w2 hp2
  unfold Nd.obj NObj at hq
  have c6 := cell_of hq (i := 11) rfl; have c9 := cell_of hq (i := 9) rfl
  have f9 := free_of hq 9; have f6 := free_of hq 11
  have HE : Hid (StN P q ((d.next x).obj sv) ((w2.setCell ⟨q, 11, none⟩ (.int .u64 x)).setCell ⟨q, 9, none⟩ (.func (.func 74) #[] #[]))) := hide (((StN.of hp2 hq (Below.refl _ _)).more rfl).more (by rw [HN.out]; unfold Nd.obj NObj; simp only [nxF]; rfl))
  clear hp2 hq
  go_wp2_with fail
  first | go_end0 | refine bodyPost_ret (results_none rfl _ _ _) rfl ?_
  exact ⟨rfl, HE.out⟩

set_option maxRecDepth 100000 in
set_option maxHeartbeats 4000000 in
theorem ph11N (hd : d.ph = 11)
    (HA : ∀ X, Below w.heap.size w X → Calls Try.prog 79 #[.pointer (some ⟨p, 0, none⟩), .int .i64 0, .int .u64 1] X fun e w2 => e = .returned (.tuple #[]) ∧ P w2) (hP : ∀ w2, P w2 → w2.heap[q]? = some (d.obj sv)) :
    Calls Try.prog 77 #[.pointer (some ⟨q, 0, none⟩), .pointer (some ⟨p, 0, none⟩)] w fun e w' => e = .returned (.tuple #[]) ∧ StN P q ((d.next x).obj sv) w' := by
  have HQ := hide hP
  have HC := hide HA
  have HD := hide hd
  clear hP HA
  have HN : Hid (d.next x = { d with ph := 0 }) := by
    unfold Nd.next Hid; simp only [HD.out]
  clear hd
  go_enter Try.func77, Try.ntmps77
  go_wp2_with fail
  refine (HC.out w (Below.refl _ _)).mono ?_
  rintro e w2 ⟨rfl, hp2⟩
  have hq := HQ.out w2 hp2
  unfold Nd.obj NObj at hq
  have c9 := cell_of hq (i := 9) rfl
  have f9 := free_of hq 9
  have HE : Hid (StN P q ((d.next x).obj sv) (w2.setCell ⟨q, 9, none⟩ .nilFunc)) := hide ((StN.of hp2 hq (Below.refl _ _)).more (by rw [HN.out]; unfold Nd.obj NObj; simp only [nxF]; rfl))
  clear hp2 hq
  go_wp2_with fail
  first | go_end0 | refine bodyPost_ret (results_none rfl _ _ _) rfl ?_
  exact ⟨rfl, HE.out⟩

end
end Go.Proofs.Ytdjkidgkeekenaa

/- The steps of a node: the rest; the whole step; Over, Tell. -/
namespace Go.Proofs.Ytdjkidgkeekenaa
open Go.RowKit Go.Lib
set_option linter.unusedVariables false
set_option linter.unusedSimpArgs false
theorem Try.fields94 : Try.prog.underlying 94 = some (.struct (Try.prog.fieldsOf 94)) := by kernel_rfl
theorem Try.held94 : Try.prog.stoodInHeld 94 = false := by kernel_rfl
theorem Try.list94 : (Try.prog.fieldsOf 94).toList = [{ name := "active", type := 4, offset := 0, embedded := false, tag := "", pkgPath := "wayfare/token", byteOffset := 0 }, { name := "left", type := 3, offset := 1, embedded := false, tag := "", pkgPath := "wayfare/token", byteOffset := 8 }, { name := "sent", type := 3, offset := 2, embedded := false, tag := "", pkgPath := "wayfare/token", byteOffset := 16 }, { name := "balance", type := 41, offset := 3, embedded := false, tag := "", pkgPath := "wayfare/token", byteOffset := 24 }, { name := "black", type := 4, offset := 4, embedded := false, tag := "", pkgPath := "wayfare/token", byteOffset := 32 }] := by kernel_rfl
theorem regs_eql (a1 a2 b1 b2 : Bool) (l1 l2 s1 s2 w1 w2 : Int) (w : World) : (binOp .eql 94 (.agg #[.bool a1, .int .i64 l1, .int .i64 s1, .int .u64 w1, .bool b1]) (.agg #[.bool a2, .int .i64 l2, .int .i64 s2, .int .u64 w2, .bool b2])).run Try.prog w = .ok (.bool (a1 == a2 && (l1 == l2 && (s1 == s2 && (w1 == w2 && (b1 == b2 && true)))))) w := by
  have h : (Op.equalIn 10000 94 (.agg #[.bool a1, .int .i64 l1, .int .i64 s1, .int .u64 w1, .bool b1]) (.agg #[.bool a2, .int .i64 l2, .int .i64 s2, .int .u64 w2, .bool b2])).run Try.prog w = .ok (a1 == a2 && (l1 == l2 && (s1 == s2 && (w1 == w2 && (b1 == b2 && true))))) w := by
    rw [show (10000 : Nat) = 9998 + 1 + 1 from rfl, run_equalIn_struct w (9998 + 1) 94 _ _ Try.fields94 Try.held94, Try.list94]
    refine field_bool (by decide) Try.underlying4 (part4 _ _ _ _ rfl) (part4 _ _ _ _ rfl) ?_
    refine field_int (by decide) Try.underlying3 (part3 _ _ _ _ rfl) (part3 _ _ _ _ rfl) ?_
    refine field_int (by decide) Try.underlying3 (part3 _ _ _ _ rfl) (part3 _ _ _ _ rfl) ?_
    refine field_int (by decide) Try.underlying41 (part27 _ _ _ _ rfl) (part27 _ _ _ _ rfl) ?_
    refine field_bool (by decide) Try.underlying4 (part4 _ _ _ _ rfl) (part4 _ _ _ _ rfl) ?_
    simp [Op.eqFields]
  rw [run_eql_struct, h, Result.andThen_ok]
section
variable {w : World} {q p : Nat} {d : Nd} {sv : Value} {x : Int} {P : World → Prop}

set_option maxRecDepth 100000 in
set_option maxHeartbeats 4000000 in
theorem ph2N {y : Value} (so : Option Addr) (sl sc : Nat) (hsv : sv = .slice so sl sc) (hsl : sl = d.sends.length) (hl : sl ≤ 10000) (hs0 : 0 ≤ d.sent) (hs1 : d.sent < sl) (hlf : 0 < d.left ∧ d.left ≤ 10000) (hr : 0 ≤ at_ d.sends d.sent.toNat ∧ at_ d.sends d.sent.toNat < 64) (hrow : RowAt .i64 w sv d.sends) (hrow0 : ∀ w2, P w2 → RowAt .i64 w2 sv d.sends) (h0 : w.heap[q]? = some (d.obj sv)) (hd : d.ph = 2)
    (HA : ∀ X, Below w.heap.size w X → Calls Try.prog 60 #[.pointer (some ⟨p, 0, none⟩), .int .i64 (4 + at_ d.sends d.sent.toNat), .int .u64 1] X fun e w2 => e = .returned (y) ∧ P w2) (hP : ∀ w2, P w2 → w2.heap[q]? = some (d.obj sv)) :
    Calls Try.prog 45 #[.pointer (some ⟨q, 0, none⟩), .pointer (some ⟨p, 0, none⟩)] w fun e w' => e = .returned (.tuple #[]) ∧ StN P q ((d.next x).obj sv) w' := by
  have HQ := hide hP
  have HC := hide HA
  have HD := hide hd
  clear hP HA
  subst hsv
  have HS := hide (fun W (k : Below w.heap.size w W) => (hrow.below k).cellAt d.sent.toNat (by omega))
  obtain ⟨s, hs⟩ : ∃ s, s = at_ d.sends d.sent.toNat := ⟨_, rfl⟩
  rw [← hs] at HC HS hr
  have hw1 : IntKind.i64.wrap (4 + s) = 4 + s := IntWalk.i64_in _ (by omega)
  have HW2 := hide (show IntKind.i64.wrap (d.sent + 1) = d.sent + 1 from IntWalk.i64_in _ (by omega))
  have HW3 := hide (show IntKind.i64.wrap (d.left - 1) = d.left - 1 from IntWalk.i64_in _ (by omega))
  have HV2 := hide (show wrap64 (d.sent + 1) = d.sent + 1 from IntWalk.wrap64_in _ (by omega))
  have HV3 := hide (show wrap64 (d.left - 1) = d.left - 1 from IntWalk.wrap64_in _ (by omega))
  have HN : Hid (d.next x = { d with ph := 1, sent := d.sent + 1, bal := d.bal + 1, left := d.left - 1 }) := by
    unfold Nd.next Hid; simp only [HD.out]
  have hwb := wr_add d.bal 1
  have HH := hide (fun W (k : Below w.heap.size w W) => (k.block _ (lt_of_heap h0)).trans h0)
  have HWB := hide hwb
  have hq0 := h0
  unfold Nd.obj NObj at hq0
  have hrow2 : ∀ w2, P w2 → ∃ gg oo cc, Value.slice so sl sc = .slice (some ⟨gg, oo, none⟩) d.sends.length cc ∧ w2.cell? ⟨gg, oo + d.sent.toNat, none⟩ = some (.int .i64 s) := fun w2 hp => by
    obtain ⟨g, o, c, h1, h2, h3⟩ := (hrow0 w2 hp).cellAt d.sent.toNat (by omega)
    exact ⟨g, o, c, h1, by rw [hs]; exact h3⟩
  clear hrow0
  obtain ⟨sn, hsn⟩ : ∃ sn : Nat, d.sent = (sn : Int) := ⟨d.sent.toNat, by omega⟩
  have HSN := hide hsn
  rw [hsn] at hq0 HW2 HV2 hs0 hs1
  obtain ⟨gg, oo, cc, he, hcc, hce⟩ := HS.out w (Below.refl _ _)
  simp only [Value.slice.injEq] at he
  obtain ⟨he1, he2, he3⟩ := he
  subst he1
  have hsn2 : d.sent.toNat = sn := by rw [hsn]; rfl
  rw [hsn2] at hce
  have b7 := cell_of hq0 (i := 7) rfl; have b2 := cell_of hq0 (i := 2) rfl
  have hlt : (sn : Int) < (sl : Int) := by omega
  have hlt2 : sn < sl := by omega
  have hz0 : (0 : Int) ≤ (sn : Int) := by omega
  have hz1 : ¬ (sn : Int) < 0 := by omega
  have hz2 : ¬ (sl : Int) ≤ (sn : Int) := by omega
  have hz3 : (sn : Int) ≤ (sl : Int) := by omega
  have HSL := hide hsl
  clear hsl hcc he3
  have HKP := hide (fun X (hX : Below w.heap.size w X) => (⟨(below_cell hX (lt_of_heap hq0)).trans b7, (below_cell hX (lt_of_heap hq0)).trans b2, (below_cell hX (block_of_cell hce)).trans hce⟩ : X.cell? ⟨q, 7, none⟩ = _ ∧ X.cell? ⟨q, 2, none⟩ = _ ∧ X.cell? ⟨gg, oo + sn, none⟩ = _))
  have b7' : w.cell? ⟨q, 7, none⟩ = some (.slice (some ⟨gg, oo, none⟩) sl sc) := b7
  have b2' : w.cell? ⟨q, 2, none⟩ = some (.int .i64 (sn : Int)) := b2
  clear b7 b2
  have hrow3 : ∀ w2, P w2 → w2.cell? ⟨gg, oo + sn, none⟩ = some (.int .i64 s) := fun w2 hp => by
    obtain ⟨g, o, c, h1, h2⟩ := hrow2 w2 hp
    simp only [Value.slice.injEq, Option.some.injEq, Addr.mk.injEq, true_and, and_true] at h1
    obtain ⟨⟨rfl, rfl⟩, _⟩ := h1
    rw [← hsn2]; exact h2
  have HRW := hide hrow3
  clear hrow3
  clear hrow2
  clear hs hrow hwb h0 hq0 hd he2 hsn hsn2 hs0 hs1 hlf hr hl hz0 hz1 hz2 hz3 HH HWB HS
  go_enter Try.func45, Try.ntmps45
  go_wp2_with fail
  refine wp_region_noPanic ?_
  go_region_held3 (fun x => x.cell? ⟨q, 7, none⟩ = some (.slice (some ⟨gg, oo, none⟩) sl sc) ∧ x.cell? ⟨q, 2, none⟩ = some (.int .i64 (sn : Int)) ∧ x.cell? ⟨gg, oo + sn, none⟩ = some (.int .i64 s)) (first | with_reducible exact ⟨z7, z2, zc⟩ | go_keep)
    (first
      | (go_at_call 60; refine (HC.out _ (below_drew (Below.refl _ _))).mono ?_; rintro e w2 ⟨rfl, hp2⟩; have HP2 := hide hp2; have hq2 := HQ.out w2 hp2; unfold Nd.obj NObj at hq2; rw [HSN.out] at hq2; have z7 : w2.cell? ⟨q, 7, none⟩ = some (.slice (some ⟨gg, oo, none⟩) sl sc) := cell_of hq2 rfl; have z2 : w2.cell? ⟨q, 2, none⟩ = some (.int .i64 (sn : Int)) := cell_of hq2 rfl; have zc : w2.cell? ⟨gg, oo + sn, none⟩ = some (.int .i64 s) := HRW.out w2 hp2; clear hp2 hq2)
      | fail)
  rename_i hHeld
  clear hHeld
  refine NoPanic.normal ?_
  have hp2 := HP2.out
  have hq := HQ.out w2 hp2
  unfold Nd.obj NObj at hq
  rw [HSN.out] at hq
  have c1 := cell_of hq (i := 1) rfl; have c2 := cell_of hq (i := 2) rfl; have c3 := cell_of hq (i := 3) rfl; have c9 := cell_of hq (i := 9) rfl
  have f1 := free_of hq 1; have f2 := free_of hq 2; have f3 := free_of hq 3; have f9 := free_of hq 9
  have HE : Hid (StN P q ((d.next x).obj (.slice (some ⟨gg, oo, none⟩) sl sc)) ((((w2.setCell ⟨q, 2, none⟩ (.int .i64 ((sn : Int) + 1))).setCell ⟨q, 3, none⟩ (.int .u64 (wr (wr d.bal + 1)))).setCell ⟨q, 1, none⟩ (.int .i64 (d.left - 1))).setCell ⟨q, 9, none⟩ (.func (.func 31) #[] #[]))) := hide (((((StN.of hp2 hq (Below.refl _ _)).more rfl).more rfl).more rfl).more (by rw [HN.out]; unfold Nd.obj NObj; simp only [wr_add, HSN.out, nxF]; rfl))
  have hw2 := HW2.out; have hw3 := HW3.out; have hv2 := HV2.out; have hv3 := HV3.out
  clear hp2 hq z7 z2 zc
  unfold wr at *
  go_wp2_with fail
  first | go_end0 | refine bodyPost_ret (results_none rfl _ _ _) rfl ?_
  exact ⟨rfl, HE.out⟩

set_option maxRecDepth 100000 in
set_option maxHeartbeats 4000000 in
theorem ph4N (so : Option Addr) (sl sc : Nat) (hsv : sv = .slice so sl sc) (hsl : sl = d.sends.length) (hl : sl ≤ 10000) (hwh : d.who < 64) (hm0 : 0 < d.m ∧ d.m ≤ 18446744073709551615) (hle : 0 ≤ d.left ∧ d.left ≤ sl) (hbr : 0 ≤ d.burst ∧ d.burst ≤ 9223372036854775807) (h0 : w.heap[q]? = some (d.obj sv)) (hd : d.ph = 4)
    (HA : ∀ X, Below w.heap.size w X → Calls Try.prog 73 #[.pointer (some ⟨p, 0, none⟩), .int .i64 (4 + (d.who : Int)), .int .u64 d.m, .int .u64 (d.m - 1)] X fun e w2 => e = .returned (.bool (decide (x = d.m))) ∧ P w2) (hP : ∀ w2, P w2 → w2.heap[q]? = some (d.obj sv)) :
    Calls Try.prog 62 #[.pointer (some ⟨q, 0, none⟩), .pointer (some ⟨p, 0, none⟩)] w fun e w' => e = .returned (.tuple #[]) ∧ StN P q ((d.next x).obj sv) w' := by
  have HQ := hide hP
  have HC := hide HA
  have HD := hide hd
  clear hP HA
  subst hsv
  have HSL := hide hsl
  have hq0 := h0
  unfold Nd.obj NObj at hq0
  obtain ⟨yw, hyw⟩ : ∃ yw, yw = d.who := ⟨_, rfl⟩
  obtain ⟨ym, hym⟩ : ∃ ym, ym = d.m := ⟨_, rfl⟩
  have HYW := hide hyw; have HYM := hide hym
  have b5 : w.cell? ⟨q, 5, none⟩ = some (.int .i64 (yw : Int)) := by rw [hyw]; exact cell_of hq0 rfl
  have b10 : w.cell? ⟨q, 10, none⟩ = some (.int .u64 ym) := by rw [hym]; exact cell_of hq0 rfl
  rw [← hyw, ← hym] at HC
  rw [← hyw] at hwh
  rw [← hym] at hm0
  have hw1 : IntKind.i64.wrap (4 + (yw : Int)) = 4 + (yw : Int) := IntWalk.i64_in _ (by omega)
  have hw2 : IntKind.u64.wrap (ym - 1) = ym - 1 := wr_id (by unfold W64; omega)
  obtain ⟨lf, hlf⟩ : ∃ lf, lf = d.left := ⟨_, rfl⟩
  obtain ⟨bu, hbu⟩ : ∃ bu, bu = d.burst := ⟨_, rfl⟩
  have HLF := hide hlf; have HBU := hide hbu
  rw [← hlf] at hle; rw [← hbu] at hbr
  have HLE := hide hle; have HBR := hide hbr; have HL := hide hl
  have HWB := hide (wr_sub d.bal 1)
  clear hq0 h0 hd hwh hm0 hyw hym hlf hbu hle hbr hsl hl
  go_enter Try.func62, Try.ntmps62
  go_wp2_with fail
  refine wp_region_noPanic ?_
  go_region_held3 (fun x => x.cell? ⟨q, 5, none⟩ = some (.int .i64 (yw : Int)) ∧ x.cell? ⟨q, 10, none⟩ = some (.int .u64 ym)) (first | with_reducible exact ⟨z5, z10⟩ | go_keep)
    (first
      | (go_at_call 73; refine (HC.out _ (below_drew (Below.refl _ _))).mono ?_; rintro e w2 ⟨rfl, hp2⟩; have HP2 := hide hp2; have hq2 := HQ.out w2 hp2; unfold Nd.obj NObj at hq2; rw [← HYW.out, ← HYM.out] at hq2; have z5 : w2.cell? ⟨q, 5, none⟩ = some (.int .i64 (yw : Int)) := cell_of hq2 rfl; have z10 : w2.cell? ⟨q, 10, none⟩ = some (.int .u64 ym) := cell_of hq2 rfl; clear hp2 hq2)
      | fail)
  rename_i hHeld
  clear hHeld hw1 hw2 b5 b10 z5 z10
  refine NoPanic.normal ?_
  have hp2 := HP2.out
  have hq := HQ.out w2 hp2
  unfold Nd.obj NObj at hq
  rw [← HLF.out, ← HBU.out] at hq
  have c9 := cell_of hq (i := 9) rfl
  have f9 := free_of hq 9
  by_cases hx : x = ym
  · have hdx : decide (x = ym) = true := by simpa using hx
    have HN : Hid (d.next x = { d with ph := 1, bal := d.bal - 1, black := true, active := true, left := min (d.left + d.burst) d.sends.length }) := by
      unfold Nd.next Hid; simp only [HD.out]
      rw [if_pos (by rw [← HYM.out]; exact hx)]
    have c3 := cell_of hq (i := 3) rfl; have c4 := cell_of hq (i := 4) rfl; have c0 := cell_of hq (i := 0) rfl
    have f3 := free_of hq 3; have f4 := free_of hq 4; have f0 := free_of hq 0; have f1 := free_of hq 1
    have h3 : StN P q (.cells #[.bool true, .int .i64 lf, .int .i64 d.sent, .int .u64 (wr (wr d.bal - 1)), .bool true, .int .i64 d.who, .int .i64 d.n, .slice so sl sc, .int .i64 bu, nxF d.ph, .int .u64 d.m, .int .u64 d.q, .int .u64 d.k] 96 (0, 0)) (((w2.setCell ⟨q, 3, none⟩ (.int .u64 (wr (wr d.bal - 1)))).setCell ⟨q, 4, none⟩ (.bool true)).setCell ⟨q, 0, none⟩ (.bool true)) := ((((StN.of hp2 hq (Below.refl _ _)).more rfl).more rfl).more rfl)
    have H3 := hide h3
    clear h3 hp2 hq hx c9 f9
    rw [hdx]
    unfold wr at *
    go_upto_region 3 with fail
    generalize (((w2.setCell ⟨q, 3, none⟩ (.int .u64 (IntKind.u64.wrap (IntKind.u64.wrap d.bal - 1)))).setCell ⟨q, 4, none⟩ (.bool true)).setCell ⟨q, 0, none⟩ (.bool true)) = w3 at H3 ⊢
    obtain ⟨w1, hp1, hq3, hc3⟩ := H3.out
    have c1 := cell_of hq3 (i := 1) rfl; have c7 := cell_of hq3 (i := 7) rfl; have c8 := cell_of hq3 (i := 8) rfl; have c9 := cell_of hq3 (i := 9) rfl
    have f1 := free_of hq3 1; have f9 := free_of hq3 9
    clear hp1 hq3 hc3 c3 c4 c0 f3 f4 f0
    have HX : Hid (∀ y, y = min (lf + bu) (sl : Int) → StN P q ((d.next x).obj (.slice so sl sc)) (((w3.setCell ⟨q, 1, none⟩ (.int .i64 y)).drew).setCell ⟨q, 9, none⟩ (.func (.func 31) #[] #[]))) := hide (fun y hy => by
      obtain ⟨w1, hp1, hq3, hc3⟩ := H3.out
      refine StN.more (cs := #[.bool true, .int .i64 y, .int .i64 d.sent, .int .u64 (wr (wr d.bal - 1)), .bool true, .int .i64 d.who, .int .i64 d.n, .slice so sl sc, .int .i64 bu, nxF d.ph, .int .u64 d.m, .int .u64 d.q, .int .u64 d.k]) ⟨w1, hp1, heap_set hq3 _, (hc3.setCell (p := ⟨q, 1, none⟩) rfl _).drew⟩ ?_
      rw [HN.out]; unfold Nd.obj NObj; simp only [← HBU.out, ← HLF.out, ← HSL.out, ← hy, wr_sub, nxF]; rfl)
    have hle := HLE.out; have hbr := HBR.out; have hl := HL.out
    have hw4 : IntKind.i64.wrap ((sl : Int) - lf) = (sl : Int) - lf := IntWalk.i64_in _ (by omega)
    have hw5 : IntKind.i64.wrap (lf + min bu ((sl : Int) - lf)) = lf + min bu ((sl : Int) - lf) := IntWalk.i64_in _ (by omega)
    have HF := hide (HX.out (lf + min bu ((sl : Int) - lf)) (by omega))
    have hSt := hide (show ∀ u, (w3.setCell ⟨q, 1, none⟩ u).cell? ⟨q, 8, none⟩ = some (.int .i64 bu) ∧ (w3.setCell ⟨q, 1, none⟩ u).cell? ⟨q, 7, none⟩ = some (.slice so sl sc) from fun u => by
      obtain ⟨w1, hp1, hq3, hc3⟩ := H3.out
      have hq4 := heap_set (i := 1) hq3 u
      exact ⟨cell_of hq4 rfl, cell_of hq4 rfl⟩)
    have hS0 : w3.drew.cell? ⟨q, 8, none⟩ = some (.int .i64 bu) ∧ w3.drew.cell? ⟨q, 7, none⟩ = some (.slice so sl sc) := ⟨c8, c7⟩
    clear HX hle hbr hl H3
    refine wp_region_noPanic ?_
    refine wp_region_held_drew (S := (fun x => x.cell? ⟨q, 8, none⟩ = some (.int .i64 bu) ∧ x.cell? ⟨q, 7, none⟩ = some (.slice so sl sc))) (by kernel_rfl) hS0 (fun hHeld => ?_)
    refine wpAnyH_take (i := 0) (oi := { dst := some 37, op := Op.move (Operand.tmp 0), type := 54, pos := "steps.go:40", after := #[], guard := none }) (v := ?_) rfl (by kernel_rfl) (by kernel_rfl) (by kernel_rfl) (fun _ _ _ h => h) (Or.inl ⟨by rfl, ?_⟩) (by assumption) ?_
    rotate_left
    · intro w hSw
      try dsimp only at hSw
      go_simp
      all_goals try with_reducible rfl
    try simp only [Act.put, List.setIfInBounds_toArray, List.set_cons_zero, List.set_cons_succ]
    refine wpAnyH_take (i := 1) (oi := { dst := some 38, op := Op.nilCheck (Operand.tmp 37), type := 0, pos := "steps.go:40", after := #[{ on := 0, ground := Ground.data }], guard := none }) (v := ?_) rfl (by kernel_rfl) (by kernel_rfl) (by kernel_rfl) (fun _ _ _ h => h) (Or.inl ⟨by rfl, ?_⟩) (by assumption) ?_
    rotate_left
    · intro w hSw
      try dsimp only at hSw
      go_simp
      all_goals try with_reducible rfl
    try simp only [Act.put, List.setIfInBounds_toArray, List.set_cons_zero, List.set_cons_succ]
    refine wpAnyH_take (i := 2) (oi := { dst := some 39, op := Op.fieldAddr 96 (Operand.tmp 38) 0, type := 0, pos := "steps.go:40", after := #[{ on := 1, ground := Ground.data }], guard := none }) (v := ?_) rfl (by kernel_rfl) (by kernel_rfl) (by kernel_rfl) (fun _ _ _ h => h) (Or.inl ⟨by rfl, ?_⟩) (by assumption) ?_
    rotate_left
    · intro w hSw
      try dsimp only at hSw
      go_simp
      all_goals try with_reducible rfl
    try simp only [Act.put, List.setIfInBounds_toArray, List.set_cons_zero, List.set_cons_succ]
    refine wpAnyH_take (i := 3) (oi := { dst := some 40, op := Op.fieldAddr 94 (Operand.tmp 39) 1, type := 0, pos := "steps.go:40", after := #[{ on := 2, ground := Ground.data }], guard := none }) (v := ?_) rfl (by kernel_rfl) (by kernel_rfl) (by kernel_rfl) (fun _ _ _ h => h) (Or.inl ⟨by rfl, ?_⟩) (by assumption) ?_
    rotate_left
    · intro w hSw
      try dsimp only at hSw
      go_simp
      all_goals try with_reducible rfl
    try simp only [Act.put, List.setIfInBounds_toArray, List.set_cons_zero, List.set_cons_succ]
    refine wpAnyH_take (i := 5) (oi := { dst := some 42, op := Op.move (Operand.tmp 0), type := 54, pos := "steps.go:40", after := #[], guard := none }) (v := ?_) rfl (by kernel_rfl) (by kernel_rfl) (by kernel_rfl) (fun _ _ _ h => h) (Or.inl ⟨by rfl, ?_⟩) (by assumption) ?_
    rotate_left
    · intro w hSw
      try dsimp only at hSw
      go_simp
      all_goals try with_reducible rfl
    try simp only [Act.put, List.setIfInBounds_toArray, List.set_cons_zero, List.set_cons_succ]
    refine wpAnyH_take (i := 6) (oi := { dst := some 43, op := Op.nilCheck (Operand.tmp 42), type := 0, pos := "steps.go:40", after := #[{ on := 5, ground := Ground.data }], guard := none }) (v := ?_) rfl (by kernel_rfl) (by kernel_rfl) (by kernel_rfl) (fun _ _ _ h => h) (Or.inl ⟨by rfl, ?_⟩) (by assumption) ?_
    rotate_left
    · intro w hSw
      try dsimp only at hSw
      go_simp
      all_goals try with_reducible rfl
    try simp only [Act.put, List.setIfInBounds_toArray, List.set_cons_zero, List.set_cons_succ]
    refine wpAnyH_take (i := 7) (oi := { dst := some 44, op := Op.fieldAddr 96 (Operand.tmp 43) 4, type := 0, pos := "steps.go:40", after := #[{ on := 6, ground := Ground.data }], guard := none }) (v := ?_) rfl (by kernel_rfl) (by kernel_rfl) (by kernel_rfl) (fun _ _ _ h => h) (Or.inl ⟨by rfl, ?_⟩) (by assumption) ?_
    rotate_left
    · intro w hSw
      try dsimp only at hSw
      go_simp
      all_goals try with_reducible rfl
    try simp only [Act.put, List.setIfInBounds_toArray, List.set_cons_zero, List.set_cons_succ]
    refine wpAnyH_take (i := 8) (oi := { dst := some 45, op := Op.load 3 (Operand.tmp 44), type := 3, pos := "steps.go:40", after := #[{ on := 7, ground := Ground.data }], guard := none }) (v := ?_) rfl (by kernel_rfl) (by kernel_rfl) (by kernel_rfl) (fun _ _ _ h => h) (Or.inl ⟨by rfl, ?_⟩) (by assumption) ?_
    rotate_left
    · intro w hSw
      try dsimp only at hSw
      go_simp
      all_goals try with_reducible rfl
    try simp only [Act.put, List.setIfInBounds_toArray, List.set_cons_zero, List.set_cons_succ]
    refine wpAnyH_take (i := 9) (oi := { dst := some 46, op := Op.move (Operand.tmp 0), type := 54, pos := "steps.go:40", after := #[], guard := none }) (v := ?_) rfl (by kernel_rfl) (by kernel_rfl) (by kernel_rfl) (fun _ _ _ h => h) (Or.inl ⟨by rfl, ?_⟩) (by assumption) ?_
    rotate_left
    · intro w hSw
      try dsimp only at hSw
      go_simp
      all_goals try with_reducible rfl
    try simp only [Act.put, List.setIfInBounds_toArray, List.set_cons_zero, List.set_cons_succ]
    refine wpAnyH_take (i := 10) (oi := { dst := some 47, op := Op.nilCheck (Operand.tmp 46), type := 0, pos := "steps.go:40", after := #[{ on := 9, ground := Ground.data }], guard := none }) (v := ?_) rfl (by kernel_rfl) (by kernel_rfl) (by kernel_rfl) (fun _ _ _ h => h) (Or.inl ⟨by rfl, ?_⟩) (by assumption) ?_
    rotate_left
    · intro w hSw
      try dsimp only at hSw
      go_simp
      all_goals try with_reducible rfl
    try simp only [Act.put, List.setIfInBounds_toArray, List.set_cons_zero, List.set_cons_succ]
    refine wpAnyH_take (i := 11) (oi := { dst := some 48, op := Op.fieldAddr 96 (Operand.tmp 47) 3, type := 0, pos := "steps.go:40", after := #[{ on := 10, ground := Ground.data }], guard := none }) (v := ?_) rfl (by kernel_rfl) (by kernel_rfl) (by kernel_rfl) (fun _ _ _ h => h) (Or.inl ⟨by rfl, ?_⟩) (by assumption) ?_
    rotate_left
    · intro w hSw
      try dsimp only at hSw
      go_simp
      all_goals try with_reducible rfl
    try simp only [Act.put, List.setIfInBounds_toArray, List.set_cons_zero, List.set_cons_succ]
    refine wpAnyH_take (i := 12) (oi := { dst := some 49, op := Op.load 23 (Operand.tmp 48), type := 23, pos := "steps.go:40", after := #[{ on := 11, ground := Ground.data }], guard := none }) (v := ?_) rfl (by kernel_rfl) (by kernel_rfl) (by kernel_rfl) (fun _ _ _ h => h) (Or.inl ⟨by rfl, ?_⟩) (by assumption) ?_
    rotate_left
    · intro w hSw
      try dsimp only at hSw
      go_simp
      all_goals try with_reducible rfl
    try simp only [Act.put, List.setIfInBounds_toArray, List.set_cons_zero, List.set_cons_succ]
    refine wpAnyH_take (i := 13) (oi := { dst := some 50, op := Op.call { callee := Callee.builtin Builtin.len, args := #[Operand.tmp 49], argTypes := #[23] }, type := 3, pos := "steps.go:40", after := #[{ on := 12, ground := Ground.data }], guard := none }) (v := ?_) rfl (by kernel_rfl) (by kernel_rfl) (by kernel_rfl) (fun _ _ _ h => h) (Or.inl ⟨by rfl, ?_⟩) (by assumption) ?_
    rotate_left
    · intro w hSw
      try dsimp only at hSw
      go_simp
      all_goals try with_reducible rfl
    try simp only [Act.put, List.setIfInBounds_toArray, List.set_cons_zero, List.set_cons_succ]
    refine wpAnyH_take (i := 14) (oi := { dst := some 51, op := Op.move (Operand.tmp 0), type := 54, pos := "steps.go:40", after := #[], guard := none }) (v := ?_) rfl (by kernel_rfl) (by kernel_rfl) (by kernel_rfl) (fun _ _ _ h => h) (Or.inl ⟨by rfl, ?_⟩) (by assumption) ?_
    rotate_left
    · intro w hSw
      try dsimp only at hSw
      go_simp
      all_goals try with_reducible rfl
    try simp only [Act.put, List.setIfInBounds_toArray, List.set_cons_zero, List.set_cons_succ]
    refine wpAnyH_take (i := 15) (oi := { dst := some 52, op := Op.nilCheck (Operand.tmp 51), type := 0, pos := "steps.go:40", after := #[{ on := 14, ground := Ground.data }], guard := none }) (v := ?_) rfl (by kernel_rfl) (by kernel_rfl) (by kernel_rfl) (fun _ _ _ h => h) (Or.inl ⟨by rfl, ?_⟩) (by assumption) ?_
    rotate_left
    · intro w hSw
      try dsimp only at hSw
      go_simp
      all_goals try with_reducible rfl
    try simp only [Act.put, List.setIfInBounds_toArray, List.set_cons_zero, List.set_cons_succ]
    refine wpAnyH_take (i := 16) (oi := { dst := some 53, op := Op.fieldAddr 96 (Operand.tmp 52) 0, type := 0, pos := "steps.go:40", after := #[{ on := 15, ground := Ground.data }], guard := none }) (v := ?_) rfl (by kernel_rfl) (by kernel_rfl) (by kernel_rfl) (fun _ _ _ h => h) (Or.inl ⟨by rfl, ?_⟩) (by assumption) ?_
    rotate_left
    · intro w hSw
      try dsimp only at hSw
      go_simp
      all_goals try with_reducible rfl
    try simp only [Act.put, List.setIfInBounds_toArray, List.set_cons_zero, List.set_cons_succ]
    refine wpAnyH_take (i := 17) (oi := { dst := some 54, op := Op.fieldAddr 94 (Operand.tmp 53) 1, type := 0, pos := "steps.go:40", after := #[{ on := 16, ground := Ground.data }], guard := none }) (v := ?_) rfl (by kernel_rfl) (by kernel_rfl) (by kernel_rfl) (fun _ _ _ h => h) (Or.inl ⟨by rfl, ?_⟩) (by assumption) ?_
    rotate_left
    · intro w hSw
      try dsimp only at hSw
      go_simp
      all_goals try with_reducible rfl
    try simp only [Act.put, List.setIfInBounds_toArray, List.set_cons_zero, List.set_cons_succ]
    refine wpAnyH_ready (rs := [4, 18]) (by kernel_rfl) (by simp) ?_
    refine AllReadyH.cons (o := { dst := some 41, op := Op.load 3 (Operand.tmp 40), type := 3, pos := "steps.go:40", after := #[{ on := 3, ground := Ground.data }], guard := none }) rfl (fun K hK => ?_) (AllReadyH.cons (o := { dst := some 55, op := Op.load 3 (Operand.tmp 54), type := 3, pos := "steps.go:40", after := #[{ on := 17, ground := Ground.data }], guard := none }) rfl (fun K hK => ?_) AllReadyH.nil)
    · go_simp
      refine hK.out _ _ (by first | exact hHeld | go_keep) (fun hHeld => ?_)
      clear hK K
      try simp only [Act.put, List.setIfInBounds_toArray, List.set_cons_zero, List.set_cons_succ]
      refine wpAnyH_ready (rs := [18]) (by kernel_rfl) (by simp) ?_
      refine AllReadyH.cons (o := { dst := some 55, op := Op.load 3 (Operand.tmp 54), type := 3, pos := "steps.go:40", after := #[{ on := 17, ground := Ground.data }], guard := none }) rfl (fun K hK => ?_) AllReadyH.nil
      go_simp
      refine hK.out _ _ (by first | exact hHeld | go_keep) (fun hHeld => ?_)
      clear hK K
      try simp only [Act.put, List.setIfInBounds_toArray, List.set_cons_zero, List.set_cons_succ]
      refine wpAnyH_take (i := 19) (oi := { dst := some 56, op := Op.binOp BinOp.sub 3 (Operand.tmp 50) (Operand.tmp 55) 3, type := 3, pos := "steps.go:40", after := #[{ on := 13, ground := Ground.data }, { on := 18, ground := Ground.data }], guard := none }) (v := ?_) rfl (by kernel_rfl) (by kernel_rfl) (by kernel_rfl) (fun _ _ _ h => h) (Or.inl ⟨by rfl, ?_⟩) (by assumption) ?_
      rotate_left
      · intro w hSw
        try dsimp only at hSw
        go_simp
        all_goals try with_reducible rfl
      try simp only [Act.put, List.setIfInBounds_toArray, List.set_cons_zero, List.set_cons_succ]
      refine wpAnyH_take (i := 20) (oi := { dst := some 57, op := Op.call { callee := Callee.builtin Builtin.min, args := #[Operand.tmp 45, Operand.tmp 56], argTypes := #[3, 3] }, type := 3, pos := "steps.go:40", after := #[{ on := 8, ground := Ground.data }, { on := 19, ground := Ground.data }], guard := none }) (v := ?_) rfl (by kernel_rfl) (by kernel_rfl) (by kernel_rfl) (fun _ _ _ h => h) (Or.inl ⟨by rfl, ?_⟩) (by assumption) ?_
      rotate_left
      · intro w hSw
        try dsimp only at hSw
        go_simp
        all_goals try with_reducible rfl
      try simp only [Act.put, List.setIfInBounds_toArray, List.set_cons_zero, List.set_cons_succ]
      refine wpAnyH_take (i := 21) (oi := { dst := some 58, op := Op.binOp BinOp.add 3 (Operand.tmp 41) (Operand.tmp 57) 3, type := 3, pos := "steps.go:40", after := #[{ on := 4, ground := Ground.data }, { on := 20, ground := Ground.data }], guard := none }) (v := ?_) rfl (by kernel_rfl) (by kernel_rfl) (by kernel_rfl) (fun _ _ _ h => h) (Or.inl ⟨by rfl, ?_⟩) (by assumption) ?_
      rotate_left
      · intro w hSw
        try dsimp only at hSw
        go_simp
        all_goals try with_reducible rfl
      try simp only [Act.put, List.setIfInBounds_toArray, List.set_cons_zero, List.set_cons_succ]
      refine wpAnyH_take (i := 22) (oi := { dst := some 59, op := Op.nilCheck (Operand.tmp 37), type := 0, pos := "steps.go:40", after := #[{ on := 0, ground := Ground.data }, { on := 0, ground := Ground.phase }, { on := 1, ground := Ground.phase }, { on := 2, ground := Ground.phase }, { on := 3, ground := Ground.phase }, { on := 4, ground := Ground.phase }, { on := 5, ground := Ground.phase }, { on := 6, ground := Ground.phase }, { on := 7, ground := Ground.phase }, { on := 8, ground := Ground.phase }, { on := 9, ground := Ground.phase }, { on := 10, ground := Ground.phase }, { on := 11, ground := Ground.phase }, { on := 12, ground := Ground.phase }, { on := 13, ground := Ground.phase }, { on := 14, ground := Ground.phase }, { on := 15, ground := Ground.phase }, { on := 16, ground := Ground.phase }, { on := 17, ground := Ground.phase }, { on := 18, ground := Ground.phase }, { on := 19, ground := Ground.phase }, { on := 20, ground := Ground.phase }, { on := 21, ground := Ground.phase }], guard := none }) (v := ?_) rfl (by kernel_rfl) (by kernel_rfl) (by kernel_rfl) (fun _ _ _ h => h) (Or.inl ⟨by rfl, ?_⟩) (by assumption) ?_
      rotate_left
      · intro w hSw
        try dsimp only at hSw
        go_simp
        all_goals try with_reducible rfl
      try simp only [Act.put, List.setIfInBounds_toArray, List.set_cons_zero, List.set_cons_succ]
      refine wpAnyH_take (i := 23) (oi := { dst := some 60, op := Op.fieldAddr 96 (Operand.tmp 59) 0, type := 0, pos := "steps.go:40", after := #[{ on := 22, ground := Ground.data }, { on := 0, ground := Ground.phase }, { on := 1, ground := Ground.phase }, { on := 2, ground := Ground.phase }, { on := 3, ground := Ground.phase }, { on := 4, ground := Ground.phase }, { on := 5, ground := Ground.phase }, { on := 6, ground := Ground.phase }, { on := 7, ground := Ground.phase }, { on := 8, ground := Ground.phase }, { on := 9, ground := Ground.phase }, { on := 10, ground := Ground.phase }, { on := 11, ground := Ground.phase }, { on := 12, ground := Ground.phase }, { on := 13, ground := Ground.phase }, { on := 14, ground := Ground.phase }, { on := 15, ground := Ground.phase }, { on := 16, ground := Ground.phase }, { on := 17, ground := Ground.phase }, { on := 18, ground := Ground.phase }, { on := 19, ground := Ground.phase }, { on := 20, ground := Ground.phase }, { on := 21, ground := Ground.phase }], guard := none }) (v := ?_) rfl (by kernel_rfl) (by kernel_rfl) (by kernel_rfl) (fun _ _ _ h => h) (Or.inl ⟨by rfl, ?_⟩) (by assumption) ?_
      rotate_left
      · intro w hSw
        try dsimp only at hSw
        go_simp
        all_goals try with_reducible rfl
      try simp only [Act.put, List.setIfInBounds_toArray, List.set_cons_zero, List.set_cons_succ]
      refine wpAnyH_take (i := 24) (oi := { dst := some 61, op := Op.fieldAddr 94 (Operand.tmp 60) 1, type := 0, pos := "steps.go:40", after := #[{ on := 23, ground := Ground.data }, { on := 0, ground := Ground.phase }, { on := 1, ground := Ground.phase }, { on := 2, ground := Ground.phase }, { on := 3, ground := Ground.phase }, { on := 4, ground := Ground.phase }, { on := 5, ground := Ground.phase }, { on := 6, ground := Ground.phase }, { on := 7, ground := Ground.phase }, { on := 8, ground := Ground.phase }, { on := 9, ground := Ground.phase }, { on := 10, ground := Ground.phase }, { on := 11, ground := Ground.phase }, { on := 12, ground := Ground.phase }, { on := 13, ground := Ground.phase }, { on := 14, ground := Ground.phase }, { on := 15, ground := Ground.phase }, { on := 16, ground := Ground.phase }, { on := 17, ground := Ground.phase }, { on := 18, ground := Ground.phase }, { on := 19, ground := Ground.phase }, { on := 20, ground := Ground.phase }, { on := 21, ground := Ground.phase }], guard := none }) (v := ?_) rfl (by kernel_rfl) (by kernel_rfl) (by kernel_rfl) (fun _ _ _ h => h) (Or.inl ⟨by rfl, ?_⟩) (by assumption) ?_
      rotate_left
      · intro w hSw
        try dsimp only at hSw
        go_simp
        all_goals try with_reducible rfl
      try simp only [Act.put, List.setIfInBounds_toArray, List.set_cons_zero, List.set_cons_succ]
      refine wpAnyH_ready (rs := [25]) (by kernel_rfl) (by simp) ?_
      refine AllReadyH.cons (o := { dst := none, op := Op.store 3 (Operand.tmp 61) (Operand.tmp 58), type := 0, pos := "steps.go:40", after := #[{ on := 24, ground := Ground.data }, { on := 21, ground := Ground.data }, { on := 0, ground := Ground.phase }, { on := 1, ground := Ground.phase }, { on := 2, ground := Ground.phase }, { on := 3, ground := Ground.phase }, { on := 4, ground := Ground.phase }, { on := 5, ground := Ground.phase }, { on := 6, ground := Ground.phase }, { on := 7, ground := Ground.phase }, { on := 8, ground := Ground.phase }, { on := 9, ground := Ground.phase }, { on := 10, ground := Ground.phase }, { on := 11, ground := Ground.phase }, { on := 12, ground := Ground.phase }, { on := 13, ground := Ground.phase }, { on := 14, ground := Ground.phase }, { on := 15, ground := Ground.phase }, { on := 16, ground := Ground.phase }, { on := 17, ground := Ground.phase }, { on := 18, ground := Ground.phase }, { on := 19, ground := Ground.phase }, { on := 20, ground := Ground.phase }, { on := 21, ground := Ground.phase }], guard := none }) rfl (fun K hK => ?_) AllReadyH.nil
      go_simp
      refine hK.out _ _ (by first | exact hSt.out _ | go_keep) (fun hHeld => ?_)
      clear hK K
      try simp only [Act.put, List.setIfInBounds_toArray, List.set_cons_zero, List.set_cons_succ]
      refine wpAnyH_done (by kernel_rfl) ?_ _
      refine NoPanic.normal ?_
      clear hHeld hS0 hw4 hw5
      go_wp2_with fail
      first | go_end0 | refine bodyPost_ret (results_none rfl _ _ _) rfl ?_
      exact ⟨rfl, HF.out⟩
    · go_simp
      refine hK.out _ _ (by first | exact hHeld | go_keep) (fun hHeld => ?_)
      clear hK K
      try simp only [Act.put, List.setIfInBounds_toArray, List.set_cons_zero, List.set_cons_succ]
      refine wpAnyH_take (i := 19) (oi := { dst := some 56, op := Op.binOp BinOp.sub 3 (Operand.tmp 50) (Operand.tmp 55) 3, type := 3, pos := "steps.go:40", after := #[{ on := 13, ground := Ground.data }, { on := 18, ground := Ground.data }], guard := none }) (v := ?_) rfl (by kernel_rfl) (by kernel_rfl) (by kernel_rfl) (fun _ _ _ h => h) (Or.inl ⟨by rfl, ?_⟩) (by assumption) ?_
      rotate_left
      · intro w hSw
        try dsimp only at hSw
        go_simp
        all_goals try with_reducible rfl
      try simp only [Act.put, List.setIfInBounds_toArray, List.set_cons_zero, List.set_cons_succ]
      refine wpAnyH_take (i := 20) (oi := { dst := some 57, op := Op.call { callee := Callee.builtin Builtin.min, args := #[Operand.tmp 45, Operand.tmp 56], argTypes := #[3, 3] }, type := 3, pos := "steps.go:40", after := #[{ on := 8, ground := Ground.data }, { on := 19, ground := Ground.data }], guard := none }) (v := ?_) rfl (by kernel_rfl) (by kernel_rfl) (by kernel_rfl) (fun _ _ _ h => h) (Or.inl ⟨by rfl, ?_⟩) (by assumption) ?_
      rotate_left
      · intro w hSw
        try dsimp only at hSw
        go_simp
        all_goals try with_reducible rfl
      try simp only [Act.put, List.setIfInBounds_toArray, List.set_cons_zero, List.set_cons_succ]
      refine wpAnyH_ready (rs := [4]) (by kernel_rfl) (by simp) ?_
      refine AllReadyH.cons (o := { dst := some 41, op := Op.load 3 (Operand.tmp 40), type := 3, pos := "steps.go:40", after := #[{ on := 3, ground := Ground.data }], guard := none }) rfl (fun K hK => ?_) AllReadyH.nil
      go_simp
      refine hK.out _ _ (by first | exact hHeld | go_keep) (fun hHeld => ?_)
      clear hK K
      try simp only [Act.put, List.setIfInBounds_toArray, List.set_cons_zero, List.set_cons_succ]
      refine wpAnyH_take (i := 21) (oi := { dst := some 58, op := Op.binOp BinOp.add 3 (Operand.tmp 41) (Operand.tmp 57) 3, type := 3, pos := "steps.go:40", after := #[{ on := 4, ground := Ground.data }, { on := 20, ground := Ground.data }], guard := none }) (v := ?_) rfl (by kernel_rfl) (by kernel_rfl) (by kernel_rfl) (fun _ _ _ h => h) (Or.inl ⟨by rfl, ?_⟩) (by assumption) ?_
      rotate_left
      · intro w hSw
        try dsimp only at hSw
        go_simp
        all_goals try with_reducible rfl
      try simp only [Act.put, List.setIfInBounds_toArray, List.set_cons_zero, List.set_cons_succ]
      refine wpAnyH_take (i := 22) (oi := { dst := some 59, op := Op.nilCheck (Operand.tmp 37), type := 0, pos := "steps.go:40", after := #[{ on := 0, ground := Ground.data }, { on := 0, ground := Ground.phase }, { on := 1, ground := Ground.phase }, { on := 2, ground := Ground.phase }, { on := 3, ground := Ground.phase }, { on := 4, ground := Ground.phase }, { on := 5, ground := Ground.phase }, { on := 6, ground := Ground.phase }, { on := 7, ground := Ground.phase }, { on := 8, ground := Ground.phase }, { on := 9, ground := Ground.phase }, { on := 10, ground := Ground.phase }, { on := 11, ground := Ground.phase }, { on := 12, ground := Ground.phase }, { on := 13, ground := Ground.phase }, { on := 14, ground := Ground.phase }, { on := 15, ground := Ground.phase }, { on := 16, ground := Ground.phase }, { on := 17, ground := Ground.phase }, { on := 18, ground := Ground.phase }, { on := 19, ground := Ground.phase }, { on := 20, ground := Ground.phase }, { on := 21, ground := Ground.phase }], guard := none }) (v := ?_) rfl (by kernel_rfl) (by kernel_rfl) (by kernel_rfl) (fun _ _ _ h => h) (Or.inl ⟨by rfl, ?_⟩) (by assumption) ?_
      rotate_left
      · intro w hSw
        try dsimp only at hSw
        go_simp
        all_goals try with_reducible rfl
      try simp only [Act.put, List.setIfInBounds_toArray, List.set_cons_zero, List.set_cons_succ]
      refine wpAnyH_take (i := 23) (oi := { dst := some 60, op := Op.fieldAddr 96 (Operand.tmp 59) 0, type := 0, pos := "steps.go:40", after := #[{ on := 22, ground := Ground.data }, { on := 0, ground := Ground.phase }, { on := 1, ground := Ground.phase }, { on := 2, ground := Ground.phase }, { on := 3, ground := Ground.phase }, { on := 4, ground := Ground.phase }, { on := 5, ground := Ground.phase }, { on := 6, ground := Ground.phase }, { on := 7, ground := Ground.phase }, { on := 8, ground := Ground.phase }, { on := 9, ground := Ground.phase }, { on := 10, ground := Ground.phase }, { on := 11, ground := Ground.phase }, { on := 12, ground := Ground.phase }, { on := 13, ground := Ground.phase }, { on := 14, ground := Ground.phase }, { on := 15, ground := Ground.phase }, { on := 16, ground := Ground.phase }, { on := 17, ground := Ground.phase }, { on := 18, ground := Ground.phase }, { on := 19, ground := Ground.phase }, { on := 20, ground := Ground.phase }, { on := 21, ground := Ground.phase }], guard := none }) (v := ?_) rfl (by kernel_rfl) (by kernel_rfl) (by kernel_rfl) (fun _ _ _ h => h) (Or.inl ⟨by rfl, ?_⟩) (by assumption) ?_
      rotate_left
      · intro w hSw
        try dsimp only at hSw
        go_simp
        all_goals try with_reducible rfl
      try simp only [Act.put, List.setIfInBounds_toArray, List.set_cons_zero, List.set_cons_succ]
      refine wpAnyH_take (i := 24) (oi := { dst := some 61, op := Op.fieldAddr 94 (Operand.tmp 60) 1, type := 0, pos := "steps.go:40", after := #[{ on := 23, ground := Ground.data }, { on := 0, ground := Ground.phase }, { on := 1, ground := Ground.phase }, { on := 2, ground := Ground.phase }, { on := 3, ground := Ground.phase }, { on := 4, ground := Ground.phase }, { on := 5, ground := Ground.phase }, { on := 6, ground := Ground.phase }, { on := 7, ground := Ground.phase }, { on := 8, ground := Ground.phase }, { on := 9, ground := Ground.phase }, { on := 10, ground := Ground.phase }, { on := 11, ground := Ground.phase }, { on := 12, ground := Ground.phase }, { on := 13, ground := Ground.phase }, { on := 14, ground := Ground.phase }, { on := 15, ground := Ground.phase }, { on := 16, ground := Ground.phase }, { on := 17, ground := Ground.phase }, { on := 18, ground := Ground.phase }, { on := 19, ground := Ground.phase }, { on := 20, ground := Ground.phase }, { on := 21, ground := Ground.phase }], guard := none }) (v := ?_) rfl (by kernel_rfl) (by kernel_rfl) (by kernel_rfl) (fun _ _ _ h => h) (Or.inl ⟨by rfl, ?_⟩) (by assumption) ?_
      rotate_left
      · intro w hSw
        try dsimp only at hSw
        go_simp
        all_goals try with_reducible rfl
      try simp only [Act.put, List.setIfInBounds_toArray, List.set_cons_zero, List.set_cons_succ]
      refine wpAnyH_ready (rs := [25]) (by kernel_rfl) (by simp) ?_
      refine AllReadyH.cons (o := { dst := none, op := Op.store 3 (Operand.tmp 61) (Operand.tmp 58), type := 0, pos := "steps.go:40", after := #[{ on := 24, ground := Ground.data }, { on := 21, ground := Ground.data }, { on := 0, ground := Ground.phase }, { on := 1, ground := Ground.phase }, { on := 2, ground := Ground.phase }, { on := 3, ground := Ground.phase }, { on := 4, ground := Ground.phase }, { on := 5, ground := Ground.phase }, { on := 6, ground := Ground.phase }, { on := 7, ground := Ground.phase }, { on := 8, ground := Ground.phase }, { on := 9, ground := Ground.phase }, { on := 10, ground := Ground.phase }, { on := 11, ground := Ground.phase }, { on := 12, ground := Ground.phase }, { on := 13, ground := Ground.phase }, { on := 14, ground := Ground.phase }, { on := 15, ground := Ground.phase }, { on := 16, ground := Ground.phase }, { on := 17, ground := Ground.phase }, { on := 18, ground := Ground.phase }, { on := 19, ground := Ground.phase }, { on := 20, ground := Ground.phase }, { on := 21, ground := Ground.phase }], guard := none }) rfl (fun K hK => ?_) AllReadyH.nil
      go_simp
      refine hK.out _ _ (by first | exact hSt.out _ | go_keep) (fun hHeld => ?_)
      clear hK K
      try simp only [Act.put, List.setIfInBounds_toArray, List.set_cons_zero, List.set_cons_succ]
      refine wpAnyH_done (by kernel_rfl) ?_ _
      refine NoPanic.normal ?_
      clear hHeld hS0 hw4 hw5
      go_wp2_with fail
      first | go_end0 | refine bodyPost_ret (results_none rfl _ _ _) rfl ?_
      exact ⟨rfl, HF.out⟩
  · have hdx : decide (x = ym) = false := by simpa using hx
    have HN : Hid (d.next x = { d with ph := 1 }) := by
      unfold Nd.next Hid; simp only [HD.out]
      rw [if_neg (by rw [← HYM.out]; exact hx)]
    have HE : Hid (StN P q ((d.next x).obj (.slice so sl sc)) (w2.setCell ⟨q, 9, none⟩ (.func (.func 31) #[] #[]))) := hide ((StN.of hp2 hq (Below.refl _ _)).more (by rw [HN.out]; unfold Nd.obj NObj; simp only [← HLF.out, ← HBU.out, nxF]; rfl))
    clear hp2 hq hx
    rw [hdx]
    go_wp2_with fail
    first | go_end0 | refine bodyPost_ret (results_none rfl _ _ _) rfl ?_
    exact ⟨rfl, HE.out⟩

end
end Go.Proofs.Ytdjkidgkeekenaa
