/- The reference's left and right. -/
import Derived.Test.YtfgchkkljlbmcaaCopied
import Derived.Deep.RegionHeld3
namespace Go.Proofs.Ytfgchkkljlbmcaa
open Go.RowKit Go.Lib Go.MuLone

def rLeft (a : Acc) (s : Int) : Int :=
  if a.kind = 2 ∨ a.kind = 5 then a.put else if a.kind = 4 then IntKind.u64.wrap (s + a.put) else if a.kind = 3 then (if a.want = s then a.put else s) else s

set_option maxRecDepth 100000 in
theorem left_any (a : Acc) (s : Int) (w : World) :
    Calls Try.prog 58 #[.agg #[.int .i64 a.who, .int .i64 a.kind, .int .i64 a.cell, .int .u64 a.want, .int .u64 a.put, .int .u64 a.seen, .int .u64 a.left, .bool a.ok], .int .u64 s] w fun r w' => r = .returned (.int .u64 (rLeft a s)) ∧ Below w.heap.size w w' := by
  obtain ⟨who, kind, cell, want, put, seen, left, ok⟩ := a
  simp only
  by_cases h2 : kind = 2
  · subst h2
    go_enter Try.func58, Try.ntmps58
    go_wp2
    go_ret
    exact ⟨rfl, (Below.refl _ _).alloc (Nat.le_refl _) _⟩
  by_cases h5 : kind = 5
  · subst h5
    clear h2
    go_enter Try.func58, Try.ntmps58
    go_wp2
    go_ret
    exact ⟨rfl, (Below.refl _ _).alloc (Nat.le_refl _) _⟩
  by_cases h4 : kind = 4
  · subst h4
    clear h2 h5
    go_enter Try.func58, Try.ntmps58
    go_wp2
    go_ret
    exact ⟨rfl, (Below.refl _ _).alloc (Nat.le_refl _) _⟩
  by_cases h3 : kind = 3
  · subst h3
    clear h2 h5 h4
    by_cases hw : want = s
    · have hwb : (want == s) = true := by simp [hw]
      have HW := hide hw
      clear hw
      go_enter Try.func58, Try.ntmps58
      go_wp2
      go_ret
      refine ⟨?_, (Below.refl _ _).alloc (Nat.le_refl _) _⟩
      rw [show rLeft ⟨who, 3, cell, want, put, seen, left, ok⟩ s = put by simp [rLeft, HW.out]]
      rfl
    · have hwb : (want == s) = false := by simp [hw]
      have HW := hide hw
      clear hw
      go_enter Try.func58, Try.ntmps58
      go_wp2
      go_ret
      refine ⟨?_, (Below.refl _ _).alloc (Nat.le_refl _) _⟩
      rw [show rLeft ⟨who, 3, cell, want, put, seen, left, ok⟩ s = s by simp [rLeft, HW.out]]
      rfl
  · have b2 : (kind == 2) = false := by simp [h2]
    have b5 : (kind == 5) = false := by simp [h5]
    have b4 : (kind == 4) = false := by simp [h4]
    have b3 : (kind == 3) = false := by simp [h3]
    have HR := hide (show rLeft ⟨who, kind, cell, want, put, seen, left, ok⟩ s = s by simp [rLeft, h2, h5, h4, h3])
    clear h2 h5 h4 h3
    go_enter Try.func58, Try.ntmps58
    go_wp2
    go_ret
    refine ⟨?_, (Below.refl _ _).alloc (Nat.le_refl _) _⟩
    rw [HR.out]
    rfl

/-- What right asks, held against an access carried out. -/
theorem right_iff (a : Acc) (s : Int) (hk : known a.kind = true) : (known a.kind && accEq (carry a s) a) =
    (a.seen == s && (a.left == rLeft a s && (if a.kind = 3 then a.ok == (a.want == s) else (a.ok && (a.want == 0 && (if a.kind = 1 then a.put == 0 else true)))))) := by
  obtain ⟨who, kind, cell, want, put, seen, left, ok⟩ := a
  simp only [known, decide_eq_true_eq] at hk
  rw [Bool.eq_iff_iff, Bool.and_eq_true, accEq_iff]
  rcases (show kind = 1 ∨ kind = 2 ∨ kind = 3 ∨ kind = 4 ∨ kind = 5 by omega) with rfl | rfl | rfl | rfl | rfl
  · simp [carry, known, rLeft]
    constructor
    · rintro ⟨rfl, rfl, rfl, rfl, rfl⟩; simp
    · rintro ⟨rfl, rfl, rfl, rfl, rfl⟩; simp
  · simp [carry, known, rLeft]
    constructor
    · rintro ⟨rfl, rfl, rfl, rfl⟩; simp
    · rintro ⟨rfl, rfl, rfl, rfl⟩; simp
  · by_cases h : s = want
    · subst h
      simp [carry, known, rLeft]
      constructor
      · rintro ⟨rfl, rfl, rfl⟩; simp
      · rintro ⟨rfl, rfl, h⟩; simp [h]
    · have h' : ¬ want = s := fun e => h e.symm
      simp [carry, known, rLeft, h, h']
      constructor
      · rintro ⟨rfl, rfl, rfl⟩; simp [h']
      · rintro ⟨rfl, rfl, e⟩; simp [e, h']
  · simp [carry, known, rLeft]
    constructor
    · rintro ⟨rfl, rfl, rfl, rfl⟩; simp
    · rintro ⟨rfl, rfl, rfl, rfl⟩; simp
  · simp [carry, known, rLeft]
    constructor
    · rintro ⟨rfl, rfl, rfl, rfl⟩; simp
    · rintro ⟨rfl, rfl, rfl, rfl⟩; simp
theorem left_keep {w w1 : World} {a0 a1 a2 a3 a4 a5 a6 a7 : Value} {X : World} (hb : Below X.heap.size X w1) (hX : X = (w.alloc (.cells #[a0, a1, a2, a3, a4, a5, a6, a7] 31)).drew) :
    w1.cell? ⟨w.heap.size, 0, none⟩ = some a0 ∧ w1.cell? ⟨w.heap.size, 1, none⟩ = some a1 ∧ w1.cell? ⟨w.heap.size, 2, none⟩ = some a2 ∧ w1.cell? ⟨w.heap.size, 3, none⟩ = some a3 ∧ w1.cell? ⟨w.heap.size, 4, none⟩ = some a4 ∧ w1.cell? ⟨w.heap.size, 5, none⟩ = some a5 ∧ w1.cell? ⟨w.heap.size, 6, none⟩ = some a6 ∧ w1.cell? ⟨w.heap.size, 7, none⟩ = some a7 := by
  subst hX
  have h : w1.heap[w.heap.size]? = some (.cells #[a0, a1, a2, a3, a4, a5, a6, a7] 31 (0, 0)) := by
    refine (hb.block _ (by simp)).trans ?_
    show (w.alloc _).heap[w.heap.size]? = _
    exact heap_new w _
  exact ⟨cell_of h rfl, cell_of h rfl, cell_of h rfl, cell_of h rfl, cell_of h rfl, cell_of h rfl, cell_of h rfl, cell_of h rfl⟩
theorem left_below {w w1 : World} {o : Obj} (h : Below (w.alloc o).drew.heap.size (w.alloc o).drew w1) : Below w.heap.size w w1 :=
  (((Below.refl _ w).alloc (Nat.le_refl _) o).drew).trans (h.mono (by simp))

set_option maxRecDepth 100000 in
set_option maxHeartbeats 1000000 in
theorem right1 (who cell want put seen left s : Int) (ok : Bool) (w : World) :
    Calls Try.prog 43 #[.agg #[.int .i64 who, .int .i64 1, .int .i64 cell, .int .u64 want, .int .u64 put, .int .u64 seen, .int .u64 left, .bool ok], .int .u64 s] w fun r w' =>
      r = .returned (.bool (known 1 && accEq (carry ⟨who, 1, cell, want, put, seen, left, ok⟩ s) ⟨who, 1, cell, want, put, seen, left, ok⟩)) ∧ Below w.heap.size w w' := by
  have HR := hide (right_iff ⟨who, 1, cell, want, put, seen, left, ok⟩ s rfl)
  obtain ⟨L, hL⟩ : ∃ L, rLeft ⟨who, 1, cell, want, put, seen, left, ok⟩ s = L := ⟨_, rfl⟩
  have HLf := hide (fun x => left_any ⟨who, 1, cell, want, put, seen, left, ok⟩ s x)
  rw [hL] at HR HLf
  clear hL
  by_cases hs : seen = s
  · have hsb : (seen != s) = false := by simp [hs]
    have HS := hide (show (seen == s) = true by simp [hs])
    clear hs
    by_cases hl : left = L
    · have hlb : (left != L) = false := by simp [hl]
      have HLL := hide (show (left == L) = true by simp [hl])
      clear hl
      go_enter Try.func43, Try.ntmps43
      go_wp2_with fail
      go_region_held3 (fun x => x.cell? ⟨w.heap.size, 0, none⟩ = some (.int .i64 who) ∧ x.cell? ⟨w.heap.size, 1, none⟩ = some (.int .i64 1) ∧ x.cell? ⟨w.heap.size, 2, none⟩ = some (.int .i64 cell) ∧ x.cell? ⟨w.heap.size, 3, none⟩ = some (.int .u64 want) ∧ x.cell? ⟨w.heap.size, 4, none⟩ = some (.int .u64 put) ∧ x.cell? ⟨w.heap.size, 5, none⟩ = some (.int .u64 seen) ∧ x.cell? ⟨w.heap.size, 6, none⟩ = some (.int .u64 left) ∧ x.cell? ⟨w.heap.size, 7, none⟩ = some (.bool ok)) (first | go_keep | exact ⟨z0, z1, z2, z3, z4, z5, z6, z7⟩)
          ((go_at_call 58; refine (HLf.out _).mono ?_; rintro e w1 ⟨rfl, hbel⟩; obtain ⟨z0, z1, z2, z3, z4, z5, z6, z7⟩ := left_keep (w1 := w1) hbel rfl; have HB1 := hide hbel; clear hbel))
      all_goals
        cases ok
        · go_wp2_with fail
          go_ret
          refine ⟨?_, left_below HB1.out⟩
          rw [HR.out, HS.out, HLL.out]
          simp
        · by_cases hw : want = 0
          · have hwb : (want == 0) = true := by simp [hw]
            have HW := hide hwb
            clear hw
            by_cases hp : put = 0
            · have hpb : (put == 0) = true := by simp [hp]
              have HPp := hide hpb
              clear hp
              go_wp2_with fail
              go_ret
              refine ⟨?_, left_below HB1.out⟩
              rw [HR.out, HS.out, HLL.out]
              simp [HW.out, HPp.out]
            · have hpb : (put == 0) = false := by simp [hp]
              have HPp := hide hpb
              clear hp
              go_wp2_with fail
              go_ret
              refine ⟨?_, left_below HB1.out⟩
              rw [HR.out, HS.out, HLL.out]
              simp [HW.out, HPp.out]
          · have hwb : (want == 0) = false := by simp [hw]
            have HW := hide hwb
            clear hw
            go_wp2_with fail
            go_ret
            refine ⟨?_, left_below HB1.out⟩
            rw [HR.out, HS.out, HLL.out]
            simp [HW.out]
    · have hlb : (left != L) = true := by simp [hl]
      have HLL := hide (show (left == L) = false by simp [hl])
      clear hl
      go_enter Try.func43, Try.ntmps43
      go_wp2_with fail
      go_region_held3 (fun x => x.cell? ⟨w.heap.size, 0, none⟩ = some (.int .i64 who) ∧ x.cell? ⟨w.heap.size, 1, none⟩ = some (.int .i64 1) ∧ x.cell? ⟨w.heap.size, 2, none⟩ = some (.int .i64 cell) ∧ x.cell? ⟨w.heap.size, 3, none⟩ = some (.int .u64 want) ∧ x.cell? ⟨w.heap.size, 4, none⟩ = some (.int .u64 put) ∧ x.cell? ⟨w.heap.size, 5, none⟩ = some (.int .u64 seen) ∧ x.cell? ⟨w.heap.size, 6, none⟩ = some (.int .u64 left) ∧ x.cell? ⟨w.heap.size, 7, none⟩ = some (.bool ok)) (first | go_keep | exact ⟨z0, z1, z2, z3, z4, z5, z6, z7⟩)
          ((go_at_call 58; refine (HLf.out _).mono ?_; rintro e w1 ⟨rfl, hbel⟩; obtain ⟨z0, z1, z2, z3, z4, z5, z6, z7⟩ := left_keep (w1 := w1) hbel rfl; have HB1 := hide hbel; clear hbel))
      all_goals
        go_wp2_with fail
        go_ret
        refine ⟨?_, left_below HB1.out⟩
        rw [HR.out, HLL.out]
        simp
  · have hsb : (seen != s) = true := by simp [hs]
    have HS := hide (show (seen == s) = false by simp [hs])
    clear hs HLf
    go_enter Try.func43, Try.ntmps43
    go_wp2_with fail
    go_region
    all_goals
      go_wp2_with fail
      go_ret
      refine ⟨?_, ((Below.refl _ _).alloc (Nat.le_refl _) _).drew⟩
      rw [HR.out, HS.out]
      simp

set_option maxRecDepth 100000 in
set_option maxHeartbeats 1000000 in
theorem right2 (who cell want put seen left s : Int) (ok : Bool) (w : World) :
    Calls Try.prog 43 #[.agg #[.int .i64 who, .int .i64 2, .int .i64 cell, .int .u64 want, .int .u64 put, .int .u64 seen, .int .u64 left, .bool ok], .int .u64 s] w fun r w' =>
      r = .returned (.bool (known 2 && accEq (carry ⟨who, 2, cell, want, put, seen, left, ok⟩ s) ⟨who, 2, cell, want, put, seen, left, ok⟩)) ∧ Below w.heap.size w w' := by
  have HR := hide (right_iff ⟨who, 2, cell, want, put, seen, left, ok⟩ s rfl)
  obtain ⟨L, hL⟩ : ∃ L, rLeft ⟨who, 2, cell, want, put, seen, left, ok⟩ s = L := ⟨_, rfl⟩
  have HLf := hide (fun x => left_any ⟨who, 2, cell, want, put, seen, left, ok⟩ s x)
  rw [hL] at HR HLf
  clear hL
  by_cases hs : seen = s
  · have hsb : (seen != s) = false := by simp [hs]
    have HS := hide (show (seen == s) = true by simp [hs])
    clear hs
    by_cases hl : left = L
    · have hlb : (left != L) = false := by simp [hl]
      have HLL := hide (show (left == L) = true by simp [hl])
      clear hl
      go_enter Try.func43, Try.ntmps43
      go_wp2_with fail
      go_region_held3 (fun x => x.cell? ⟨w.heap.size, 0, none⟩ = some (.int .i64 who) ∧ x.cell? ⟨w.heap.size, 1, none⟩ = some (.int .i64 2) ∧ x.cell? ⟨w.heap.size, 2, none⟩ = some (.int .i64 cell) ∧ x.cell? ⟨w.heap.size, 3, none⟩ = some (.int .u64 want) ∧ x.cell? ⟨w.heap.size, 4, none⟩ = some (.int .u64 put) ∧ x.cell? ⟨w.heap.size, 5, none⟩ = some (.int .u64 seen) ∧ x.cell? ⟨w.heap.size, 6, none⟩ = some (.int .u64 left) ∧ x.cell? ⟨w.heap.size, 7, none⟩ = some (.bool ok)) (first | go_keep | exact ⟨z0, z1, z2, z3, z4, z5, z6, z7⟩)
          ((go_at_call 58; refine (HLf.out _).mono ?_; rintro e w1 ⟨rfl, hbel⟩; obtain ⟨z0, z1, z2, z3, z4, z5, z6, z7⟩ := left_keep (w1 := w1) hbel rfl; have HB1 := hide hbel; clear hbel))
      all_goals
        cases ok
        · go_wp2_with fail
          go_ret
          refine ⟨?_, left_below HB1.out⟩
          rw [HR.out, HS.out, HLL.out]
          simp
        · by_cases hw : want = 0
          · have hwb : (want == 0) = true := by simp [hw]
            have HW := hide hwb
            clear hw
            go_wp2_with fail
            go_ret
            refine ⟨?_, left_below HB1.out⟩
            rw [HR.out, HS.out, HLL.out]
            simp [HW.out]
          · have hwb : (want == 0) = false := by simp [hw]
            have HW := hide hwb
            clear hw
            go_wp2_with fail
            go_ret
            refine ⟨?_, left_below HB1.out⟩
            rw [HR.out, HS.out, HLL.out]
            simp [HW.out]
    · have hlb : (left != L) = true := by simp [hl]
      have HLL := hide (show (left == L) = false by simp [hl])
      clear hl
      go_enter Try.func43, Try.ntmps43
      go_wp2_with fail
      go_region_held3 (fun x => x.cell? ⟨w.heap.size, 0, none⟩ = some (.int .i64 who) ∧ x.cell? ⟨w.heap.size, 1, none⟩ = some (.int .i64 2) ∧ x.cell? ⟨w.heap.size, 2, none⟩ = some (.int .i64 cell) ∧ x.cell? ⟨w.heap.size, 3, none⟩ = some (.int .u64 want) ∧ x.cell? ⟨w.heap.size, 4, none⟩ = some (.int .u64 put) ∧ x.cell? ⟨w.heap.size, 5, none⟩ = some (.int .u64 seen) ∧ x.cell? ⟨w.heap.size, 6, none⟩ = some (.int .u64 left) ∧ x.cell? ⟨w.heap.size, 7, none⟩ = some (.bool ok)) (first | go_keep | exact ⟨z0, z1, z2, z3, z4, z5, z6, z7⟩)
          ((go_at_call 58; refine (HLf.out _).mono ?_; rintro e w1 ⟨rfl, hbel⟩; obtain ⟨z0, z1, z2, z3, z4, z5, z6, z7⟩ := left_keep (w1 := w1) hbel rfl; have HB1 := hide hbel; clear hbel))
      all_goals
        go_wp2_with fail
        go_ret
        refine ⟨?_, left_below HB1.out⟩
        rw [HR.out, HLL.out]
        simp
  · have hsb : (seen != s) = true := by simp [hs]
    have HS := hide (show (seen == s) = false by simp [hs])
    clear hs HLf
    go_enter Try.func43, Try.ntmps43
    go_wp2_with fail
    go_region
    all_goals
      go_wp2_with fail
      go_ret
      refine ⟨?_, ((Below.refl _ _).alloc (Nat.le_refl _) _).drew⟩
      rw [HR.out, HS.out]
      simp

set_option maxRecDepth 100000 in
set_option maxHeartbeats 1000000 in
theorem right3 (who cell want put seen left s : Int) (ok : Bool) (w : World) :
    Calls Try.prog 43 #[.agg #[.int .i64 who, .int .i64 3, .int .i64 cell, .int .u64 want, .int .u64 put, .int .u64 seen, .int .u64 left, .bool ok], .int .u64 s] w fun r w' =>
      r = .returned (.bool (known 3 && accEq (carry ⟨who, 3, cell, want, put, seen, left, ok⟩ s) ⟨who, 3, cell, want, put, seen, left, ok⟩)) ∧ Below w.heap.size w w' := by
  have HR := hide (right_iff ⟨who, 3, cell, want, put, seen, left, ok⟩ s rfl)
  obtain ⟨L, hL⟩ : ∃ L, rLeft ⟨who, 3, cell, want, put, seen, left, ok⟩ s = L := ⟨_, rfl⟩
  have HLf := hide (fun x => left_any ⟨who, 3, cell, want, put, seen, left, ok⟩ s x)
  rw [hL] at HR HLf
  clear hL
  by_cases hs : seen = s
  · have hsb : (seen != s) = false := by simp [hs]
    have HS := hide (show (seen == s) = true by simp [hs])
    clear hs
    by_cases hl : left = L
    · have hlb : (left != L) = false := by simp [hl]
      have HLL := hide (show (left == L) = true by simp [hl])
      clear hl
      go_enter Try.func43, Try.ntmps43
      go_wp2_with fail
      go_region_held3 (fun x => x.cell? ⟨w.heap.size, 0, none⟩ = some (.int .i64 who) ∧ x.cell? ⟨w.heap.size, 1, none⟩ = some (.int .i64 3) ∧ x.cell? ⟨w.heap.size, 2, none⟩ = some (.int .i64 cell) ∧ x.cell? ⟨w.heap.size, 3, none⟩ = some (.int .u64 want) ∧ x.cell? ⟨w.heap.size, 4, none⟩ = some (.int .u64 put) ∧ x.cell? ⟨w.heap.size, 5, none⟩ = some (.int .u64 seen) ∧ x.cell? ⟨w.heap.size, 6, none⟩ = some (.int .u64 left) ∧ x.cell? ⟨w.heap.size, 7, none⟩ = some (.bool ok)) (first | go_keep | exact ⟨z0, z1, z2, z3, z4, z5, z6, z7⟩)
          ((go_at_call 58; refine (HLf.out _).mono ?_; rintro e w1 ⟨rfl, hbel⟩; obtain ⟨z0, z1, z2, z3, z4, z5, z6, z7⟩ := left_keep (w1 := w1) hbel rfl; have HB1 := hide hbel; clear hbel))
      all_goals
        cases ok
        · by_cases hw : want = s
          · have hwb : (want == s) = true := by simp [hw]
            have HW := hide hwb
            clear hw
            go_wp2_with fail
            go_ret
            refine ⟨?_, left_below HB1.out⟩
            rw [HR.out, HS.out, HLL.out, HW.out]
            rfl
          · have hwb : (want == s) = false := by simp [hw]
            have HW := hide hwb
            clear hw
            go_wp2_with fail
            go_ret
            refine ⟨?_, left_below HB1.out⟩
            rw [HR.out, HS.out, HLL.out, HW.out]
            rfl
        · by_cases hw : want = s
          · have hwb : (want == s) = true := by simp [hw]
            have HW := hide hwb
            clear hw
            go_wp2_with fail
            go_ret
            refine ⟨?_, left_below HB1.out⟩
            rw [HR.out, HS.out, HLL.out, HW.out]
            rfl
          · have hwb : (want == s) = false := by simp [hw]
            have HW := hide hwb
            clear hw
            go_wp2_with fail
            go_ret
            refine ⟨?_, left_below HB1.out⟩
            rw [HR.out, HS.out, HLL.out, HW.out]
            rfl
    · have hlb : (left != L) = true := by simp [hl]
      have HLL := hide (show (left == L) = false by simp [hl])
      clear hl
      go_enter Try.func43, Try.ntmps43
      go_wp2_with fail
      go_region_held3 (fun x => x.cell? ⟨w.heap.size, 0, none⟩ = some (.int .i64 who) ∧ x.cell? ⟨w.heap.size, 1, none⟩ = some (.int .i64 3) ∧ x.cell? ⟨w.heap.size, 2, none⟩ = some (.int .i64 cell) ∧ x.cell? ⟨w.heap.size, 3, none⟩ = some (.int .u64 want) ∧ x.cell? ⟨w.heap.size, 4, none⟩ = some (.int .u64 put) ∧ x.cell? ⟨w.heap.size, 5, none⟩ = some (.int .u64 seen) ∧ x.cell? ⟨w.heap.size, 6, none⟩ = some (.int .u64 left) ∧ x.cell? ⟨w.heap.size, 7, none⟩ = some (.bool ok)) (first | go_keep | exact ⟨z0, z1, z2, z3, z4, z5, z6, z7⟩)
          ((go_at_call 58; refine (HLf.out _).mono ?_; rintro e w1 ⟨rfl, hbel⟩; obtain ⟨z0, z1, z2, z3, z4, z5, z6, z7⟩ := left_keep (w1 := w1) hbel rfl; have HB1 := hide hbel; clear hbel))
      all_goals
        go_wp2_with fail
        go_ret
        refine ⟨?_, left_below HB1.out⟩
        rw [HR.out, HLL.out]
        simp
  · have hsb : (seen != s) = true := by simp [hs]
    have HS := hide (show (seen == s) = false by simp [hs])
    clear hs HLf
    go_enter Try.func43, Try.ntmps43
    go_wp2_with fail
    go_region
    all_goals
      go_wp2_with fail
      go_ret
      refine ⟨?_, ((Below.refl _ _).alloc (Nat.le_refl _) _).drew⟩
      rw [HR.out, HS.out]
      simp

set_option maxRecDepth 100000 in
set_option maxHeartbeats 1000000 in
theorem right4 (who cell want put seen left s : Int) (ok : Bool) (w : World) :
    Calls Try.prog 43 #[.agg #[.int .i64 who, .int .i64 4, .int .i64 cell, .int .u64 want, .int .u64 put, .int .u64 seen, .int .u64 left, .bool ok], .int .u64 s] w fun r w' =>
      r = .returned (.bool (known 4 && accEq (carry ⟨who, 4, cell, want, put, seen, left, ok⟩ s) ⟨who, 4, cell, want, put, seen, left, ok⟩)) ∧ Below w.heap.size w w' := by
  have HR := hide (right_iff ⟨who, 4, cell, want, put, seen, left, ok⟩ s rfl)
  obtain ⟨L, hL⟩ : ∃ L, rLeft ⟨who, 4, cell, want, put, seen, left, ok⟩ s = L := ⟨_, rfl⟩
  have HLf := hide (fun x => left_any ⟨who, 4, cell, want, put, seen, left, ok⟩ s x)
  rw [hL] at HR HLf
  clear hL
  by_cases hs : seen = s
  · have hsb : (seen != s) = false := by simp [hs]
    have HS := hide (show (seen == s) = true by simp [hs])
    clear hs
    by_cases hl : left = L
    · have hlb : (left != L) = false := by simp [hl]
      have HLL := hide (show (left == L) = true by simp [hl])
      clear hl
      go_enter Try.func43, Try.ntmps43
      go_wp2_with fail
      go_region_held3 (fun x => x.cell? ⟨w.heap.size, 0, none⟩ = some (.int .i64 who) ∧ x.cell? ⟨w.heap.size, 1, none⟩ = some (.int .i64 4) ∧ x.cell? ⟨w.heap.size, 2, none⟩ = some (.int .i64 cell) ∧ x.cell? ⟨w.heap.size, 3, none⟩ = some (.int .u64 want) ∧ x.cell? ⟨w.heap.size, 4, none⟩ = some (.int .u64 put) ∧ x.cell? ⟨w.heap.size, 5, none⟩ = some (.int .u64 seen) ∧ x.cell? ⟨w.heap.size, 6, none⟩ = some (.int .u64 left) ∧ x.cell? ⟨w.heap.size, 7, none⟩ = some (.bool ok)) (first | go_keep | exact ⟨z0, z1, z2, z3, z4, z5, z6, z7⟩)
          ((go_at_call 58; refine (HLf.out _).mono ?_; rintro e w1 ⟨rfl, hbel⟩; obtain ⟨z0, z1, z2, z3, z4, z5, z6, z7⟩ := left_keep (w1 := w1) hbel rfl; have HB1 := hide hbel; clear hbel))
      all_goals
        cases ok
        · go_wp2_with fail
          go_ret
          refine ⟨?_, left_below HB1.out⟩
          rw [HR.out, HS.out, HLL.out]
          simp
        · by_cases hw : want = 0
          · have hwb : (want == 0) = true := by simp [hw]
            have HW := hide hwb
            clear hw
            go_wp2_with fail
            go_ret
            refine ⟨?_, left_below HB1.out⟩
            rw [HR.out, HS.out, HLL.out]
            simp [HW.out]
          · have hwb : (want == 0) = false := by simp [hw]
            have HW := hide hwb
            clear hw
            go_wp2_with fail
            go_ret
            refine ⟨?_, left_below HB1.out⟩
            rw [HR.out, HS.out, HLL.out]
            simp [HW.out]
    · have hlb : (left != L) = true := by simp [hl]
      have HLL := hide (show (left == L) = false by simp [hl])
      clear hl
      go_enter Try.func43, Try.ntmps43
      go_wp2_with fail
      go_region_held3 (fun x => x.cell? ⟨w.heap.size, 0, none⟩ = some (.int .i64 who) ∧ x.cell? ⟨w.heap.size, 1, none⟩ = some (.int .i64 4) ∧ x.cell? ⟨w.heap.size, 2, none⟩ = some (.int .i64 cell) ∧ x.cell? ⟨w.heap.size, 3, none⟩ = some (.int .u64 want) ∧ x.cell? ⟨w.heap.size, 4, none⟩ = some (.int .u64 put) ∧ x.cell? ⟨w.heap.size, 5, none⟩ = some (.int .u64 seen) ∧ x.cell? ⟨w.heap.size, 6, none⟩ = some (.int .u64 left) ∧ x.cell? ⟨w.heap.size, 7, none⟩ = some (.bool ok)) (first | go_keep | exact ⟨z0, z1, z2, z3, z4, z5, z6, z7⟩)
          ((go_at_call 58; refine (HLf.out _).mono ?_; rintro e w1 ⟨rfl, hbel⟩; obtain ⟨z0, z1, z2, z3, z4, z5, z6, z7⟩ := left_keep (w1 := w1) hbel rfl; have HB1 := hide hbel; clear hbel))
      all_goals
        go_wp2_with fail
        go_ret
        refine ⟨?_, left_below HB1.out⟩
        rw [HR.out, HLL.out]
        simp
  · have hsb : (seen != s) = true := by simp [hs]
    have HS := hide (show (seen == s) = false by simp [hs])
    clear hs HLf
    go_enter Try.func43, Try.ntmps43
    go_wp2_with fail
    go_region
    all_goals
      go_wp2_with fail
      go_ret
      refine ⟨?_, ((Below.refl _ _).alloc (Nat.le_refl _) _).drew⟩
      rw [HR.out, HS.out]
      simp

set_option maxRecDepth 100000 in
set_option maxHeartbeats 1000000 in
theorem right5 (who cell want put seen left s : Int) (ok : Bool) (w : World) :
    Calls Try.prog 43 #[.agg #[.int .i64 who, .int .i64 5, .int .i64 cell, .int .u64 want, .int .u64 put, .int .u64 seen, .int .u64 left, .bool ok], .int .u64 s] w fun r w' =>
      r = .returned (.bool (known 5 && accEq (carry ⟨who, 5, cell, want, put, seen, left, ok⟩ s) ⟨who, 5, cell, want, put, seen, left, ok⟩)) ∧ Below w.heap.size w w' := by
  have HR := hide (right_iff ⟨who, 5, cell, want, put, seen, left, ok⟩ s rfl)
  obtain ⟨L, hL⟩ : ∃ L, rLeft ⟨who, 5, cell, want, put, seen, left, ok⟩ s = L := ⟨_, rfl⟩
  have HLf := hide (fun x => left_any ⟨who, 5, cell, want, put, seen, left, ok⟩ s x)
  rw [hL] at HR HLf
  clear hL
  by_cases hs : seen = s
  · have hsb : (seen != s) = false := by simp [hs]
    have HS := hide (show (seen == s) = true by simp [hs])
    clear hs
    by_cases hl : left = L
    · have hlb : (left != L) = false := by simp [hl]
      have HLL := hide (show (left == L) = true by simp [hl])
      clear hl
      go_enter Try.func43, Try.ntmps43
      go_wp2_with fail
      go_region_held3 (fun x => x.cell? ⟨w.heap.size, 0, none⟩ = some (.int .i64 who) ∧ x.cell? ⟨w.heap.size, 1, none⟩ = some (.int .i64 5) ∧ x.cell? ⟨w.heap.size, 2, none⟩ = some (.int .i64 cell) ∧ x.cell? ⟨w.heap.size, 3, none⟩ = some (.int .u64 want) ∧ x.cell? ⟨w.heap.size, 4, none⟩ = some (.int .u64 put) ∧ x.cell? ⟨w.heap.size, 5, none⟩ = some (.int .u64 seen) ∧ x.cell? ⟨w.heap.size, 6, none⟩ = some (.int .u64 left) ∧ x.cell? ⟨w.heap.size, 7, none⟩ = some (.bool ok)) (first | go_keep | exact ⟨z0, z1, z2, z3, z4, z5, z6, z7⟩)
          ((go_at_call 58; refine (HLf.out _).mono ?_; rintro e w1 ⟨rfl, hbel⟩; obtain ⟨z0, z1, z2, z3, z4, z5, z6, z7⟩ := left_keep (w1 := w1) hbel rfl; have HB1 := hide hbel; clear hbel))
      all_goals
        cases ok
        · go_wp2_with fail
          go_ret
          refine ⟨?_, left_below HB1.out⟩
          rw [HR.out, HS.out, HLL.out]
          simp
        · by_cases hw : want = 0
          · have hwb : (want == 0) = true := by simp [hw]
            have HW := hide hwb
            clear hw
            go_wp2_with fail
            go_ret
            refine ⟨?_, left_below HB1.out⟩
            rw [HR.out, HS.out, HLL.out]
            simp [HW.out]
          · have hwb : (want == 0) = false := by simp [hw]
            have HW := hide hwb
            clear hw
            go_wp2_with fail
            go_ret
            refine ⟨?_, left_below HB1.out⟩
            rw [HR.out, HS.out, HLL.out]
            simp [HW.out]
    · have hlb : (left != L) = true := by simp [hl]
      have HLL := hide (show (left == L) = false by simp [hl])
      clear hl
      go_enter Try.func43, Try.ntmps43
      go_wp2_with fail
      go_region_held3 (fun x => x.cell? ⟨w.heap.size, 0, none⟩ = some (.int .i64 who) ∧ x.cell? ⟨w.heap.size, 1, none⟩ = some (.int .i64 5) ∧ x.cell? ⟨w.heap.size, 2, none⟩ = some (.int .i64 cell) ∧ x.cell? ⟨w.heap.size, 3, none⟩ = some (.int .u64 want) ∧ x.cell? ⟨w.heap.size, 4, none⟩ = some (.int .u64 put) ∧ x.cell? ⟨w.heap.size, 5, none⟩ = some (.int .u64 seen) ∧ x.cell? ⟨w.heap.size, 6, none⟩ = some (.int .u64 left) ∧ x.cell? ⟨w.heap.size, 7, none⟩ = some (.bool ok)) (first | go_keep | exact ⟨z0, z1, z2, z3, z4, z5, z6, z7⟩)
          ((go_at_call 58; refine (HLf.out _).mono ?_; rintro e w1 ⟨rfl, hbel⟩; obtain ⟨z0, z1, z2, z3, z4, z5, z6, z7⟩ := left_keep (w1 := w1) hbel rfl; have HB1 := hide hbel; clear hbel))
      all_goals
        go_wp2_with fail
        go_ret
        refine ⟨?_, left_below HB1.out⟩
        rw [HR.out, HLL.out]
        simp
  · have hsb : (seen != s) = true := by simp [hs]
    have HS := hide (show (seen == s) = false by simp [hs])
    clear hs HLf
    go_enter Try.func43, Try.ntmps43
    go_wp2_with fail
    go_region
    all_goals
      go_wp2_with fail
      go_ret
      refine ⟨?_, ((Below.refl _ _).alloc (Nat.le_refl _) _).drew⟩
      rw [HR.out, HS.out]
      simp

set_option maxRecDepth 100000 in
set_option maxHeartbeats 1000000 in
theorem right0 (who kind cell want put seen left s : Int) (ok : Bool) (w : World) (hk : kind < 1 ∨ 5 < kind) :
    Calls Try.prog 43 #[.agg #[.int .i64 who, .int .i64 kind, .int .i64 cell, .int .u64 want, .int .u64 put, .int .u64 seen, .int .u64 left, .bool ok], .int .u64 s] w fun r w' => r = .returned (.bool false) ∧ Below w.heap.size w w' := by
  by_cases h1 : kind < 1
  · have hd : decide (kind < 1) = true := decide_eq_true h1
    clear hk h1
    go_enter Try.func43, Try.ntmps43
    go_wp2_with fail
    go_region
    all_goals
      go_wp2_with fail
      go_ret
      exact ⟨rfl, ((Below.refl _ _).alloc (Nat.le_refl _) _).drew⟩
  · have h5 : decide (5 < kind) = true := decide_eq_true (by omega)
    have hd : decide (kind < 1) = false := decide_eq_false h1
    clear hk h1
    go_enter Try.func43, Try.ntmps43
    go_wp2_with fail
    go_region
    all_goals
      go_wp2_with fail
      go_ret
      exact ⟨rfl, ((Below.refl _ _).alloc (Nat.le_refl _) _).drew⟩

theorem right_any (a : Acc) (s : Int) (w : World) :
    Calls Try.prog 43 #[.agg #[.int .i64 a.who, .int .i64 a.kind, .int .i64 a.cell, .int .u64 a.want, .int .u64 a.put, .int .u64 a.seen, .int .u64 a.left, .bool a.ok], .int .u64 s] w fun r w' =>
      r = .returned (.bool (known a.kind && accEq (carry a s) a)) ∧ Below w.heap.size w w' := by
  obtain ⟨who, kind, cell, want, put, seen, left, ok⟩ := a
  by_cases hk : kind < 1 ∨ 5 < kind
  · have e : known kind = false := by simp [known]; omega
    simp only [e, Bool.false_and]
    exact right0 who kind cell want put seen left s ok w hk
  · rcases (show kind = 1 ∨ kind = 2 ∨ kind = 3 ∨ kind = 4 ∨ kind = 5 by omega) with rfl | rfl | rfl | rfl | rfl
    · exact right1 who cell want put seen left s ok w
    · exact right2 who cell want put seen left s ok w
    · exact right3 who cell want put seen left s ok w
    · exact right4 who cell want put seen left s ok w
    · exact right5 who cell want put seen left s ok w
end Go.Proofs.Ytfgchkkljlbmcaa
