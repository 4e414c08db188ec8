/- dice.of and dice.New. -/
import Derived.Test.YtglgflibpgmilaaDice
import Derived.Deep.RegionWith
import Derived.Test.YtglgflibpgmilaaMix
namespace Go.Proofs.Ytglgflibpgmilaa
open Go.RowKit Go.Lib
theorem hide {p : Prop} (h : p) : Hid p := h
theorem RowAt.alloc {k : IntKind} {w : World} {v : Value} {xs : List Int} (h : RowAt k w v xs) (o : Obj) : RowAt k (w.alloc o) v xs := by
  obtain ⟨ao, c, rfl, h1, h2, h3, h4⟩ := h
  exact ⟨ao, c, rfl, h1, h2, h3, fun a ha i hi => Lib.cell?_alloc_some _ (h4 a ha i hi)⟩

theorem owns_shape {w : World} {B : Nat} {e : TypeId} {v : Value} {n : Nat} {l : List Value} (h : w.ownsRow B e 1 v n l) : ∃ ao c, v = .slice ao n c := by
  obtain ⟨_, ⟨rfl, rfl⟩ | ⟨g, cap, cur, rfl, _⟩⟩ := h
  · exact ⟨none, 0, rfl⟩
  · exact ⟨_, cap, rfl⟩

theorem st_cells {W w1 : World} {B b : Nat} {x0 x1 x2 x3 : Value} {t : TypeId} (hb : Below B W w1) (hB : b < B) (h : W.heap[b]? = some (.cells #[x0, x1, x2, x3] t (0, 0))) :
    w1.cell? ⟨b, 0, none⟩ = some x0 ∧ w1.cell? ⟨b, 1, none⟩ = some x1 ∧ w1.cell? ⟨b, 2, none⟩ = some x2 ∧ w1.cell? ⟨b, 3, none⟩ = some x3 := by
  have h1 : w1.heap[b]? = some (.cells #[x0, x1, x2, x3] t (0, 0)) := (hb.block b hB).trans h
  exact ⟨cell_of h1 rfl, cell_of h1 rfl, cell_of h1 rfl, cell_of h1 rfl⟩

theorem heap_new (w : World) (o : Obj) : (w.alloc o).heap[w.heap.size]? = some o := by
  show (w.heap.push o)[w.heap.size]? = _
  simp

theorem of_end (w w1 : World) (o : Obj) (s : St) (ao : Option Addr) (cc : Nat) (xs : List Int)
    (HO : Hid (w1.ownsRow (w.alloc o).drew.heap.size 22 1 (.slice ao xs.length cc) xs.length (xs.map (Value.int .u64))))
    (HB : Hid (Below (w.alloc o).drew.heap.size (w.alloc o).drew w1)) :
    w.heap.size ≤ w1.heap.size ∧ (w1.alloc (DObj (fnv 41) (.slice ao xs.length cc) s 0)).heap[w1.heap.size]? = some (DObj (fnv 41) (.slice ao xs.length cc) s 0) ∧
      WordsAt (w1.alloc (DObj (fnv 41) (.slice ao xs.length cc) s 0)) w1.heap.size (.slice ao xs.length cc) xs ∧
      Below w.heap.size w (w1.alloc (DObj (fnv 41) (.slice ao xs.length cc) s 0)) := by
  have hB := HB.out
  have hsz : (w.alloc o).drew.heap.size = w.heap.size + 1 := by simp
  have h1 : w.heap.size + 1 ≤ w1.heap.size := by have := hB.size; omega
  have b0 : Below w.heap.size w (w.alloc o).drew := ((Below.refl _ w).alloc (Nat.le_refl _) o).drew
  have b1 : Below w.heap.size w w1 := b0.trans (hB.mono (by omega))
  refine ⟨by omega, heap_new _ _, ?_, b1.alloc (by omega) _⟩
  obtain ⟨_, ⟨he, hn⟩ | ⟨g, cap, cur, he, hg, hh, hnc, hcm, hcur, htake⟩⟩ := HO.out
  · left
    exact ⟨he, List.eq_nil_of_length_eq_zero hn⟩
  · right
    simp only [Value.slice.injEq, true_and] at he
    obtain ⟨rfl, rfl⟩ := he
    have hgl := lt_of_heap hh
    refine ⟨g, 0, cc, rfl, by omega, ⟨by simp; omega, cur, (0, 0), (((Below.refl _ w1).alloc (Nat.le_refl _) _).block g hgl).trans hh⟩, hnc, hcm, fun i hi => ?_⟩
    refine Lib.cell?_alloc_some _ ?_
    refine cell_of hh ?_
    have e1 : (cur.toList.take (xs.length * 1))[i]? = (xs.map (Value.int .u64))[i]? := by rw [htake]
    rw [List.getElem?_take_of_lt (by omega)] at e1
    simp only [Nat.zero_add]
    have e2 : cur[i]? = cur.toList[i]? := by simp
    rw [e2, e1]
    simp [List.getD, List.getElem?_eq_getElem hi]

set_option maxRecDepth 100000 in
theorem of_any (s : St) (v : Value) (xs : List Int) (w : World) (h : RowAt .u64 w v xs) (hbig : xs.length * 8 ≤ 140737488355328) :
    Calls Try.prog 38 #[.agg #[.int .u64 s.a, .int .u64 s.b, .int .u64 s.c, .int .u64 s.d], v] w fun e w' => ∃ b v', e = .returned (.pointer (some ⟨b, 0, none⟩)) ∧ w.heap.size ≤ b ∧
      w'.heap[b]? = some (DObj (fnv 41) v' s 0) ∧ WordsAt w' b v' xs ∧ Below w.heap.size w w' := by
  have H : Hid (RowAt .u64 w v xs) := h
  clear h
  go_enter Try.func38, Try.ntmps38
  go_wp2
  go_region_with (go_at_call 47; refine (clone_any v xs _ ?_ hbig).mono ?_; exact H.out.alloc _; rintro e w1 ⟨v', rfl, hown, hbel⟩; obtain ⟨ao, cc, rfl⟩ := owns_shape hown; obtain ⟨d0, d1, d2, d3⟩ := st_cells hbel (b := w.heap.size) (by simp) (heap_new w _); have HO := hide hown; have HB := hide hbel; clear hown hbel)
  all_goals (go_wp2; go_ret; exact ⟨_, _, rfl, of_end w w1 _ s ao cc xs HO HB⟩)

def golden : Nat := 11400714819323198485
def sd (seed k : Nat) : Nat := (seed + k * golden) % 18446744073709551616
def newSt (seed : Nat) : St := ⟨Scat.mix (sd seed 1), Scat.mix (sd seed 2), Scat.mix (sd seed 3), Scat.mix (sd seed 4)⟩
theorem sd_zero (seed : Nat) (h : seed < 18446744073709551616) : sd seed 0 = seed := by unfold sd; omega
theorem sd_lt (seed k : Nat) : sd seed k < 18446744073709551616 := by unfold sd; omega
theorem sd_next (seed k j : Nat) (h : j = k + 1) : IntKind.u64.wrap ((sd seed k : Int) + 11400714819323198485) = (sd seed j : Nat) := by
  subst h; rw [IntKind.wrap_u64]; unfold sd golden; omega
theorem mix_nat (n : Nat) (w : World) (h1 : n < 18446744073709551616) :
    Calls Try.prog 23 #[.int .u64 n] w fun e w' => e = .returned (.int .u64 (Scat.mix n : Nat)) ∧ w' = w := by
  have h := mix_any n w (by omega) (by omega)
  rw [Int.toNat_natCast] at h
  exact h

def newArr (seed : Nat) : Nat → Array Value
  | 0 => #[.int .u64 0, .int .u64 0, .int .u64 0, .int .u64 0]
  | 1 => #[.int .u64 (Scat.mix (sd seed 1) : Nat), .int .u64 0, .int .u64 0, .int .u64 0]
  | 2 => #[.int .u64 (Scat.mix (sd seed 1) : Nat), .int .u64 (Scat.mix (sd seed 2) : Nat), .int .u64 0, .int .u64 0]
  | 3 => #[.int .u64 (Scat.mix (sd seed 1) : Nat), .int .u64 (Scat.mix (sd seed 2) : Nat), .int .u64 (Scat.mix (sd seed 3) : Nat), .int .u64 0]
  | _ => #[.int .u64 (Scat.mix (sd seed 1) : Nat), .int .u64 (Scat.mix (sd seed 2) : Nat), .int .u64 (Scat.mix (sd seed 3) : Nat), .int .u64 (Scat.mix (sd seed 4) : Nat)]

set_option maxRecDepth 100000 in
set_option maxHeartbeats 1000000 in
theorem new_any (seed : Nat) (v : Value) (xs : List Int) (w : World) (h : RowAt .u64 w v xs) (hbig : xs.length * 8 ≤ 140737488355328) (hs : seed < 18446744073709551616) :
    Calls Try.prog 12 #[.int .u64 seed, v] w fun e w' => ∃ b v', e = .returned (.pointer (some ⟨b, 0, none⟩)) ∧ w.heap.size ≤ b ∧
      w'.heap[b]? = some (DObj (fnv 41) v' (newSt seed) 0) ∧ WordsAt w' b v' xs ∧ Below w.heap.size w w' := by
  have H : Hid (RowAt .u64 w v xs) := h
  clear h
  go_enter Try.func12, Try.ntmps12
  go_wp2
  go_loopw [0, 7] (fun t i wr => ∃ k : Nat, k ≤ 4 ∧ i = .int .i64 k ∧ t = .int .u64 (sd seed k : Nat) ∧ wr = w.alloc (.cells (newArr seed k) 41)) (fun _ i _ => 4 - (RowKit.intOf i).toNat)
  case atStart => exact ⟨0, by omega, rfl, by rw [sd_zero seed hs], rfl⟩
  case round =>
    obtain ⟨k, hk, rfl, rfl, rfl⟩ := hrel
    by_cases hlt : k < 4
    · rcases (show k = 0 ∨ k = 1 ∨ k = 2 ∨ k = 3 by omega) with rfl | rfl | rfl | rfl
      · simp only [newArr]
        go_wp2_with fail
        rw [sd_next seed 0 1 rfl]
        refine (mix_nat _ _ (sd_lt _ _)).mono ?_
        rintro e w' ⟨rfl, rfl⟩
        go_wp2_with fail
        go_roundw
        case rel => exact ⟨1, by decide, rfl, rfl, rfl⟩
        case measure => simp [RowKit.intOf]
      · simp only [newArr]
        go_wp2_with fail
        rw [sd_next seed 1 2 rfl]
        refine (mix_nat _ _ (sd_lt _ _)).mono ?_
        rintro e w' ⟨rfl, rfl⟩
        go_wp2_with fail
        go_roundw
        case rel => exact ⟨2, by decide, rfl, rfl, rfl⟩
        case measure => simp [RowKit.intOf]
      · simp only [newArr]
        go_wp2_with fail
        rw [sd_next seed 2 3 rfl]
        refine (mix_nat _ _ (sd_lt _ _)).mono ?_
        rintro e w' ⟨rfl, rfl⟩
        go_wp2_with fail
        go_roundw
        case rel => exact ⟨3, by decide, rfl, rfl, rfl⟩
        case measure => simp [RowKit.intOf]
      · simp only [newArr]
        go_wp2_with fail
        rw [sd_next seed 3 4 rfl]
        refine (mix_nat _ _ (sd_lt _ _)).mono ?_
        rintro e w' ⟨rfl, rfl⟩
        go_wp2_with fail
        go_roundw
        case rel => exact ⟨4, by decide, rfl, rfl, rfl⟩
        case measure => simp [RowKit.intOf]
    · obtain rfl : k = 4 := by omega
      simp only [newArr]
      go_wp2_with fail
      have hO := of_any (newSt seed) v xs (w.alloc (.cells (newArr seed 4) 41)) (H.out.alloc _) hbig
      refine hO.mono ?_
      rintro e w' ⟨b, v', rfl, hb, hh, hw, hbel⟩
      have P : Hid (w.heap.size ≤ b ∧ w'.heap[b]? = some (DObj (fnv 41) v' (newSt seed) 0) ∧ WordsAt w' b v' xs ∧ Below w.heap.size w w') :=
        ⟨by simp at hb; omega, hh, hw, ((Below.refl _ w).alloc (Nat.le_refl _) _).trans (hbel.mono (by simp))⟩
      clear hb hh hw hbel
      go_wp2_with fail
      go_ret
      exact ⟨b, v', rfl, P.out⟩
end Go.Proofs.Ytglgflibpgmilaa
