import Derived.Test.YtdjkidgkeekenaaLmD
import Derived.Test.YtdjkidgkeekenaaM2
/- The loom is made: its seats. -/
namespace Go.Proofs.Ytdjkidgkeekenaa
open Go.RowKit Go.Lib Go.MuLone
set_option linter.unusedVariables false
set_option linter.unusedSimpArgs false
theorem Try.info71 : (Try.prog.info? 71).map (fun i => (i.zero, i.size, i.bytes)) = some (some (.agg #[.nilIface, .pointer none, .int .i64 0]), 3, 32) := by kernel_rfl
def z99 : Array Value := #[.nilIface, .pointer none, .int .i64 0]
theorem run_makeSeats (n : Nat) (hn : n ≤ 64) (w : World) :
    (Instr.makeSlice 63 (.int .i64 n) (.int .i64 n)).run Try.prog w = .ok (.slice (some ⟨w.heap.size, 0, none⟩) n n) (w.alloc (.cells (madeCells z99 (n * 3)) 71)) := by
  obtain ⟨i0, hi, hz0, hz1, hz2⟩ := info_parts Try.info71
  have h := run_make (P := Try.prog) w 63 71 i0 (.agg #[.nilIface, .pointer none, .int .i64 0]) Try.underlying63 hi hz0 .i64 .i64 n n (by omega) (Int.le_refl _) (by rw [hz2]; omega) (by omega)
  rw [hz1] at h
  simp only [Int.toNat_natCast] at h
  exact h
def mVs (qs : Nat → Nat) (n : Nat) : List Value := (List.range n).map fun j => mV (qs j)
structure SF (w w' : World) (b n i : Nat) (qs rs : Nat → Nat) : Prop where
  bel : Below w.heap.size w w'
  se : ∃ cs, w'.heap[w.heap.size]? = some (.cells cs 71 (0, 0)) ∧ cs.size = n * 3 ∧ ∀ j, j < i → cs[j * 3]? = some (mV (qs j)) ∧ cs[j * 3 + 1]? = some (.pointer (some ⟨rs j, 0, none⟩)) ∧ cs[j * 3 + 2]? = some (.int .i64 0)
  po : ∀ j, j < i → w'.heap[rs j]? = some (PObj b j false) ∧ w.heap.size < rs j
  inj : ∀ j k, j < k → k < i → rs j ≠ rs k
set_option maxRecDepth 100000 in
set_option maxHeartbeats 4000000 in
theorem seats_any (b n Z mg mc : Nat) (qs : Nat → Nat) (w : World) (hn : 1 ≤ n ∧ n ≤ 64) (hm : w.ownsRow Z 68 1 (.slice (some ⟨mg, 0, none⟩) n mc) n (mVs qs n)) :
    Calls Try.prog 33 #[.pointer (some ⟨b, 0, none⟩), .slice (some ⟨mg, 0, none⟩) n mc] w fun r w' => r = .returned (.slice (some ⟨w.heap.size, 0, none⟩) n n) ∧ ∃ rs, SF w w' b n n qs rs := by
  have HMS := hide (fun W (hb : Below w.heap.size w W) i (hi : i < n) => own_at (own_stayR hm (fun g hg => hb.block _ (lt_of_heap (own_ty hm hg).2.2.choose_spec))) (show (mVs qs n)[i]? = some (mV (qs i)) by simp [mVs, hi]) hi)
  have hmk := run_makeSeats n hn.2
  have hn1 : (n : Int) ≤ 64 := by omega
  clear hm
  go_enter Try.func33, Try.ntmps33
  go_wp2_with fail
  go_loopw [15] (fun t wr => ∃ (i : Nat) (rs : Nat → Nat), i ≤ n ∧ t = .int .i64 (i : Int) ∧ Hid (SF w wr b n i qs rs)) (fun t _ => n - (RowKit.intOf t).toNat)
  case atStart =>
    refine ⟨0, fun _ => 0, Nat.zero_le _, rfl, ⟨below_alloc (Below.refl _ _) _, ⟨_, heap_new w _, by simp [madeCells], fun j hj => by omega⟩, fun j hj => by omega, fun j k _ hk => by omega⟩⟩
  case round =>
    obtain ⟨i, rs, hi, rfl, HS⟩ := hrel
    by_cases hlt : i < n
    · have hli : (i : Int) < (n : Int) := by omega
      obtain ⟨cs, hcs, hsz, hall⟩ := HS.out.se
      have x0 := HMS.out wr HS.out.bel i hlt
      unfold mV at x0
      obtain ⟨v0, h0⟩ : ∃ v, cs[i * 3]? = some v := ⟨cs[i * 3], Array.getElem?_eq_getElem (by omega)⟩
      obtain ⟨v1, h1⟩ : ∃ v, cs[i * 3 + 1]? = some v := ⟨cs[i * 3 + 1], Array.getElem?_eq_getElem (by omega)⟩
      obtain ⟨v2, h2⟩ : ∃ v, cs[i * 3 + 2]? = some v := ⟨cs[i * 3 + 2], Array.getElem?_eq_getElem (by omega)⟩
      have HPT := hide (port_any b (i : Int) wr (by omega))
      have hcs1 := heap_old hcs (PObj b (i : Int) false)
      have y0 := cell_of hcs1 h0
      have y1 := cell_of hcs1 h1
      have y2 := cell_of hcs1 h2
      have fr := fun k => free_of hcs1 k
      have HC := hide hcs1
      have HALL := hide hall
      have HH := hide (And.intro h0 (And.intro h1 h2))
      clear hcs hall h0 h1 h2 hcs1
      go_wp2_with fail
      refine HPT.out.mono ?_
      rintro e w1 ⟨rfl, rfl⟩
      go_wp2_with fail
      obtain ⟨h0, h1, h2⟩ := HH.out
      have hlw := HS.out.bel.size
      have hlt' := lt_of_heap HC.out
      have hold : ∀ j, j < i → rs j ≠ wr.heap.size := fun j hj e => by have := lt_of_heap (HS.out.po j hj).1; omega
      refine ⟨⟨i + 1, upd rs i wr.heap.size, by omega, by simp, ⟨(((((HS.out.bel.alloc hlw (PObj b (i : Int) false)).setCell (p := ⟨w.heap.size, i * 3, none⟩) (Nat.le_refl _) (mV (qs i))).setCell (p := ⟨w.heap.size, i * 3 + 1, none⟩) (Nat.le_refl _) (.pointer (some ⟨wr.heap.size, 0, none⟩))).setCell (p := ⟨w.heap.size, i * 3 + 2, none⟩) (Nat.le_refl _) (.int .i64 0))), ⟨_, heap_set (heap_set (heap_set HC.out _) _) _, by simpa using (show cs.size = n * 3 from hsz), fun j hj => ?_⟩, fun j hj => ?_, fun j k hjk hk => ?_⟩⟩, by simp [RowKit.intOf]; omega⟩
      · by_cases e : j = i
        · subst e
          rw [upd_same]
          refine ⟨?_, ?_, ?_⟩
          · rw [Array.getElem?_setIfInBounds_ne (by omega), Array.getElem?_setIfInBounds_ne (by omega), Array.getElem?_setIfInBounds_self_of_lt (by omega)]; rfl
          · rw [Array.getElem?_setIfInBounds_ne (by omega), Array.getElem?_setIfInBounds_self_of_lt (by simp; omega)]
          · rw [Array.getElem?_setIfInBounds_self_of_lt (by simp; omega)]
        · rw [upd_other _ _ e]
          obtain ⟨a1, a2, a3⟩ := HALL.out j (by omega)
          refine ⟨?_, ?_, ?_⟩ <;> rw [Array.getElem?_setIfInBounds_ne (by omega), Array.getElem?_setIfInBounds_ne (by omega), Array.getElem?_setIfInBounds_ne (by omega)] <;> assumption
      · have hh : ∀ k, k ≠ w.heap.size → ((((wr.alloc (PObj b (i : Int) false)).setCell ⟨w.heap.size, i * 3, none⟩ (mV (qs i))).setCell ⟨w.heap.size, i * 3 + 1, none⟩ (.pointer (some ⟨wr.heap.size, 0, none⟩))).setCell ⟨w.heap.size, i * 3 + 2, none⟩ (.int .i64 0)).heap[k]? = (wr.alloc (PObj b (i : Int) false)).heap[k]? := fun k hk => by
          rw [Below.heap_setCell _ _ _ _ hk, Below.heap_setCell _ _ _ _ hk, Below.heap_setCell _ _ _ _ hk]
        have hsb : w.heap.size < wr.heap.size := by
          obtain ⟨_, q, _⟩ := HS.out.se
          exact lt_of_heap q
        by_cases e : j = i
        · subst e
          rw [upd_same]
          exact ⟨(hh _ (by omega)).trans (heap_new wr _), hsb⟩
        · rw [upd_other _ _ e]
          have := HS.out.po j (by omega)
          exact ⟨(hh _ (by omega)).trans (heap_old this.1 _), this.2⟩
      · by_cases e : k = i
        · subst e
          rw [upd_same, upd_other _ _ (by omega)]
          exact hold j hjk
        · rw [upd_other _ _ e, upd_other _ _ (by omega)]
          exact HS.out.inj j k hjk (by omega)
    · have hli : ¬ (i : Int) < (n : Int) := by omega
      have hin : i = n := by omega
      subst hin
      go_wp2_with fail
      go_ret
      exact ⟨rfl, rs, HS.out⟩
end Go.Proofs.Ytdjkidgkeekenaa

/- The loom over the circle: New, played. -/
namespace Go.Proofs.Ytdjkidgkeekenaa
open Go.RowKit Go.Lib Go.MuLone
set_option linter.unusedVariables false
set_option linter.unusedSimpArgs false
structure PLm (w w' : World) (b n lb sb : Nat) (qs rs : Nat → Nat) : Prop where
  bel : Below w.heap.size w w'
  lm : w'.heap[lb]? = some (.cells #[.pointer (some ⟨b, 0, none⟩), .slice (some ⟨sb, 0, none⟩) n n] 65 (0, 0))
  se : ∃ cs, w'.heap[sb]? = some (.cells cs 71 (0, 0)) ∧ ∀ j, j < n → cs[j * 3]? = some (mV (qs j)) ∧ cs[j * 3 + 1]? = some (.pointer (some ⟨rs j, 0, none⟩)) ∧ cs[j * 3 + 2]? = some (.int .i64 0)
  po : ∀ j, j < n → w'.heap[rs j]? = some (PObj b j false) ∧ w.heap.size ≤ rs j
  inj : ∀ j k, j < k → k < n → rs j ≠ rs k
  lo : w.heap.size ≤ lb ∧ w.heap.size ≤ sb
set_option maxRecDepth 100000 in
theorem newL_any (b n Z mg mc : Nat) (qs : Nat → Nat) (w : World) (hn : 1 ≤ n ∧ n ≤ 64) (hm : w.ownsRow Z 68 1 (.slice (some ⟨mg, 0, none⟩) n mc) n (mVs qs n)) :
    Calls Try.prog 16 #[.pointer (some ⟨b, 0, none⟩), .slice (some ⟨mg, 0, none⟩) n mc] w fun r w' => ∃ lb sb rs, r = .returned (.tuple #[.pointer (some ⟨lb, 0, none⟩), .int .i64 0]) ∧ PLm w w' b n lb sb qs rs := by
  have HSE := hide (seats_any b n Z mg mc qs w hn hm)
  clear hm
  go_enter Try.func16, Try.ntmps16
  go_wp2_with fail
  refine HSE.out.mono ?_
  rintro e w1 ⟨rfl, rs, h1⟩
  have H1 := hide h1
  clear h1
  go_wp2_with fail
  go_ret2
  obtain ⟨cs, hcs, hsz, hall⟩ := H1.out.se
  refine ⟨_, _, rs, rfl, ⟨below_alloc H1.out.bel _, heap_new w1 _, ⟨cs, heap_old hcs _, hall⟩, fun j hj => ⟨heap_old (H1.out.po j hj).1 _, by have := (H1.out.po j hj).2; omega⟩, H1.out.inj, H1.out.bel.size, Nat.le_refl _⟩⟩
theorem info97 : (Try.prog.info? 68).map (fun i => (i.zero, i.size, i.bytes)) = some (some .nilIface, 1, 16) := by kernel_rfl
theorem row_ptrM {W : World} {Z n : Nat} {t : TypeId} {v : Value} {xs : List Value} (h : W.ownsRow Z t 1 v n xs) (hn : 0 < n) : ∃ g c, v = .slice (some ⟨g, 0, none⟩) n c := by
  obtain ⟨_, ⟨rfl, h0⟩ | ⟨g, c, cur, rfl, _⟩⟩ := h
  · omega
  · exact ⟨g, c, rfl⟩
theorem mVs_succ (qs : Nat → Nat) (i : Nat) : mVs qs (i + 1) = mVs qs i ++ [mV (qs i)] := by simp [mVs, List.range_succ]
end Go.Proofs.Ytdjkidgkeekenaa
