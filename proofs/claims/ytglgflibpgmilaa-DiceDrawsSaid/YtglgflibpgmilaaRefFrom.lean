/- The reference: Fair, From. -/
import Derived.Test.YtglgflibpgmilaaFair
import Derived.Test.YtglgflibpgmilaaPoly
import Derived.Laws.AppendOwnNone
namespace Go.Proofs.Ytglgflibpgmilaa
open Go.RowKit Go.Lib

set_option maxRecDepth 100000 in
set_option maxHeartbeats 2000000 in
theorem refFair_any (w : World) (base b n : Nat) (all : List Int) (s : St) (u : Nat) (hd : RefIs w base b all s u) (hs : s.Ok) (hws : Words all) (hl : all.length ≤ 17592186044416) (hu1 : u < 9223372036850581504) (hn0 : 0 < n) (hn : n < 18446744073709551616) :
    Calls Try.prog 28 #[.pointer (some ⟨b, 0, none⟩), .int .u64 n] w fun e w' => e = .returned (.tuple #[.int .u64 ((fair n (18446744073709551616 % n) 128 (all.drop u) s).1 : Nat), .int .i64 0]) ∧
      RefIs w' base b all (fair n (18446744073709551616 % n) 128 (all.drop u) s).2.2.1 (u + (fair n (18446744073709551616 % n) 128 (all.drop u) s).2.2.2) ∧ But b w w' := by
  have hne : ((n : Int) == 0) = false := by simp; omega
  obtain ⟨L, hL⟩ : ∃ L, L = 18446744073709551616 % n := ⟨_, rfl⟩
  rw [← hL]
  have hLe : (IntKind.u64.wrap (-(n : Int))).tmod (n : Int) = (L : Int) := by
    rw [IntKind.wrap_u64, Int.tmod_eq_emod_of_nonneg (Int.emod_nonneg _ (by decide)), hL]
    have h1 : -(n : Int) % 18446744073709551616 = ((18446744073709551616 - n : Nat) : Int) := by omega
    rw [h1]
    have h2 : 18446744073709551616 % n = (18446744073709551616 - n) % n := (Nat.mod_eq_sub_mod (by omega))
    rw [h2]; simp
  have HD := hide hd; have HWS := hide hws
  clear hd hL hws
  go_enter Try.func28, Try.ntmps28
  go_wp2_with fail
  obtain ⟨F, hF⟩ : ∃ F, F = fair n L 128 (all.drop u) s := ⟨_, rfl⟩
  have HF0 : Hid (FairAt n L F 0 (all.drop u) s 0) := hF ▸ FairAt.start n L _ s 0
  have HFE := hide hF
  clear hF
  go_loopw [7] (fun i wr => ∃ (k : Nat) (sc : St), k < 128 ∧ i = .int .i64 ((k : Int) + 1) ∧ sc.Ok ∧ FairAt n L F k (all.drop (u + k)) sc 0 ∧ RefIs wr base b all sc (u + k) ∧ But b w wr) (fun i _ => 129 - (RowKit.intOf i).toNat)
  case atStart => exact ⟨0, s, by omega, rfl, hs, HF0.out, HD.out, But.refl _ _⟩
  case round =>
    clear HF0
    obtain ⟨k, sc, hk, rfl, hsc, hFA, hdc, hbc⟩ := hrel
    obtain ⟨x, hx, hx1⟩ := drawn_nat (ws := all.drop (u + k)) (fun y hy => HWS.out y (List.mem_of_mem_drop hy)) sc
    have hnx := refNext_any wr base b all sc (u + k) hdc hsc hl (by omega)
    rw [hx] at hnx
    have HNX := hide hnx; have HFA := hide hFA; have HX := hide hx; have HBC := hide hbc
    clear hnx hFA hx hbc hdc
    go_wp2_with fail
    refine HNX.out.mono ?_
    clear HNX
    rintro e w2 ⟨rfl, hd2, hbut2⟩
    have HD2 := hide hd2; have HB2 := hide (HBC.out.trans hbut2)
    clear hd2 hbut2 HBC
    go_wp2_with fail
    refine (product_any x n _ hx1 hn).mono ?_
    rintro e w2 ⟨rfl, rfl⟩
    obtain ⟨hi, hhi⟩ : ∃ z, z = x * n / 18446744073709551616 := ⟨_, rfl⟩
    obtain ⟨lo, hlo⟩ : ∃ z, z = x * n % 18446744073709551616 := ⟨_, rfl⟩
    rw [← hhi, ← hlo]
    have HHI := hide hhi; have HLO := hide hlo
    clear hhi hlo
    have hshape : FairAt n L F k (all.drop (u + k)) sc 0 → (k = 127 ∨ L ≤ lo) → F = (hi, all.drop (u + k + 1), stLeft (all.drop (u + k)) sc, k + 1) := by
      intro hfa hor
      have h1 := hfa.stop hk HX.out (by rw [← HLO.out]; exact hor)
      rw [← HHI.out, tail_drop] at h1
      exact h1
    have HSH := hide hshape
    clear hshape
    by_cases hge : L ≤ lo
    · go_wp2_with fail
      go_ret2
      rw [← HFE.out, HSH.out HFA.out (.inr hge)]
      exact ⟨rfl, HD2.out, HB2.out⟩
    · have hge2 : decide (L ≤ lo) = false := by simpa using hge
      by_cases hk7 : k = 127
      · subst hk7
        go_wp2_with fail
        go_ret2
        rw [← HFE.out, HSH.out HFA.out (.inl (by simp))]
        exact ⟨rfl, HD2.out, HB2.out⟩
      · have hkb : (((k : Int) + 1) == 128) = false := by simp; omega
        go_wp2_with fail
        go_roundw
        case rel =>
          have hgo := HFA.out.go hk HX.out (by rw [← HLO.out]; exact hge)
          rw [tail_drop] at hgo
          exact ⟨k + 1, stLeft (all.drop (u + k)) sc, by omega, by go_num, stLeft_ok hsc, ⟨hgo.1, fun h => by omega⟩, HD2.out, HB2.out⟩
        case measure => simp [RowKit.intOf]; omega
set_option maxRecDepth 100000 in
theorem refFrom_zero (s : St) (v : Value) (w : World) (hz : s.isZero = true) :
    Calls Try.prog 22 #[stAgg s, v] w fun e w' => e = .returned (.tuple #[.pointer none, .int .i64 7]) ∧ Below w.heap.size w w' := by
  unfold St.isZero at hz
  simp only [Bool.and_eq_true] at hz
  obtain ⟨z0, z1, z2, z3⟩ := hz
  unfold stAgg
  go_enter Try.func22, Try.ntmps22
  go_wp2_with fail
  go_ret2
  exact ⟨rfl, (Below.refl _ _).alloc (Nat.le_refl _) _⟩

/-- What the reference's dice are once the words lie there. -/
theorem ref_made {w w2 : World} {s : St} {ao : Option Addr} {c : Nat} {ws : List Int} (hB : Below (w.heap.size + 2) ((w.alloc (.cells (stCells s) 41)).alloc (RObj (.slice none 0 0) 0 s)) w2)
    (hO : w2.ownsRow (w.heap.size + 2) 22 1 (.slice ao ws.length c) ws.length (ws.map (Value.int .u64))) :
    RefIs (w2.setCell ⟨w.heap.size + 1, 0, none⟩ (.slice ao ws.length c)) w.heap.size (w.heap.size + 1) ws s 0 ∧ Below w.heap.size w (w2.setCell ⟨w.heap.size + 1, 0, none⟩ (.slice ao ws.length c)) := by
  have hb : ((w.alloc (.cells (stCells s) 41)).alloc (RObj (.slice none 0 0) 0 s)).heap[w.heap.size + 1]? = some (RObj (.slice none 0 0) 0 s) := by
    have := heap_new (w.alloc (.cells (stCells s) 41)) (RObj (.slice none 0 0) 0 s)
    simpa using this
  have hb2 : w2.heap[w.heap.size + 1]? = some (RObj (.slice none 0 0) 0 s) := (hB.block _ (by omega)).trans hb
  have hL : Below w.heap.size w w2 := (((Below.refl _ w).alloc (Nat.le_refl _) _).alloc (by simp) _).trans (hB.mono (by omega))
  refine ⟨⟨by omega, .slice ao ws.length c, heap_set hb2 _, ?_⟩, hL.setCell (by simp) _⟩
  obtain ⟨_, ⟨he, hn⟩ | ⟨g, cap, cur, he, hg, hh, hnc, hcm, hcur, htake⟩⟩ := hO
  · exact .inl ⟨he, List.eq_nil_of_length_eq_zero hn⟩
  · simp only [Value.slice.injEq, true_and] at he
    obtain ⟨rfl, rfl⟩ := he
    have hgl := lt_of_heap hh
    have hh' : (w2.setCell ⟨w.heap.size + 1, 0, none⟩ (.slice (some ⟨g, 0, none⟩) ws.length c)).heap[g]? = some (.cells cur 22 (0, 0)) := by
      rw [Below.heap_setCell _ _ _ _ (by show g ≠ w.heap.size + 1; omega)]; exact hh
    refine .inr ⟨g, c, rfl, by omega, by omega, ⟨by simpa [World.setCell] using hgl, cur, (0, 0), hh'⟩, hnc, hcm, fun i hi => ?_⟩
    refine cell_of hh' ?_
    have e1 : (cur.toList.take (ws.length * 1))[i]? = (ws.map (Value.int .u64))[i]? := by rw [htake]
    rw [List.getElem?_take_of_lt (by omega)] at e1
    have e2 : cur[i]? = cur.toList[i]? := by simp
    rw [e2, e1]
    simp [List.getElem?_eq_getElem hi]

theorem new2 (w : World) (o p : Obj) : ((w.alloc o).alloc p).heap[w.heap.size + 1]? = some p := by
  have := heap_new (w.alloc o) p
  simpa using this
theorem ref_app {w w2 : World} {s : St} {v' : Value} {ws : List Int} (hown : w2.ownsRow (w.heap.size + 2) 22 1 v' (0 + ws.length) ([] ++ ws.map (Value.int .u64)))
    (hgrow : ((w.alloc (.cells (stCells s) 41)).alloc (RObj (.slice none 0 0) 0 s)).grownBy w2 (Value.slice none 0 0).ownBlock) :
    ∃ ao c, v' = .slice ao ws.length c ∧ w2.cell? ⟨w.heap.size + 1, 0, none⟩ = some (.slice none 0 0) ∧ w2.frozen? ⟨w.heap.size + 1, 0, none⟩ = false ∧
      Hid (RefIs (w2.setCell ⟨w.heap.size + 1, 0, none⟩ (.slice ao ws.length c)) w.heap.size (w.heap.size + 1) ws s 0 ∧ Below w.heap.size w (w2.setCell ⟨w.heap.size + 1, 0, none⟩ (.slice ao ws.length c))) := by
  simp only [Nat.zero_add, List.nil_append] at hown
  obtain ⟨ao2, c2, rfl⟩ := owns_shape hown
  have hB : Below (w.heap.size + 2) ((w.alloc (.cells (stCells s) 41)).alloc (RObj (.slice none 0 0) 0 s)) w2 := (Below.refl _ _).grown hgrow (by simp) (by intro k hk; simp [Value.ownBlock] at hk)
  have hb2 : w2.heap[w.heap.size + 1]? = some (RObj (.slice none 0 0) 0 s) := (hB.block _ (by omega)).trans (new2 w _ _)
  exact ⟨ao2, c2, rfl, cell_of hb2 rfl, free_of hb2 0, ref_made hB hown⟩
theorem ref_news {w : World} {a : Addr} {ws : List Int} {o p : Obj} (h : ∀ b, some a = some b → ∀ i, i < ws.length → w.cell? (b.add i) = some (.int .u64 (ws.getD i 0))) :
    ∀ j u, (ws.map (Value.int .u64))[j]? = some u → ((w.alloc o).alloc p).cell? (a.add j) = some u := by
  intro j u hj
  have hjn : j < ws.length := by
    have := (List.getElem?_eq_some_iff.1 hj).1
    simpa using this
  refine Lib.cell?_alloc_some _ (Lib.cell?_alloc_some _ ?_)
  rw [h a rfl j hjn]
  have e : (ws.map (Value.int .u64))[j]? = some (Value.int .u64 (ws.getD j 0)) := by simp [List.getD, List.getElem?_eq_getElem hjn]
  rw [e] at hj
  exact hj
theorem ref_one (ws : List Int) : ∀ u ∈ ws.map (Value.int .u64), u.oneCell' = true := by
  intro u hu; obtain ⟨x, _, rfl⟩ := List.mem_map.1 hu; rfl

set_option maxRecDepth 100000 in
set_option maxHeartbeats 2000000 in
theorem refFrom_any (s : St) (v : Value) (ws : List Int) (w : World) (hz : s.isZero = false) (hv : RowAt .u64 w v ws) (hbig : ws.length * 8 ≤ 140737488355328) :
    Calls Try.prog 22 #[stAgg s, v] w fun e w' => ∃ b, e = .returned (.tuple #[.pointer (some ⟨b, 0, none⟩), .int .i64 0]) ∧ w.heap.size ≤ b ∧ RefIs w' w.heap.size b ws s 0 ∧ Below w.heap.size w w' := by
  obtain ⟨i0, hi, hz0, hz1, hz2⟩ := info_parts Try.info22
  have hzz : ((s.a : Int) == 0 && ((s.b : Int) == 0 && ((s.c : Int) == 0 && (s.d : Int) == 0))) = false := hz
  obtain ⟨ao, c, rfl, h1, h2, h3, h4⟩ := hv
  have H4 := hide h4
  clear h4 hz
  have hways : (((s.a : Int) == 0) = false) ∨ (((s.a : Int) == 0) = true ∧ ((s.b : Int) == 0) = false) ∨ (((s.a : Int) == 0) = true ∧ ((s.b : Int) == 0) = true ∧ ((s.c : Int) == 0) = false) ∨
      (((s.a : Int) == 0) = true ∧ ((s.b : Int) == 0) = true ∧ ((s.c : Int) == 0) = true ∧ ((s.d : Int) == 0) = false) := by
    cases h5 : ((s.a : Int) == 0) <;> cases h6 : ((s.b : Int) == 0) <;> cases h7 : ((s.c : Int) == 0) <;> cases h8 : ((s.d : Int) == 0) <;> simp_all
  clear hzz
  cases ao with
  | none =>
    have hn0 : ws.length = 0 := by have := h3 rfl; omega
    obtain rfl : ws = [] := List.eq_nil_of_length_eq_zero hn0
    have hc0 : c = 0 := h3 rfl
    subst hc0
    clear h3 hn0
    unfold stAgg
    rcases hways with y0 | ⟨y0, y1⟩ | ⟨y0, y1, y2⟩ | ⟨y0, y1, y2, y3⟩
    all_goals
      go_enter Try.func22, Try.ntmps22
      go_wp2_with (at_builtin; refine wpList_append_own_none rfl _ _ 23 rfl (w.heap.size + 2) 22 i0 1 Try.underlying23 hi (.slice none 0 0) 0 [] rfl (World.ownsRow_nil _ _ _ _) rfl ?_)
      go_ret2
      refine ⟨w.heap.size + 1, rfl, by omega, ⟨by omega, .slice none 0 0, ?_, .inl ⟨rfl, rfl⟩⟩, ((Below.refl _ w).alloc (Nat.le_refl _) _).alloc (by simp) _⟩
      exact new2 w _ _
  | some a =>
    clear h3
    unfold stAgg
    rcases hways with y0 | ⟨y0, y1⟩ | ⟨y0, y1, y2⟩ | ⟨y0, y1, y2, y3⟩
    all_goals
      go_enter Try.func22, Try.ntmps22
      go_wp2_with (at_builtin; refine wpList_append_own _ rfl _ _ 23 rfl (w.heap.size + 2) 22 i0 (.int .u64 0) 1 8 Try.underlying23 hi hz0 hz1 hz2 rfl (by decide) _ _ _ rfl (World.ownsRow_nil _ _ _ _) a ws.length c (ws.map (Value.int .u64)) rfl (by simp) (ref_news H4.out) (ref_one ws) (by unfold maxLen; omega) (by omega) (by simp) ?_; intro v' w2 hown hgrow _; obtain ⟨ao2, c2, rfl, c0, f0, HM⟩ := ref_app hown hgrow; clear hown hgrow)
      go_ret2
      exact ⟨w.heap.size + 1, rfl, by omega, HM.out⟩
end Go.Proofs.Ytglgflibpgmilaa
