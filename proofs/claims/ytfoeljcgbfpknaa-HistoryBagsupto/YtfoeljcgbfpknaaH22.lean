/- The program's playQueue. -/
import Derived.Test.YtfoeljcgbfpknaaH21
namespace Go.Proofs.Ytfoeljcgbfpknaa
open Go.RowKit Go.Lib
set_option linter.unusedVariables false
set_option linter.unusedSimpArgs false
def nOp (s : Sp) : Bool := !(s.en == -1)
def PyP (q : Bool) (c : Sp → Bool) (l : List Sp) (o : List Int) (w : World) (x : Ending) (w' : World) : Prop := Below w.heap.size w w' ∧ ∃ b : Bool, x = .returned (.bool b) ∧ (b = true ↔ (play q c l o o.length).isSome = true)
theorem PyP.no {q : Bool} {c : Sp → Bool} {l : List Sp} {o : List Int} {w w' : World} {x : Ending} {i : Nat} (hb : Below w.heap.size w w') (hx : x = .returned (.bool false)) (hi : i ≤ o.length) (h : play q c l o i = none) : PyP q c l o w x w' :=
  ⟨hb, false, hx, fun e => (by cases e), fun e => by rw [play_stays q c l o h hi] at e; cases e⟩
theorem PyP.yes {q : Bool} {c : Sp → Bool} {l : List Sp} {o : List Int} {w w' : World} {x : Ending} {i : Nat} {y : List Tk} (hb : Below w.heap.size w w') (hx : x = .returned (.bool true)) (hi : i = o.length) (h : play q c l o i = some y) : PyP q c l o w x w' :=
  ⟨hb, true, hx, fun _ => by rw [← hi, h]; rfl, fun _ => rfl⟩
theorem neq_task (a0 a1 b0 b1 : Int) (w : World) :
    (binOp .neq 67 (.agg #[.int .u64 a0, .int .u64 a1]) (.agg #[.int .u64 b0, .int .u64 b1])).run Try.prog w = .ok (.bool (!(a0 == b0 && (a1 == b1 && true)))) w := by
  rw [run_neq_struct, show (10000 : Nat) = 9998 + 1 + 1 from rfl, equal_task, Result.andThen_ok]
set_option maxRecDepth 100000 in
set_option maxHeartbeats 4000000 in
theorem playQueue_any (v vo : Value) (l : List Sp) (o : List Int) (w : World) (h : RAt Sp.arr 7 w v l) (ho : RowAt .i64 w vo o) (hr : Ord l o) (hol : o.length ≤ 1759218604440) : Calls Try.prog 60 #[v, vo] w (PyP true nOp l o w) := by
  obtain ⟨ao, cap, rfl, hcap, h63⟩ := h.shape
  have H := hide h
  have ho63 := ho
  obtain ⟨oo, oc, rfl, ho1, ho2, _⟩ := ho63
  have HO := hide ho
  have HR := hide hr
  obtain ⟨n, hn⟩ : ∃ n, n = l.length := ⟨_, rfl⟩
  have HN := hide hn
  obtain ⟨m, hm⟩ : ∃ m, m = o.length := ⟨_, rfl⟩
  have HM := hide hm
  rw [← hn] at hcap H ⊢
  rw [← hm] at HO ho1 hol ⊢
  clear h hn hm ho hr
  go_enter Try.func60, Try.ntmps60
  go_wp2_with fail
  go_loopw [4, 5, 11] (fun va vq t wr => ∃ i : Nat, i ≤ m ∧ va = .bool false ∧ t = .int .i64 (i : Int) ∧ ∃ c, play true nOp l o i = some c ∧ QO w wr vq c) (fun _ _ t _ => m - (RowKit.intOf t).toNat)
  case atStart => exact ⟨0, Nat.zero_le _, rfl, rfl, [], rfl, QO.nil w w (Below.refl _ _)⟩
  case round =>
    obtain ⟨i, him, rfl, rfl, c, hpc, hqo⟩ := hrel
    have HQ := hide hqo
    have HPC := hide hpc
    have HCL : Hid (c.length ≤ 1759218604440) := by have := play_len _ _ _ _ _ _ hpc; show _ ≤ _; omega
    clear hqo hpc
    by_cases hlt : i < m
    · have hli : (i : Int) < (m : Int) := by omega
      obtain ⟨go, po, co, e1, e18, x1⟩ := (HO.out.below HQ.out.bel).cellAt i (by rw [← HM.out]; exact hlt)
      simp only [Value.slice.injEq] at e1
      obtain ⟨rfl, he17, rfl⟩ := e1
      clear he17 e18
      obtain ⟨hr0, hr1⟩ := HR.out i (by rw [← HM.out]; exact hlt)
      obtain ⟨p, hp⟩ : ∃ p, p = oN o i := ⟨_, rfl⟩
      have hpi : at_ o i = (p : Int) := by rw [hp]; unfold oN; omega
      rw [hpi] at x1 hr1
      rw [← HN.out] at hr1
      obtain ⟨gs, os, rfl, hgs, i0, i1, i2, i3, i4, i5, i6⟩ := sp_cells (H.out.below HQ.out.bel) p (by rw [← HN.out]; omega)
      have HPI := hide (fun W => isOpen_any (spAt l p) W)
      have HS : Hid (play true nOp l o (i + 1) = play1 true (!((spAt l p).en == -1)) c (spAt l p)) := by show _ = _; rw [play, HPC.out, hp]; rfl
      generalize spAt l p = si at i0 i1 i2 i3 i4 i5 i6 HPI HS
      obtain ⟨who, ins, key, load, beg, en, kind⟩ := si
      unfold Sp.arr at HPI
      simp only at i0 i1 i2 i3 i4 i5 i6 HPI HS
      generalize (en == -1) = op at HPI HS
      clear hr0 hpi hp
      have HQX : Hid ((wr.alloc (.cells #[.int .i64 who, .bool ins, .int .u64 key, .int .u64 load, .int .i64 beg, .int .i64 en, .int .i64 kind] 69)).heap[wr.heap.size]? = some (.cells #[.int .i64 who, .bool ins, .int .u64 key, .int .u64 load, .int .i64 beg, .int .i64 en, .int .i64 kind] 69 (0, 0))) := heap_new _ _
      cases ins with
      | true =>
        have HN2 : Hid (play true nOp l o (i + 1) = some (c ++ [⟨key, load⟩])) := by show _ = _; rw [HS.out]; rfl
        have HQ5 : Hid (QO w ((wr.alloc (.cells #[.int .i64 who, .bool true, .int .u64 key, .int .u64 load, .int .i64 beg, .int .i64 en, .int .i64 kind] 69)).alloc (.cells #[.int .u64 key, .int .u64 load] 67)) u5 c) := (HQ.out.on (below_alloc (Below.refl _ _) _)).on (below_alloc (Below.refl _ _) _)
        have HAT : Hid (∀ j u, (Tk.arr ⟨key, load⟩).toList[j]? = some u → ((wr.alloc (.cells #[.int .i64 who, .bool true, .int .u64 key, .int .u64 load, .int .i64 beg, .int .i64 en, .int .i64 kind] 69)).alloc (.cells #[.int .u64 key, .int .u64 load] 67)).cell? ((⟨wr.heap.size + 1, 0, none⟩ : Addr).add j) = some u) := by
          have hq := arr_at (wr.alloc (.cells #[.int .i64 who, .bool true, .int .u64 key, .int .u64 load, .int .i64 beg, .int .i64 en, .int .i64 kind] 69)) #[.int .u64 key, .int .u64 load] 67
          rw [show (wr.alloc (.cells #[.int .i64 who, .bool true, .int .u64 key, .int .u64 load, .int .i64 beg, .int .i64 en, .int .i64 kind] 69)).heap.size = wr.heap.size + 1 by simp] at hq
          exact hq
        clear HS HPI
        go_wp2_with (first
          | (at_builtin; refine wpList_append_q rfl (.tmp 24) (.tmp 27) rfl _ c HQ5.out rfl ⟨wr.heap.size + 1, 0, none⟩ 1 ⟨key, load⟩ rfl HAT.out HCL.out ?_; intro v6 w6 hq6; have HQ6 := hide hq6; clear hq6)
          | fail)
        exact ⟨⟨i + 1, by omega, rfl, by simp, _, HN2.out, HQ6.out⟩, by simp [RowKit.intOf]; omega⟩
      | false =>
        obtain ⟨X, hX⟩ : ∃ X, X = wr.alloc (.cells #[.int .i64 who, .bool false, .int .u64 key, .int .u64 load, .int .i64 beg, .int .i64 en, .int .i64 kind] 69) := ⟨_, rfl⟩
        have HBX : Hid (Below wr.heap.size wr X) := by rw [hX]; exact below_alloc (Below.refl _ _) _
        rw [← hX] at HQX
        have HXB := hide (HQ.out.on HBX.out)
        have z0 : ∀ x : GW X, x.world.cell? ⟨wr.heap.size, 0, none⟩ = some (.int .i64 who) := fun x => cell_of ((x.bel.block _ (lt_of_heap HQX.out)).trans HQX.out) (i := 0) rfl
        have z1 : ∀ x : GW X, x.world.cell? ⟨wr.heap.size, 1, none⟩ = some (.bool false) := fun x => cell_of ((x.bel.block _ (lt_of_heap HQX.out)).trans HQX.out) (i := 1) rfl
        have z2 : ∀ x : GW X, x.world.cell? ⟨wr.heap.size, 2, none⟩ = some (.int .u64 key) := fun x => cell_of ((x.bel.block _ (lt_of_heap HQX.out)).trans HQX.out) (i := 2) rfl
        have z3 : ∀ x : GW X, x.world.cell? ⟨wr.heap.size, 3, none⟩ = some (.int .u64 load) := fun x => cell_of ((x.bel.block _ (lt_of_heap HQX.out)).trans HQX.out) (i := 3) rfl
        have z4 : ∀ x : GW X, x.world.cell? ⟨wr.heap.size, 4, none⟩ = some (.int .i64 beg) := fun x => cell_of ((x.bel.block _ (lt_of_heap HQX.out)).trans HQX.out) (i := 4) rfl
        have z5 : ∀ x : GW X, x.world.cell? ⟨wr.heap.size, 5, none⟩ = some (.int .i64 en) := fun x => cell_of ((x.bel.block _ (lt_of_heap HQX.out)).trans HQX.out) (i := 5) rfl
        have z6 : ∀ x : GW X, x.world.cell? ⟨wr.heap.size, 6, none⟩ = some (.int .i64 kind) := fun x => cell_of ((x.bel.block _ (lt_of_heap HQX.out)).trans HQX.out) (i := 6) rfl
        cases c with
        | nil =>
          obtain ⟨qo, qc, hqv, hqc⟩ := HQ.out.shape
          subst hqv
          simp only [List.length_nil] at *
          have HNN : Hid (play true nOp l o (i + 1) = none) := by show _ = _; rw [HS.out]; rfl
          have HIM : Hid (i + 1 ≤ o.length) := by rw [← HM.out]; exact hlt
          clear HS
          go_upto_region 9 with fail
          rw [← hX]
          refine wp_region_gw (by kernel_rfl) (by kernel_rfl) ?_
          repeat (go_big_quiet_step (first | rfl))
          refine wpQuiet_nil ?_
          rintro _ ⟨x, rfl⟩
          go_wp2_with fail
          go_ret
          exact PyP.no (below_on HXB.out.bel x.bel) rfl HIM.out HNN.out
        | cons tt r =>
          obtain ⟨g, q, qc, hqv, hqc, hq63, t0, t1, hq2⟩ := HQ.out.cons
          subst hqv
          have hg : g < wr.heap.size := block_of_cell t0
          have t0' : ∀ x : GW X, x.world.cell? ⟨g, q, none⟩ = some (.int .u64 tt.key) := fun x => (below_cell (below_on HBX.out x.bel) hg).trans t0
          have t1' : ∀ x : GW X, x.world.cell? ⟨g, q + 1, none⟩ = some (.int .u64 tt.load) := fun x => (below_cell (below_on HBX.out x.bel) hg).trans t1
          obtain ⟨kk, hkk⟩ : ∃ kk, kk = r.length + 1 := ⟨_, rfl⟩
          have HKK : Hid (r.length = kk - 1) := by show _ = _; omega
          have hk1 : ((kk : Int) == 0) = false := by simp; omega
          have hk2 : (1 : Int) ≤ (kk : Int) := by omega
          have hk3 : 1 ≤ kk := by omega
          have hk4 : (0 : Int) < (kk : Int) := by omega
          rw [HKK.out] at hq2
          rw [← hkk] at hqc ⊢
          have HQ2 := hide hq2
          clear hkk t0 t1 hq2
          obtain ⟨tk, tl⟩ := tt
          simp only at t0' t1'
          have heq := fun W => neq_task tk tl key load W
          have HTE := hide (tk_eq ⟨tk, tl⟩ ⟨key, load⟩)
          simp only at HTE
          generalize (tk == key && (tl == load && true)) = qq at heq HTE
          obtain ⟨QA, hQA⟩ : ∃ QA, (if qc = 1 then some (⟨g, q, none⟩ : Addr) else some ⟨g, q + 2, none⟩) = QA := ⟨_, rfl⟩
          rw [hQA] at HQ2
          have HIM : Hid (i + 1 ≤ o.length) := by rw [← HM.out]; exact hlt
          have hsplit : Hid ((op = true ∨ qq = true) → play true nOp l o (i + 1) = some r) := fun hh => by
            rw [HS.out]
            unfold play1
            simp only [Bool.false_eq_true, if_false, if_true]
            rw [if_neg]
            rintro ⟨h1, h2⟩
            rcases hh with hh | hh
            · rw [hh] at h1; cases h1
            · exact h2 (HTE.out.1 hh)
          have hnone : Hid (op = false → qq = false → play true nOp l o (i + 1) = none) := fun h1 h2 => by
            rw [HS.out]
            unfold play1
            simp only [Bool.false_eq_true, if_false, if_true]
            rw [if_pos]
            exact ⟨by rw [h1]; rfl, fun h3 => by have := HTE.out.2 h3; rw [h2] at this; cases this⟩
          clear HS HTE
          cases op with
          | true =>
            go_upto_region 9 with fail
            rw [← hX]
            refine wp_region_gw (by kernel_rfl) (by kernel_rfl) ?_
            repeat (go_big_quiet_step (first | (go_at_call 96; exact gw_of (HPI.out _)) | rfl))
            refine wpQuiet_nil ?_
            rintro _ ⟨x, rfl⟩
            go_wp2_with fail
            exact ⟨⟨i + 1, by omega, rfl, by simp, _, hsplit.out (.inl rfl), (HQ2.out.on HBX.out).on x.bel⟩, by simp [RowKit.intOf]; omega⟩
          | false =>
            cases qq with
            | true =>
              go_upto_region 9 with fail
              rw [← hX]
              refine wp_region_gw (by kernel_rfl) (by kernel_rfl) ?_
              repeat (go_big_quiet_step (first | (go_at_call 96; exact gw_of (HPI.out _)) | rfl))
              refine wpQuiet_nil ?_
              rintro _ ⟨x, rfl⟩
              go_wp2_with fail
              exact ⟨⟨i + 1, by omega, rfl, by simp, _, hsplit.out (.inr rfl), (HQ2.out.on HBX.out).on x.bel⟩, by simp [RowKit.intOf]; omega⟩
            | false =>
              go_upto_region 9 with fail
              rw [← hX]
              refine wp_region_gw (by kernel_rfl) (by kernel_rfl) ?_
              repeat (go_big_quiet_step (first | (go_at_call 96; exact gw_of (HPI.out _)) | rfl))
              refine wpQuiet_nil ?_
              rintro _ ⟨x, rfl⟩
              go_wp2_with fail
              go_ret
              exact PyP.no (below_on HXB.out.bel x.bel) rfl HIM.out (hnone.out (by simp) (by simp))
    · obtain rfl : m = i := by omega
      go_wp2_with fail
      go_ret
      exact PyP.yes HQ.out.bel rfl HM.out HPC.out
end Go.Proofs.Ytfoeljcgbfpknaa
