/- The document's Bears. -/
import Derived.Test.YtfoeljcgbfpknaaH25
namespace Go.Proofs.Ytfoeljcgbfpknaa
open Go.RowKit Go.Lib
set_option linter.unusedVariables false
set_option linter.unusedSimpArgs false
set_option maxRecDepth 100000 in
set_option maxHeartbeats 4000000 in
theorem bears_any (v vo : Value) (l : List Sp) (o : List Int) (q : Bool) (w : World) (h : RAt Sp.arr 7 w v l) (ho : RowAt .i64 w vo o) (hl : l.length ≤ 1759218604440) : Calls Try.prog 28 #[v, vo, .bool q] w (AnP (BrA l o q) w) := by
  obtain ⟨i0, hi0, hz0, hz1, hz2⟩ := info_parts info67
  have HT := hide (listed_any v vo l o q w h ho hl)
  obtain ⟨ao, cap, rfl, hcap, h63⟩ := h.shape
  have H := hide h
  have ho63 := ho
  obtain ⟨oo, oc, rfl, ho1, ho2, _⟩ := ho63
  have HO := hide ho
  obtain ⟨n, hn⟩ : ∃ n, n = l.length := ⟨_, rfl⟩
  have HN := hide hn
  obtain ⟨m, hm⟩ : ∃ m, m = o.length := ⟨_, rfl⟩
  have HM := hide hm
  rw [← hn] at hcap H HT hl ⊢
  rw [← hm] at HO HT ho1 ⊢
  clear h hn hm ho
  go_enter Try.func28, Try.ntmps28
  go_wp2_with fail
  refine HT.out.mono ?_
  rintro e w1 ⟨hb1, b1, rfl, hi1⟩
  have HB1 := hide hb1
  have HI1 := hide hi1
  clear hb1 hi1 HT
  cases b1 with
  | false =>
    have HNO : Hid (¬ BrA l o q) := fun hh => by have := HI1.out.2 hh.1; cases this
    clear HI1
    go_wp2_with fail
    go_ret
    exact AnP.no HB1.out rfl HNO.out
  | true =>
    have HLS := hide (HI1.out.1 rfl)
    have hol : m ≤ 1759218604440 := by have := lsd_few HLS.out; rw [← HM.out, ← HN.out] at this; omega
    have HST : Hid (∀ i, i ≤ o.length → play q cntD l o i = none → ¬ BrA l o q) := fun i hi hp hh => by have := hh.2; rw [play_stays _ _ _ _ hp hi] at this; cases this
    clear HI1
    go_wp2_with fail
    go_loopw [6, 7, 8] (fun va vb t wr => ∃ i : Nat, i ≤ m ∧ va = .bool false ∧ t = .int .i64 (i : Int) ∧ ∃ c, play q cntD l o i = some c ∧ TO w wr vb c) (fun _ _ t _ => m - (RowKit.intOf t).toNat)
    case atStart => exact ⟨0, Nat.zero_le _, rfl, rfl, [], rfl, TO.nil w w1 HB1.out⟩
    case round =>
      obtain ⟨i, him, rfl, rfl, c, hpc, hqo⟩ := hrel
      have HQ := hide hqo
      have HPC := hide hpc
      have hcl := play_len _ _ _ _ _ _ hpc
      have HCL : Hid (c.length ≤ 1759218604440) := by show _ ≤ _; omega
      have HCLL := HCL
      clear hqo hpc hcl
      by_cases hlt : i < m
      · have hli : (i : Int) < (m : Int) := by omega
        obtain ⟨go, po, co, e1, e18, x1⟩ := (HO.out.below HQ.out.bel).cellAt i (by rw [← HM.out]; exact hlt)
        simp only [Value.slice.injEq] at e1
        obtain ⟨rfl, he17, rfl⟩ := e1
        clear he17 e18
        obtain ⟨hr0, hr1, _⟩ := HLS.out.1 i (by rw [← HM.out]; exact hlt)
        obtain ⟨p, hp⟩ : ∃ p, p = oN o i := ⟨_, rfl⟩
        have hpi : at_ o i = (p : Int) := by rw [hp]; unfold oN; omega
        rw [hpi] at x1 hr1
        rw [← HN.out] at hr1
        obtain ⟨gs, os, rfl, hgs, p0, p1, p2, p3, p4, p5, p6⟩ := sp_cells (H.out.below HQ.out.bel) p (by rw [← HN.out]; omega)
        have HCN := hide (fun W => counts_any (spAt l p) W)
        have HS : Hid (play q cntD l o (i + 1) = play1 q (cntD (spAt l p)) c (spAt l p)) := by show _ = _; rw [play, HPC.out, hp]; rfl
        have HIM : Hid (i + 1 ≤ o.length) := by rw [← HM.out]; exact hlt
        have HST1 := hide (HST.out (i + 1) HIM.out)
        generalize spAt l p = si at p0 p1 p2 p3 p4 p5 p6 HS HCN
        generalize cntD si = cb at HS HCN
        obtain ⟨who, ins, key, load, beg, en, kind⟩ := si
        unfold Sp.arr at HCN
        simp only at p0 p1 p2 p3 p4 p5 p6 HS HCN
        clear hr0 hpi hp
        have HQX : Hid ((wr.alloc (.cells #[.int .i64 who, .bool ins, .int .u64 key, .int .u64 load, .int .i64 beg, .int .i64 en, .int .i64 kind] 69)).heap[wr.heap.size]? = some (.cells #[.int .i64 who, .bool ins, .int .u64 key, .int .u64 load, .int .i64 beg, .int .i64 en, .int .i64 kind] 69 (0, 0))) := heap_new _ _
        cases ins with
        | true =>
          have HN2 : Hid (play q cntD l o (i + 1) = some (c ++ [⟨key, load⟩])) := by show _ = _; rw [HS.out]; rfl
          have HQ4 := hide (HQ.out.on (below_alloc (Below.refl _ _) (.cells #[.int .i64 who, .bool true, .int .u64 key, .int .u64 load, .int .i64 beg, .int .i64 en, .int .i64 kind] 69)))
          have HQ5 := hide (HQ4.out.on (below_alloc (Below.refl _ _) (.cells #[.int .u64 key, .int .u64 load] 67)))
          have HAT : Hid (∀ j u, (Tk.arr ⟨key, load⟩).toList[j]? = some u → ((wr.alloc (.cells #[.int .i64 who, .bool true, .int .u64 key, .int .u64 load, .int .i64 beg, .int .i64 en, .int .i64 kind] 69)).alloc (.cells #[.int .u64 key, .int .u64 load] 67)).cell? ((⟨wr.heap.size + 1, 0, none⟩ : Addr).add j) = some u) := by
            have hq := arr_at (wr.alloc (.cells #[.int .i64 who, .bool true, .int .u64 key, .int .u64 load, .int .i64 beg, .int .i64 en, .int .i64 kind] 69)) #[.int .u64 key, .int .u64 load] 67
            rw [show (wr.alloc (.cells #[.int .i64 who, .bool true, .int .u64 key, .int .u64 load, .int .i64 beg, .int .i64 en, .int .i64 kind] 69)).heap.size = wr.heap.size + 1 by simp] at hq
            exact hq
          clear HS
          go_wp2_with (first
            | (at_builtin; refine wpList_append_own _ rfl (.tmp 31) (.tmp 34) 71 rfl w.heap.size 67 i0 _ 2 16 Try.underlying71 hi0 hz0 hz1 hz2 rfl (by decide) _ _ _ rfl HQ5.out.own ⟨wr.heap.size + 1, 0, none⟩ 1 1 (Tk.arr ⟨key, load⟩).toList rfl rfl HAT.out (by simp [Value.oneCell', Tk.arr]) (by have := HCL.out; unfold maxLen; omega) (by have := HCL.out; omega) HQ5.out.bel.size ?_; intro v5 w5 hownB hgrowB hqB; have HP := hide (HQ4.out.push rfl hownB hgrowB); clear hownB hgrowB hqB)
            | fail)
          exact ⟨⟨i + 1, by omega, rfl, by simp, _, HN2.out, HP.out⟩, by simp [RowKit.intOf]; omega⟩
        | false =>
          obtain ⟨X, hX⟩ : ∃ X, X = wr.alloc (.cells #[.int .i64 who, .bool false, .int .u64 key, .int .u64 load, .int .i64 beg, .int .i64 en, .int .i64 kind] 69) := ⟨_, rfl⟩
          have HBX : Hid (Below wr.heap.size wr X) := by rw [hX]; exact below_alloc (Below.refl _ _) _
          rw [← hX] at HQX
          have HXB := hide (HQ.out.on HBX.out)
          cases q with
          | true =>
            have z0 : ∀ x : GW X, x.world.cell? ⟨wr.heap.size, 0, none⟩ = some (.int .i64 who) := fun x => cell_of ((x.bel.block _ (lt_of_heap HQX.out)).trans HQX.out) (i := 0) rfl
            have z1 : ∀ x : GW X, x.world.cell? ⟨wr.heap.size, 1, none⟩ = some (.bool false) := fun x => cell_of ((x.bel.block _ (lt_of_heap HQX.out)).trans HQX.out) (i := 1) rfl
            have z2 : ∀ x : GW X, x.world.cell? ⟨wr.heap.size, 2, none⟩ = some (.int .u64 key) := fun x => cell_of ((x.bel.block _ (lt_of_heap HQX.out)).trans HQX.out) (i := 2) rfl
            have z3 : ∀ x : GW X, x.world.cell? ⟨wr.heap.size, 3, none⟩ = some (.int .u64 load) := fun x => cell_of ((x.bel.block _ (lt_of_heap HQX.out)).trans HQX.out) (i := 3) rfl
            have z4 : ∀ x : GW X, x.world.cell? ⟨wr.heap.size, 4, none⟩ = some (.int .i64 beg) := fun x => cell_of ((x.bel.block _ (lt_of_heap HQX.out)).trans HQX.out) (i := 4) rfl
            have z5 : ∀ x : GW X, x.world.cell? ⟨wr.heap.size, 5, none⟩ = some (.int .i64 en) := fun x => cell_of ((x.bel.block _ (lt_of_heap HQX.out)).trans HQX.out) (i := 5) rfl
            have z6 : ∀ x : GW X, x.world.cell? ⟨wr.heap.size, 6, none⟩ = some (.int .i64 kind) := fun x => cell_of ((x.bel.block _ (lt_of_heap HQX.out)).trans HQX.out) (i := 6) rfl
            cases c with
            | nil =>
              obtain ⟨qo, qc, hqv, hqc, hq63⟩ := HQ.out.rat.shape
              subst hqv
              simp only [List.length_nil] at *
              have HNO : Hid (¬ BrA l o true) := HST1.out (by rw [HS.out]; rfl)
              clear HS HST1
              go_upto_region 13 with fail
              rw [← hX]
              clear hX
              refine wp_region_gw (by kernel_rfl) (by kernel_rfl) ?_
              repeat (go_big_quiet_step (first | (go_at_call 40; exact gw_of (HCN.out _)) | rfl))
              refine wpQuiet_nil ?_
              rintro _ ⟨x, rfl⟩
              go_wp2_with fail
              go_ret
              exact AnP.no (below_on HXB.out.bel x.bel) rfl HNO.out
            | cons tt r =>
              obtain ⟨qo, qc, hqv, hqc, hq63⟩ := HQ.out.rat.shape
              subst hqv
              obtain ⟨g, q, rfl, hg, t0, t1⟩ := tk_cells HQ.out.rat 0 (by simp)
              have t0' : ∀ x : GW X, x.world.cell? ⟨g, q, none⟩ = some (.int .u64 tt.key) := fun x => (below_cell (below_on HBX.out x.bel) hg).trans (by simpa [tkAt] using t0)
              have t1' : ∀ x : GW X, x.world.cell? ⟨g, q + 1, none⟩ = some (.int .u64 tt.load) := fun x => (below_cell (below_on HBX.out x.bel) hg).trans (by simpa [tkAt] using t1)
              clear t0 t1
              obtain ⟨kk, hkk⟩ : ∃ kk, kk = (tt :: r).length := ⟨_, rfl⟩
              have hk0 : 0 < kk := by rw [hkk]; simp
              have hk1 : ¬ (kk : Int) ≤ 0 := by omega
              have hk2 : (0 : Int) < (kk : Int) := by omega
              have hk5 : ¬ kk = 0 := by omega
              have hk6 : decide ((kk : Int) ≤ 0) = false := by simp; omega
              have hk7 : ¬ kk ≤ 0 := by omega
              have hk8 : decide (kk = 0) = false := by simp; omega
              rw [← hkk] at hqc HCL HQ HXB ⊢
              clear hkk
              have heq := fun W => neq_task tt.key tt.load key load W
              have HTE := hide (tk_eq tt ⟨key, load⟩)
              have hsome : Hid ((cb = false ∨ (tt.key == key && (tt.load == load && true)) = true) → play true cntD l o (i + 1) = some ((tt :: r).eraseIdx 0)) := fun hh => by
                rw [HS.out]
                unfold play1
                simp only [Bool.false_eq_true, if_false, if_true, List.eraseIdx_cons_zero]
                rw [if_neg]
                rintro ⟨h1, h2⟩
                rcases hh with hh | hh
                · rw [hh] at h1; cases h1
                · exact h2 (HTE.out.1 hh)
              have hnone : Hid (cb = true → (tt.key == key && (tt.load == load && true)) = false → play true cntD l o (i + 1) = none) := fun h1 h2 => by
                rw [HS.out]
                unfold play1
                simp only [Bool.false_eq_true, if_false, if_true]
                rw [if_pos]
                exact ⟨h1, fun h3 => by have := HTE.out.2 h3; rw [h2] at this; cases this⟩
              have HLT : Hid ((tt :: r).length ≤ 1759218604440) := HCLL.out
              obtain ⟨c, hc⟩ : ∃ c, c = tt :: r := ⟨_, rfl⟩
              rw [← hc] at HLT HQ HXB hsome
              have HCL := HLT
              obtain ⟨tk, tl⟩ := tt
              simp only at t0' t1' heq hsome hnone
              generalize (tk == key && (tl == load && true)) = qq at heq hsome hnone
              clear HS HTE hc
              go_upto_region 13 with fail
              rw [← hX]
              clear hX
              cases cb with
              | false =>
                refine wp_region_gw (by kernel_rfl) (by kernel_rfl) ?_
                repeat (go_big_quiet_step (first | (go_at_call 40; exact gw_of (HCN.out _)) | rfl))
                refine wpQuiet_nil ?_
                rintro _ ⟨x, rfl⟩
                have HXX := hide (HXB.out.on x.bel)
                have HWO := hide (without_any _ c 0 x.world HXX.out.rat HCL.out)
                go_wp2_with fail
                refine HWO.out.mono ?_
                rintro e w6 ⟨v6, rfl, ht6⟩
                have HT6 := hide (TO.mk (below_on HXX.out.bel ht6.bel) (ht6.own.base HXX.out.bel.size))
                clear ht6
                go_wp2_with fail
                exact ⟨⟨i + 1, by omega, rfl, by simp, _, hsome.out (.inl (by simp)), HT6.out⟩, by simp [RowKit.intOf]; omega⟩
              | true =>
                cases qq with
                | true =>
                  refine wp_region_gw (by kernel_rfl) (by kernel_rfl) ?_
                  repeat (go_big_quiet_step (first | (go_at_call 40; exact gw_of (HCN.out _)) | rfl))
                  refine wpQuiet_nil ?_
                  rintro _ ⟨x, rfl⟩
                  have HXX := hide (HXB.out.on x.bel)
                  have HWO := hide (without_any _ c 0 x.world HXX.out.rat HCL.out)
                  go_wp2_with fail
                  refine HWO.out.mono ?_
                  rintro e w6 ⟨v6, rfl, ht6⟩
                  have HT6 := hide (TO.mk (below_on HXX.out.bel ht6.bel) (ht6.own.base HXX.out.bel.size))
                  clear ht6
                  go_wp2_with fail
                  exact ⟨⟨i + 1, by omega, rfl, by simp, _, hsome.out (.inr (by simp)), HT6.out⟩, by simp [RowKit.intOf]; omega⟩
                | false =>
                  have HNO : Hid (¬ BrA l o true) := HST1.out (hnone.out (by simp) (by simp))
                  refine wp_region_gw (by kernel_rfl) (by kernel_rfl) ?_
                  repeat (go_big_quiet_step (first | (go_at_call 40; exact gw_of (HCN.out _)) | rfl))
                  refine wpQuiet_nil ?_
                  rintro _ ⟨x, rfl⟩
                  go_wp2_with fail
                  go_ret
                  exact AnP.no (below_on HXB.out.bel x.bel) rfl HNO.out
          | false =>
            have HIX := hide (find_any _ c ⟨key, load⟩ X HXB.out.rat HCL.out)
            have y2 := cell_of HQX.out (i := 2) rfl
            have y3 := cell_of HQX.out (i := 3) rfl
            have y1 := cell_of HQX.out (i := 1) rfl
            go_upto_region 12 with fail
            rw [← hX]
            clear hX
            go_wp2_with fail
            refine HIX.out.mono ?_
            rintro e w1' ⟨hb1, r, rfl, hfd⟩
            have HXB1 := hide (HXB.out.on hb1)
            replace HQX := hide ((hb1.block _ (lt_of_heap HQX.out)).trans HQX.out)
            replace HXB := HXB1
            clear HXB1 y1 y2 y3 HIX hb1
            have z0 : ∀ x : GW w1', x.world.cell? ⟨wr.heap.size, 0, none⟩ = some (.int .i64 who) := fun x => cell_of ((x.bel.block _ (lt_of_heap HQX.out)).trans HQX.out) (i := 0) rfl
            have z1 : ∀ x : GW w1', x.world.cell? ⟨wr.heap.size, 1, none⟩ = some (.bool false) := fun x => cell_of ((x.bel.block _ (lt_of_heap HQX.out)).trans HQX.out) (i := 1) rfl
            have z2 : ∀ x : GW w1', x.world.cell? ⟨wr.heap.size, 2, none⟩ = some (.int .u64 key) := fun x => cell_of ((x.bel.block _ (lt_of_heap HQX.out)).trans HQX.out) (i := 2) rfl
            have z3 : ∀ x : GW w1', x.world.cell? ⟨wr.heap.size, 3, none⟩ = some (.int .u64 load) := fun x => cell_of ((x.bel.block _ (lt_of_heap HQX.out)).trans HQX.out) (i := 3) rfl
            have z4 : ∀ x : GW w1', x.world.cell? ⟨wr.heap.size, 4, none⟩ = some (.int .i64 beg) := fun x => cell_of ((x.bel.block _ (lt_of_heap HQX.out)).trans HQX.out) (i := 4) rfl
            have z5 : ∀ x : GW w1', x.world.cell? ⟨wr.heap.size, 5, none⟩ = some (.int .i64 en) := fun x => cell_of ((x.bel.block _ (lt_of_heap HQX.out)).trans HQX.out) (i := 5) rfl
            have z6 : ∀ x : GW w1', x.world.cell? ⟨wr.heap.size, 6, none⟩ = some (.int .i64 kind) := fun x => cell_of ((x.bel.block _ (lt_of_heap HQX.out)).trans HQX.out) (i := 6) rfl
            rcases hfd with ⟨j, hj, hje, hjf, rfl⟩ | ⟨hno, rfl⟩
            · have hsome : Hid (True → play false cntD l o (i + 1) = some (c.eraseIdx j)) := fun _ => by
                rw [HS.out]
                unfold play1
                simp only [Bool.false_eq_true, if_false]
                show (if (⟨key, load⟩ : Tk) ∈ c then some (c.erase ⟨key, load⟩) else none) = _
                rw [if_pos (fd_mem hj hje), fd_erase hj hje hjf]
              obtain ⟨qo, qc, hqv, hqc, hq63⟩ := HXB.out.rat.shape
              subst hqv
              obtain ⟨g, q, rfl, hg, t0, t1⟩ := tk_cells HXB.out.rat j hj
              rw [hje] at t0 t1
              have t0' : ∀ x : GW w1', x.world.cell? ⟨g, q + j * 2, none⟩ = some (.int .u64 key) := fun x => (below_cell x.bel hg).trans t0
              have t1' : ∀ x : GW w1', x.world.cell? ⟨g, q + j * 2 + 1, none⟩ = some (.int .u64 load) := fun x => (below_cell x.bel hg).trans t1
              have heq : ∀ W, (binOp .neq 67 (.agg #[.int .u64 key, .int .u64 load]) (.agg #[.int .u64 key, .int .u64 load])).run Try.prog W = .ok (.bool false) W := fun W => by rw [neq_task]; simp
              obtain ⟨kk, hkk⟩ : ∃ kk, kk = c.length := ⟨_, rfl⟩
              have hk0 : j < kk := by rw [hkk]; exact hj
              have hk1 : ¬ (kk : Int) ≤ (j : Int) := by omega
              have hk2 : (j : Int) < (kk : Int) := by omega
              have hk3 : ¬ (j : Int) < 0 := by omega
              have hk4 : ¬ kk ≤ j := by omega
              have hk5 : decide ((kk : Int) ≤ (j : Int)) = false := by simp; omega
              have hk6 : decide (kk ≤ j) = false := by simp; omega
              have hk7 : decide ((j : Int) < 0) = false := by simp
              have HCLL := HCL
              rw [← hkk] at hqc HXB ⊢
              clear hkk HS t0 t1 hje hjf hj
              go_upto_region 13 with fail
              cases cb with
              | false =>
                refine wp_region_gw (by kernel_rfl) (by kernel_rfl) ?_
                repeat (go_big_quiet_step (first | (go_at_call 40; exact gw_of (HCN.out _)) | rfl))
                refine wpQuiet_nil ?_
                rintro _ ⟨x, rfl⟩
                have HXX := hide (HXB.out.on x.bel)
                have HWO := hide (without_any _ c j x.world HXX.out.rat HCL.out)
                go_wp2_with fail
                refine HWO.out.mono ?_
                rintro e w6 ⟨v6, rfl, ht6⟩
                have HT6 := hide (TO.mk (below_on HXX.out.bel ht6.bel) (ht6.own.base HXX.out.bel.size))
                clear ht6
                go_wp2_with fail
                exact ⟨⟨i + 1, by omega, rfl, by simp, _, hsome.out trivial, HT6.out⟩, by simp [RowKit.intOf]; omega⟩
              | true =>
                refine wp_region_gw (by kernel_rfl) (by kernel_rfl) ?_
                repeat (go_big_quiet_step (first | (go_at_call 40; exact gw_of (HCN.out _)) | rfl))
                refine wpQuiet_nil ?_
                rintro _ ⟨x, rfl⟩
                have HXX := hide (HXB.out.on x.bel)
                have HWO := hide (without_any _ c j x.world HXX.out.rat HCL.out)
                go_wp2_with fail
                refine HWO.out.mono ?_
                rintro e w6 ⟨v6, rfl, ht6⟩
                have HT6 := hide (TO.mk (below_on HXX.out.bel ht6.bel) (ht6.own.base HXX.out.bel.size))
                clear ht6
                go_wp2_with fail
                exact ⟨⟨i + 1, by omega, rfl, by simp, _, hsome.out trivial, HT6.out⟩, by simp [RowKit.intOf]; omega⟩
            · have HNO : Hid (¬ BrA l o false) := HST1.out (by
                rw [HS.out]
                unfold play1
                simp only [Bool.false_eq_true, if_false]
                show (if (⟨key, load⟩ : Tk) ∈ c then some (c.erase ⟨key, load⟩) else none) = _
                rw [if_neg (fd_not hno)])
              clear HS HST1 hno
              go_upto_region 13 with fail
              refine wp_region_gw (by kernel_rfl) (by kernel_rfl) ?_
              repeat (go_big_quiet_step (first | (go_at_call 40; exact gw_of (HCN.out _)) | rfl))
              refine wpQuiet_nil ?_
              rintro _ ⟨x, rfl⟩
              go_wp2_with fail
              go_ret
              exact AnP.no (below_on HXB.out.bel x.bel) rfl HNO.out
      · obtain rfl : m = i := by omega
        have HYE : Hid (BrA l o q) := ⟨HLS.out, by rw [← HM.out, HPC.out]; rfl⟩
        go_wp2_with fail
        go_ret
        exact AnP.yes HQ.out.bel rfl HYE.out
end Go.Proofs.Ytfoeljcgbfpknaa
