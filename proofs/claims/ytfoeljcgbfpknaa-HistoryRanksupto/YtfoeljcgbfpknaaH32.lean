/- The document's Ranks. -/
import Derived.Test.YtfoeljcgbfpknaaH31
import Derived.BigQuiet
import Derived.Deep.CutRange
namespace Go.Proofs.Ytfoeljcgbfpknaa
open Go.RowKit Go.Lib
set_option linter.unusedVariables false
set_option linter.unusedSimpArgs false
theorem play_nc (l : List Sp) (o : List Int) (i : Nat) : play false cntD l o i = play false nOp l o i := play_same fun _ _ _ hq => by cases hq
set_option maxRecDepth 100000 in
set_option maxHeartbeats 8000000 in
theorem refRanks_any (v vo : Value) (l : List Sp) (o : List Int) (w : World) (h : RAt Sp.arr 7 w v l) (ho : RowAt .i64 w vo o) (hl : l.length ≤ 1759218604440) : Calls Try.prog 15 #[v, vo] w (RaP l o w) := by
  have hsf := stf
  obtain ⟨i0, hi0, hz0, hz1, hz2⟩ := info_parts info67
  obtain ⟨i3, hi3, hy0, hy1, hy2⟩ := info_parts info3i
  have HL := hide (fun W (hb : Below w.heap.size w W) => first_any v l W (h.below hb) (by omega))
  have HB := hide (fun W (hb : Below w.heap.size w W) => bears_any v vo l o false W (h.below hb) (ho.below hb) hl)
  obtain ⟨ao, cap, rfl, hcap, h63⟩ := h.shape
  have H := hide h
  have ho63 := ho
  obtain ⟨oo, oc, rfl, ho1, ho2, hq⟩ := ho63
  have HO := hide ho
  obtain ⟨n, hn⟩ : ∃ n, n = l.length := ⟨_, rfl⟩
  have HN := hide hn
  obtain ⟨m, hm⟩ : ∃ m, m = o.length := ⟨_, rfl⟩
  have HM := hide hm
  rw [← hn] at hcap H HL HB ⊢
  rw [← hm] at HO ho1 HB ⊢
  clear h ho hl hn hm hq
  obtain ⟨X, hX⟩ : ∃ X, X = w.alloc (.cells #[.int .i64 0, .int .i64 0, .int .i64 0, .float .f64 0, .float .f64 0] 36) := ⟨_, rfl⟩
  have HBX : Hid (Below w.heap.size w X) := by rw [hX]; exact below_alloc (Below.refl _ _) _
  have HQX : Hid (X.heap[w.heap.size]? = some (.cells #[.int .i64 0, .int .i64 0, .int .i64 0, .float .f64 0, .float .f64 0] 36 (0, 0))) := by rw [hX]; exact heap_new _ _
  generalize hA : w.heap.size = A at HQX
  have hge : w.heap.size ≤ A := by omega
  go_enter Try.func15, Try.ntmps15
  go_upto_region 1 with fail
  rw [← hX]
  clear hX
  have HL2 := hide (HL.out X HBX.out)
  clear HL
  go_wp2_with fail
  refine HL2.out.mono ?_
  rintro e w1 ⟨hb1, r, rfl, hfi⟩
  have HB1 := hide (below_on HBX.out hb1)
  have HFI := hide hfi
  replace HQX := hide ((hb1.block _ (lt_of_heap HQX.out)).trans HQX.out)
  clear hb1 hfi HL2 HBX hA
  by_cases hr : r = 0
  · subst hr
    have HB2 := hide (HB.out w1 HB1.out)
    clear HB
    go_wp2_with fail
    refine HB2.out.mono ?_
    rintro e w2 ⟨hb2, b, rfl, hi2⟩
    have HB3 := hide (below_on HB1.out hb2)
    replace HQX := hide ((hb2.block _ (lt_of_heap HQX.out)).trans HQX.out)
    have HI2 := hide hi2
    clear hb2 hi2 HB2
    cases b with
    | false =>
      have HA : Hid (RaA l o zr 73) := .inr (.inl ⟨HFI.out, fun hh => (by have := HI2.out.2 hh; cases this), rfl, rfl⟩)
      have q0 := cell_of HQX.out (i := 0) rfl
      have q1 := cell_of HQX.out (i := 1) rfl
      have q2 := cell_of HQX.out (i := 2) rfl
      have q3 := cell_of HQX.out (i := 3) rfl
      have q4 := cell_of HQX.out (i := 4) rfl
      have qf := free_of HQX.out
      clear HFI HI2
      go_wp2_with fail
      exact bodyPost_ret (results_ct Try.results15 _ _ A _ rfl (five_set HQX.out) rfl) rfl (RaP.made (five_below HB3.out hge) rfl HA.out)
    | true =>
      have HBA := hide (HI2.out.1 rfl)
      have hmm : (m : Int) ≤ 2000 := by have h1 := lsd_few HBA.out.1; have h2 := fi_few HFI.out; rw [← HM.out] at h1; omega
      have HRO : Hid (RkOk (rks l o o.length)) := rks_ok (Nat.le_trans (lsd_few HBA.out.1) (fi_few HFI.out))
      have HST : Hid (∀ i, i ≤ o.length → play false nOp l o i ≠ none) := fun i hi hp => by
        have := HBA.out.2
        rw [play_nc, play_stays _ _ _ _ hp hi] at this
        cases this
      clear HI2
      have HDR : Hid (DR w (w2.alloc (.cells #[.int .i64 0, .int .i64 0, .int .i64 0, .float .f64 0, .float .f64 0] 36)) A w2.heap.size (rk0 (rks l o 0)) (.slice none 0 0) [] (.slice none 0 0) (rks l o 0)) := by
        have hb := below_alloc HB3.out (.cells #[.int .i64 0, .int .i64 0, .int .i64 0, .float .f64 0, .float .f64 0] 36)
        refine ⟨⟨TO.nil _ _ hb, ROwn.nil _ _⟩, ⟨hb, hge, HB3.out.size, ?_, ?_, heap_new _ _⟩⟩
        · have := lt_of_heap HQX.out; omega
        · exact (Below.heap_alloc _ _ _ (lt_of_heap HQX.out)).trans HQX.out
      go_wp2_with fail
      generalize (w2.alloc (.cells #[.int .i64 0, .int .i64 0, .int .i64 0, .float .f64 0, .float .f64 0] 36)) = w3 at HDR ⊢
      generalize hB : w2.heap.size = B at HDR ⊢
      clear hB
      go_loopw [8, 9, 10] (fun vb vr t wr => ∃ i : Nat, i ≤ m ∧ t = .int .i64 (i : Int) ∧ ∃ c, play false nOp l o i = some c ∧ DR w wr A B (rk0 (rks l o i)) vb c vr (rks l o i)) (fun _ _ t _ => m - (RowKit.intOf t).toNat)
      case atStart => exact ⟨0, Nat.zero_le _, rfl, [], rfl, HDR.out⟩
      case round =>
        clear HDR HQX HB3
        obtain ⟨i, him, rfl, c, hpc, hdr⟩ := hrel
        have HD := hide hdr
        have HPC := hide hpc
        have hcl := play_len _ _ _ _ _ _ hpc
        have HCL : Hid (c.length ≤ 1759218604440) := by show _ ≤ _; omega
        have HRL : Hid ((rks l o i).length ≤ 2000) := by have := rks_len l o i; show _ ≤ _; omega
        have HROI : Hid (RkOk (rks l o i)) := ⟨HRL.out, fun k hk => by
          have hm : at_ (rks l o i) k ∈ rks l o i := by
            simp only [at_, List.getElem?_eq_getElem hk, Option.getD_some]
            exact List.getElem_mem hk
          have := rks_bd l o _ _ hm
          omega⟩
        clear hdr hpc hcl
        by_cases hlt : i < m
        · have hli : (i : Int) < (m : Int) := by omega
          obtain ⟨go, po, co, e1, e18, x1⟩ := (HO.out.below HD.out.su.bel).cellAt i (by rw [← HM.out]; exact hlt)
          simp only [Value.slice.injEq] at e1
          obtain ⟨rfl, he17, rfl⟩ := e1
          clear he17 e18
          obtain ⟨hr0, hr1, _⟩ := HBA.out.1.1 i (by rw [← HM.out]; exact hlt)
          obtain ⟨p, hp⟩ : ∃ p, p = oN o i := ⟨_, rfl⟩
          have hpi : at_ o i = (p : Int) := by rw [hp]; unfold oN; omega
          rw [hpi] at x1 hr1
          rw [← HN.out] at hr1
          obtain ⟨gs, os, rfl, hgs, p0, p1, p2, p3, p4, p5, p6⟩ := sp_cells (H.out.below HD.out.su.bel) p (by rw [← HN.out]; omega)
          have HS : Hid (play false nOp l o (i + 1) = play1 false (nOp (spAt l p)) c (spAt l p)) := by show _ = _; rw [play, HPC.out, hp]; rfl
          have HRK : Hid (rks l o (i + 1) = if (spAt l p).ins = true then rks l o i else rks l o i ++ [(rkO c (spAt l p).key c.length : Int)]) := by show _ = _; rw [rks, HPC.out, hp]; rfl
          have HNN : Hid (play false nOp l o (i + 1) ≠ none) := HST.out (i + 1) (by rw [← HM.out]; exact hlt)
          generalize spAt l p = si at p0 p1 p2 p3 p4 p5 p6 HS HRK
          generalize rks l o i = R at HD HRL HRK HROI
          obtain ⟨who, ins, key, load, beg, en, kind⟩ := si
          simp only at p0 p1 p2 p3 p4 p5 p6 HS HRK
          clear hr0 hpi hp
          have HQX : Hid ((wr.alloc (.cells #[.int .i64 who, .bool ins, .int .u64 key, .int .u64 load, .int .i64 beg, .int .i64 en, .int .i64 kind] 69)).heap[wr.heap.size]? = some (.cells #[.int .i64 who, .bool ins, .int .u64 key, .int .u64 load, .int .i64 beg, .int .i64 en, .int .i64 kind] 69 (0, 0))) := heap_new _ _
          cases ins with
          | true =>
            have HN2 : Hid (play false nOp l o (i + 1) = some (c ++ [⟨key, load⟩])) := by show _ = _; rw [HS.out]; rfl
            have HN3 : Hid (rks l o (i + 1) = R) := by show _ = _; rw [HRK.out]; rfl
            have HQ4 := hide (HD.out.on (below_alloc (Below.refl _ _) (.cells #[.int .i64 who, .bool true, .int .u64 key, .int .u64 load, .int .i64 beg, .int .i64 en, .int .i64 kind] 69)))
            have HQ5 := hide (HQ4.out.on (below_alloc (Below.refl _ _) (.cells #[.int .u64 key, .int .u64 load] 67)))
            have HAT : Hid (∀ j u, (Tk.arr ⟨key, load⟩).toList[j]? = some u → ((wr.alloc (.cells #[.int .i64 who, .bool true, .int .u64 key, .int .u64 load, .int .i64 beg, .int .i64 en, .int .i64 kind] 69)).alloc (.cells #[.int .u64 key, .int .u64 load] 67)).cell? ((⟨wr.heap.size + 1, 0, none⟩ : Addr).add j) = some u) := by
              have hq := arr_at (wr.alloc (.cells #[.int .i64 who, .bool true, .int .u64 key, .int .u64 load, .int .i64 beg, .int .i64 en, .int .i64 kind] 69)) #[.int .u64 key, .int .u64 load] 67
              rw [show (wr.alloc (.cells #[.int .i64 who, .bool true, .int .u64 key, .int .u64 load, .int .i64 beg, .int .i64 en, .int .i64 kind] 69)).heap.size = wr.heap.size + 1 by simp] at hq
              exact hq
            clear HS HRK HNN
            go_wp2_with (first
              | (at_builtin; refine wpList_append_own _ rfl (.tmp 43) (.tmp 46) 71 rfl w.heap.size 67 i0 _ 2 16 Try.underlying71 hi0 hz0 hz1 hz2 rfl (by decide) _ _ _ rfl HQ5.out.pb.bag.own ⟨wr.heap.size + 1, 0, none⟩ 1 1 (Tk.arr ⟨key, load⟩).toList rfl rfl HAT.out (by simp [Value.oneCell', Tk.arr]) (by have := HCL.out; unfold maxLen; omega) (by have := HCL.out; omega) HQ5.out.su.bel.size ?_; intro v5 w5 hownB hgrowB hqB; have HP := hide (HQ4.out.push rfl hownB hgrowB); clear hownB hgrowB hqB)
              | fail)
            exact ⟨⟨i + 1, by omega, by simp, _, HN2.out, by rw [HN3.out]; exact HP.out⟩, by simp [RowKit.intOf]; omega⟩
          | false =>
            obtain ⟨X, hX⟩ : ∃ X, X = wr.alloc (.cells #[.int .i64 who, .bool false, .int .u64 key, .int .u64 load, .int .i64 beg, .int .i64 en, .int .i64 kind] 69) := ⟨_, rfl⟩
            have HBX : Hid (Below wr.heap.size wr X) := by rw [hX]; exact below_alloc (Below.refl _ _) _
            rw [← hX] at HQX
            have HX := hide (HD.out.on HBX.out)
            have HIX := hide (find_any _ c ⟨key, load⟩ X HX.out.pb.bag.rat HCL.out)
            have z1 := cell_of HQX.out (i := 1) rfl
            have z2 := cell_of HQX.out (i := 2) rfl
            have z3 := cell_of HQX.out (i := 3) rfl
            go_upto_region 15 with fail
            rw [← hX]
            clear hX p0 p1 p2 p3 p4 p5 p6 x1
            go_wp2_with fail
            refine HIX.out.mono ?_
            rintro e w4 ⟨hb4, r, rfl, hfd⟩
            have HX4 := hide (HX.out.on hb4)
            have HQ4 := hide ((hb4.block _ (lt_of_heap HQX.out)).trans HQX.out)
            clear z1 z2 z3 hb4 HQX HX HBX HD
            rcases hfd with ⟨j, hj, hje, hjf, rfl⟩ | ⟨hno, rfl⟩
            · have HNJ : Hid (play false nOp l o (i + 1) = some (c.eraseIdx j)) := by
                show _ = _
                rw [HS.out]
                unfold play1
                simp only [Bool.false_eq_true, if_false]
                show (if (⟨key, load⟩ : Tk) ∈ c then some (c.erase ⟨key, load⟩) else none) = _
                rw [if_pos (fd_mem hj hje), fd_erase hj hje hjf]
              have HRE := hide (rk_erase hj hje)
              have HN3 : Hid (rks l o (i + 1) = R ++ [(rkO c key c.length : Int)]) := by show _ = _; rw [HRK.out]; rfl
              rw [← HRE.out] at HN3
              have HWO := hide (without_any _ c j w4 HX4.out.pb.bag.rat HCL.out)
              unfold WoP at HWO
              have HLL : Hid ((c.eraseIdx j).length ≤ 1759218604440) := by have := List.length_eraseIdx_le c j; have := HCL.out; show _ ≤ _; omega
              generalize c.eraseIdx j = L at HNJ HN3 HWO HLL
              clear HS HRK HNN hj hje hjf HIX HRE HPC
              go_wp2_with fail
              refine HWO.out.mono ?_
              rintro e w5 ⟨v5, rfl, ht5⟩
              have HX5 := hide (HX4.out.wo ht5)
              have HQ5 := hide ((ht5.bel.block _ (lt_of_heap HQ4.out)).trans HQ4.out)
              clear ht5 HWO HX4 HQ4
              obtain ⟨lo, lc, hlv, hlc, hlc2⟩ := HX5.out.pb.bag.rat.shape
              subst hlv
              obtain ⟨k, hk⟩ : ∃ k, k = L.length := ⟨_, rfl⟩
              have HK := hide hk
              have hkb : (k : Int) ≤ 1759218604440 := by have := HLL.out; omega
              rw [← hk] at HX5 HN3 hlc ⊢
              clear hk
              go_wp2_with fail
              go_loopw [12, 13] (fun tn tq wq => ∃ q : Nat, q ≤ k ∧ tn = .int .i64 (rkO L key q : Nat) ∧ tq = .int .i64 (q : Int) ∧ Below w5.heap.size w5 wq) (fun _ tq _ => k - (RowKit.intOf tq).toNat)
              case atStart => exact ⟨0, Nat.zero_le _, rfl, rfl, Below.refl _ _⟩
              case round =>
                obtain ⟨q, hqk, rfl, rfl, hbq⟩ := hrel
                have HBQ := hide hbq
                clear hbq
                have hrl := rkO_le L key q
                have hrl2 : ((rkO L key q : Nat) : Int) ≤ 1759218604440 := by omega
                by_cases hlq : q < k
                · have hlqi : (q : Int) < (k : Int) := by omega
                  obtain ⟨gl, ol, rfl, hgl, k0, k1⟩ := tk_cells (HX5.out.pb.bag.rat.below HBQ.out) q (by rw [← HK.out]; exact hlq)
                  have y2 := cell_of ((HBQ.out.block _ (lt_of_heap HQ5.out)).trans HQ5.out) (i := 2) rfl
                  have HSK : Hid (rkO L key (q + 1) = if (tkAt L q).key < key then rkO L key q + 1 else rkO L key q) := rfl
                  generalize tkAt L q = tq at k0 k1 HSK
                  obtain ⟨kyq, ldq⟩ := tq
                  simp only at k0 k1 HSK
                  generalize rkO L key q = rq at HSK hrl hrl2 ⊢
                  clear hrl
                  by_cases hky : kyq < key
                  · have HR : Hid (rkO L key (q + 1) = rq + 1) := by rw [HSK.out]; exact if_pos hky
                    have hkd : decide (kyq < key) = true := by simp [hky]
                    go_wp2_with fail
                    go_quiet (fail)
                    go_wp2_with fail
                    exact ⟨⟨q + 1, by omega, by rw [HR.out]; simp, by simp, below_on HBQ.out (below_drewN _ _)⟩, by simp [RowKit.intOf]; omega⟩
                  · have HR : Hid (rkO L key (q + 1) = rq) := by rw [HSK.out]; exact if_neg hky
                    have hkd : decide (kyq < key) = false := by simp; omega
                    go_wp2_with fail
                    go_quiet (fail)
                    go_wp2_with fail
                    exact ⟨⟨q + 1, by omega, by rw [HR.out], by simp, below_on HBQ.out (below_drewN _ _)⟩, by simp [RowKit.intOf]; omega⟩
                · obtain rfl : k = q := by omega
                  have HX6 := hide (HX5.out.on HBQ.out)
                  clear HX5 HQ5
                  have hmb := mx_bd HROI.out R.length (Nat.le_refl _)
                  have hsb := sm_bd HROI.out R.length (Nat.le_refl _)
                  have hrlb : ((R.length : Nat) : Int) ≤ 2000 := by have := HRL.out; omega
                  have hR2 : R.length ≤ 2000 := HRL.out
                  have HN4 : Hid (rk0 (R ++ [(rkO L key k : Int)]) = #[.int .i64 ((R.length : Int) + 1), .int .i64 (max (mx R R.length) (rkO L key k : Int)), .int .i64 (sm R R.length + (rkO L key k : Int)), .float .f64 0, .float .f64 0]) := by
                    show _ = _
                    unfold rk0
                    rw [mx_snoc, sm_snoc, List.length_append]
                    simp
                  unfold rk0 at HX6
                  have HX7 := hide (HX6.out.on (below_alloc (Below.refl _ _) (.cells #[.int .i64 ((rkO L key k : Nat) : Int)] 3)))
                  have HAT := hide (arr_at wr #[.int .i64 ((rkO L key k : Nat) : Int)] 3)
                  generalize rkO L key k = rk at HX7 HAT HN3 HN4 hrl hrl2 ⊢
                  clear hrl
                  generalize mx R R.length = mxv at HX6 HX7 HN4 hmb
                  generalize sm R R.length = smv at HX6 HX7 HN4 hsb
                  have hs1 : -9223372036854775808 ≤ smv + (rk : Int) := by omega
                  have hs2 : smv + (rk : Int) ≤ 9223372036854775807 := by omega
                  by_cases hgt : mxv < (rk : Int)
                  · have HMX : Hid (max mxv (rk : Int) = (rk : Int)) := by show _ = _; omega
                    have HR2 := hide hR2
                    clear hsb hmb hR2
                    go_wp2_with (first
                      | (at_builtin; refine wpList_append_own _ rfl (.tmp 71) (.tmp 73) 23 rfl w.heap.size 3 i3 _ 1 8 Try.underlying23 hi3 hy0 hy1 hy2 rfl (by decide) _ _ _ rfl HX7.out.pb.rk ⟨wr.heap.size, 0, none⟩ 1 1 (iA (rk : Int)).toList rfl rfl HAT.out (by simp [Value.oneCell', iA]) (by have := HRL.out; unfold maxLen; omega) (by have := HRL.out; omega) HX7.out.su.bel.size ?_; intro v8 w8 hownB hgrowB hqB; have HP := hide (HX6.out.rank rfl hownB hgrowB); clear hownB hgrowB hqB HX7 HAT; have b0 := HP.out.su.cell 0 rfl; have b1 := HP.out.su.cell 1 rfl; have b2 := HP.out.su.cell 2 rfl; have bf := HP.out.su.free)
                      | fail)
                    have HT := hide (((HP.out.set 0 (.int .i64 ((R.length : Int) + 1))).set 2 (.int .i64 (smv + (rk : Int)))).set 1 (.int .i64 (rk : Int)))
                    exact ⟨⟨i + 1, by omega, by simp, _, HNJ.out, by rw [HN3.out, HN4.out, HMX.out]; exact HT.out⟩, by simp [RowKit.intOf]; omega⟩
                  · have HMX : Hid (max mxv (rk : Int) = mxv) := by show _ = _; omega
                    have HR2 := hide hR2
                    clear hsb hmb hR2
                    go_wp2_with (first
                      | (at_builtin; refine wpList_append_own _ rfl (.tmp 71) (.tmp 73) 23 rfl w.heap.size 3 i3 _ 1 8 Try.underlying23 hi3 hy0 hy1 hy2 rfl (by decide) _ _ _ rfl HX7.out.pb.rk ⟨wr.heap.size, 0, none⟩ 1 1 (iA (rk : Int)).toList rfl rfl HAT.out (by simp [Value.oneCell', iA]) (by have := HRL.out; unfold maxLen; omega) (by have := HRL.out; omega) HX7.out.su.bel.size ?_; intro v8 w8 hownB hgrowB hqB; have HP := hide (HX6.out.rank rfl hownB hgrowB); clear hownB hgrowB hqB HX7 HAT; have b0 := HP.out.su.cell 0 rfl; have b1 := HP.out.su.cell 1 rfl; have b2 := HP.out.su.cell 2 rfl; have bf := HP.out.su.free)
                      | fail)
                    have HT := hide ((HP.out.set 0 (.int .i64 ((R.length : Int) + 1))).set 2 (.int .i64 (smv + (rk : Int))))
                    exact ⟨⟨i + 1, by omega, by simp, _, HNJ.out, by rw [HN3.out, HN4.out, HMX.out]; exact HT.out⟩, by simp [RowKit.intOf]; omega⟩
            · exfalso
              apply HNN.out
              rw [HS.out]
              unfold play1
              simp only [Bool.false_eq_true, if_false]
              show (if (⟨key, load⟩ : Tk) ∈ c then some (c.erase ⟨key, load⟩) else none) = _
              rw [if_neg (fd_not hno)]
        · obtain rfl : m = i := by omega
          have HRR : Hid (rks l o m = rks l o o.length) := by rw [HM.out]; exact rfl
          have HAn : Hid (∀ V, V = rkV (rks l o m) → RaA l o V 0) := fun V hV => .inr (.inr ⟨HFI.out, HBA.out, by rw [hV, HRR.out], rfl⟩)
          clear HRR HRO
          generalize rks l o m = R at HD HRL HROI HAn
          have HRW := hide (own_row HD.out.pb.rk)
          obtain ⟨ra, rc, hrv⟩ := HRW.out.shape
          subst hrv
          obtain ⟨k, hk⟩ : ∃ k, k = R.length := ⟨_, rfl⟩
          have HK := hide hk
          have hkb : (k : Int) ≤ 2000 := by have := HRL.out; omega
          unfold rk0 at HD
          rw [← hk] at HD HRW ⊢
          by_cases h0 : k = 0
          · have hR0 : R = [] := List.eq_nil_of_length_eq_zero (by rw [← hk]; exact h0)
            have HA : Hid (RaA l o #[.int .i64 (k : Int), .int .i64 (mx R k), .int .i64 (sm R k), .float .f64 0, .float .f64 0] 0) := HAn.out _ (by rw [h0, hR0]; rfl)
            have hkz : ((k : Int) == 0) = true := by simp [h0]
            clear hR0 h0 hk HAn
            have c0 := HD.out.su.cell 0 rfl
            have c1 := HD.out.su.cell 1 rfl
            have c2 := HD.out.su.cell 2 rfl
            have c3 := HD.out.su.cell 3 rfl
            have c4 := HD.out.su.cell 4 rfl
            have f2 := HD.out.su.freeA
            have d0 := HD.out.su.rcell 0 rfl
            have d1 := HD.out.su.rcell 1 rfl
            have d2 := HD.out.su.rcell 2 rfl
            have d3 := HD.out.su.rcell 3 rfl
            have d4 := HD.out.su.rcell 4 rfl
            go_wp2_with fail
            exact bodyPost_ret (results_ct Try.results15 _ _ A _ rfl (five_set HD.out.su.res) rfl) rfl (RaP.made (five_below HD.out.su.bel HD.out.su.geA) rfl HA.out)
          · have HRN : Hid (R.length ≠ 0) := by rw [← hk]; exact h0
            have hkz : ((k : Int) == 0) = false := by simp [h0]
            have hdiv : ∀ W, (binOp .quo 34 (.float .f64 (floatOfInt .f64 (sm R k))) (.float .f64 (floatOfInt .f64 (k : Int)))).run Try.prog W = .ok (.float .f64 (mnF R)) W := fun W => run_float_arith W .quo 34 .f64 _ _ _ (by rw [HK.out]; exact (mn_ok HROI.out HRN.out).1)
            have hvar : ∀ W, (binOp .quo 34 (.float .f64 (vs (mnF R) R k)) (.float .f64 (floatOfInt .f64 (k : Int)))).run Try.prog W = .ok (.float .f64 (divF (vs (mnF R) R R.length) (fl R.length))) W := fun W => run_float_arith W .quo 34 .f64 _ _ _ (by rw [HK.out]; exact (vr_ok HROI.out HRN.out).1)
            have HA : Hid (RaA l o #[.int .i64 R.length, .int .i64 (mx R R.length), .int .i64 (sm R R.length), .float .f64 (mnF R), .float .f64 (divF (vs (mnF R) R R.length) (fl R.length))] 0) := HAn.out _ (by unfold rkV; rw [if_neg HRN.out])
            generalize divF (vs (mnF R) R R.length) (fl R.length) = vr at hvar HA
            rw [← hk] at HA
            clear h0 hk HAn
            have c0 := HD.out.su.cell 0 rfl
            have c2 := HD.out.su.cell 2 rfl
            have c3 := HD.out.su.cell 3 rfl
            have f1 := HD.out.su.free
            have HT := hide (HD.out.set 3 (.float .f64 (mnF R)))
            clear HD
            go_wp2_with fail
            generalize (wr.setCell ⟨B, 3, none⟩ (.float .f64 (mnF R))) = w4 at HT ⊢
            clear c0 c2 c3 f1 hdiv
            go_loopw [14, 15] (fun sq t wr => ∃ i : Nat, i ≤ k ∧ sq = .float .f64 (vs (mnF R) R i) ∧ t = .int .i64 (i : Int) ∧ Below w4.heap.size w4 wr) (fun _ t _ => k - (RowKit.intOf t).toNat)
            case atStart => exact ⟨0, Nat.zero_le _, rfl, rfl, Below.refl _ _⟩
            case round =>
              obtain ⟨i, hin2, rfl, rfl, hbq⟩ := hrel
              have HS := hide (HT.out.on hbq)
              have HBQ := hide hbq
              clear hbq
              by_cases hlt2 : i < k
              · have hli : (i : Int) < (k : Int) := by omega
                obtain ⟨gr, pr, cr, e1, e18, x1⟩ := (own_row HS.out.pb.rk).cellAt i (by rw [← HK.out]; exact hlt2)
                simp only [Value.slice.injEq] at e1
                obtain ⟨rfl, he17, rfl⟩ := e1
                clear he17 e18
                have hir : i < R.length := by rw [← HK.out]; exact hlt2
                have hsub : ∀ W, (binOp .sub 34 (.float .f64 (floatOfInt .f64 (at_ R i))) (.float .f64 (mnF R))).run Try.prog W = .ok (.float .f64 (dv (mnF R) (at_ R i))) W := fun W => run_float_arith W .sub 34 .f64 _ _ _ (dv_ok HROI.out HRN.out hir).1
                have hmul : ∀ W, (binOp .mul 34 (.float .f64 (dv (mnF R) (at_ R i))) (.float .f64 (dv (mnF R) (at_ R i)))).run Try.prog W = .ok (.float .f64 (mulF (dv (mnF R) (at_ R i)) (dv (mnF R) (at_ R i)))) W := fun W => run_float_arith W .mul 34 .f64 _ _ _ (vs_add HROI.out HRN.out hir).1
                have hadd : ∀ W, (binOp .add 34 (.float .f64 (vs (mnF R) R i)) (.float .f64 (mulF (dv (mnF R) (at_ R i)) (dv (mnF R) (at_ R i))))).run Try.prog W = .ok (.float .f64 (vs (mnF R) R (i + 1))) W := fun W => run_float_arith W .add 34 .f64 _ _ _ (vs_add HROI.out HRN.out hir).2
                have c3 := HS.out.su.cell 3 rfl
                clear hir
                go_wp2_with fail
                go_quiet (fail)
                go_wp2_with fail
                exact ⟨⟨i + 1, by omega, rfl, by simp, below_on HBQ.out (below_drewN _ _)⟩, by simp [RowKit.intOf]; omega⟩
              · obtain rfl : k = i := by omega
                have c0 := HS.out.su.cell 0 rfl
                have c1 := HS.out.su.cell 1 rfl
                have c2 := HS.out.su.cell 2 rfl
                have c3 := HS.out.su.cell 3 rfl
                have c4 := HS.out.su.cell 4 rfl
                have f1 := HS.out.su.free
                have f2 := HS.out.su.freeA
                have d0 := HS.out.su.rcell 0 rfl
                have d1 := HS.out.su.rcell 1 rfl
                have d2 := HS.out.su.rcell 2 rfl
                have d3 := HS.out.su.rcell 3 rfl
                have d4 := HS.out.su.rcell 4 rfl
                have hAB : ¬ A = B := HS.out.su.ne
                have hBA : ¬ B = A := fun e => HS.out.su.ne e.symm
                have HT2 := hide (HS.out.su.set 4 (.float .f64 vr))
                go_wp2_with fail
                exact bodyPost_ret (results_ct Try.results15 _ _ A _ rfl (five_set HT2.out.res) rfl) rfl (RaP.made (five_below HT2.out.bel HT2.out.geA) rfl HA.out)
  · have hrb : (r != 0) = true := by simp [hr]
    have HA : Hid (RaA l o zr r) := .inl ⟨HFI.out, hr, rfl⟩
    have q0 := cell_of HQX.out (i := 0) rfl
    have q1 := cell_of HQX.out (i := 1) rfl
    have q2 := cell_of HQX.out (i := 2) rfl
    have q3 := cell_of HQX.out (i := 3) rfl
    have q4 := cell_of HQX.out (i := 4) rfl
    have qf := free_of HQX.out
    clear hr HFI HB
    go_wp2_with fail
    exact bodyPost_ret (results_ct Try.results15 _ _ A _ rfl (five_set HQX.out) rfl) rfl (RaP.made (five_below HB1.out hge) rfl HA.out)
end Go.Proofs.Ytfoeljcgbfpknaa
