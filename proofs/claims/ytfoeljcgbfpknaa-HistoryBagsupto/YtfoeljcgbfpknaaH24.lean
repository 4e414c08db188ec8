/- The program's playBag. -/
import Derived.Test.YtfoeljcgbfpknaaH22
import Derived.Test.YtfoeljcgbfpknaaH23
namespace Go.Proofs.Ytfoeljcgbfpknaa
open Go.RowKit Go.Lib
set_option linter.unusedVariables false
set_option linter.unusedSimpArgs false
theorem own_typed {α : Type} {A : α → Array Value} {c : Nat} {t : TypeId} {w : World} {fr : Nat} {v : Value} {l : List α} (h : ROwn A c t w fr v l) {g : Nat} (hg : v.ownBlock = some g) : ∃ cs, w.heap[g]? = some (.cells cs t (0, 0)) := by
  rcases h.cut with ⟨rfl, _⟩ | ⟨g', cap, cur, rfl, _, hb, _⟩
  · cases hg
  · simp only [Value.ownBlock, Option.some.injEq] at hg
    subst hg
    exact ⟨cur, hb⟩
/-- The ranks of the removals among the first i turns. -/
def rks (l : List Sp) (o : List Int) : Nat → List Int
  | 0 => []
  | i + 1 => if (spAt l (oN o i)).ins = true then rks l o i else rks l o i ++ [(rkO ((play false nOp l o i).getD []) (spAt l (oN o i)).key ((play false nOp l o i).getD []).length : Int)]
theorem rks_len (l : List Sp) (o : List Int) : ∀ i, (rks l o i).length ≤ i
  | 0 => Nat.le_refl _
  | i + 1 => by have := rks_len l o i; unfold rks; split <;> simp <;> omega
/-- The bag and the ranks. -/
structure PB (w W : World) (vb : Value) (c : List Tk) (vr : Value) (R : List Int) : Prop where
  bag : TO w W vb c
  rk : ROwn iA 1 3 W w.heap.size vr R
section
variable {w W W' W5 : World} {vb vr v5 : Value} {c : List Tk} {R : List Int}
theorem PB.ne (h : PB w W vb c vr R) {g : Nat} (hg : vr.ownBlock = some g) : vb.ownBlock ≠ some g := fun e => by
  obtain ⟨cs, h1⟩ := own_typed h.rk hg
  obtain ⟨cs', h2⟩ := own_typed h.bag.own e
  rw [h1] at h2
  simp at h2
theorem PB.on (h : PB w W vb c vr R) (hb : Below W.heap.size W W') : PB w W' vb c vr R := ⟨h.bag.on hb, h.rk.below hb⟩
theorem PB.push {t : Tk} {p : Obj} {n : Nat} (h : PB w W vb c vr R) (hn : c.length = n) (hown : W5.ownsRow w.heap.size 67 2 v5 (n + 1) (rCells Tk.arr c ++ t.arr.toList)) (hgrow : (W.alloc p).grownBy W5 vb.ownBlock) : PB w W5 v5 (c ++ [t]) vr R :=
  ⟨h.bag.push hn hown hgrow, h.rk.stay fun g e => by
    have hlt := (h.rk.lt g e).2
    rw [hgrow.block g (by simp; omega) (fun q => h.ne e q.symm)]
    exact Below.heap_alloc _ _ _ hlt⟩
theorem PB.rank {x : Int} {p : Obj} {n : Nat} (h : PB w W vb c vr R) (hn : R.length = n) (hown : W5.ownsRow w.heap.size 3 1 v5 (n + 1) (rCells iA R ++ (iA x).toList)) (hgrow : (W.alloc p).grownBy W5 vr.ownBlock) : PB w W5 vb c v5 (R ++ [x]) :=
  ⟨⟨(below_alloc h.bag.bel p).grown hgrow (by have := h.bag.bel.size; simp; omega) (fun j hj => (h.rk.lt j hj).1), h.bag.own.stay fun g e => by
    have hlt := (h.bag.own.lt g e).2
    rw [hgrow.block g (by simp; omega) (fun q => h.ne q.symm e)]
    exact Below.heap_alloc _ _ _ hlt⟩, ROwn.grown (w := W) (v := vr) hn hown⟩
theorem PB.del {g i : Nat} (h : PB w W vb c vr R) (hb : vb.ownBlock = some g) (ho : ROwn Tk.arr 2 67 W' w.heap.size v5 (c.eraseIdx i)) (hc : Chg (fun k => k = g) W W') : PB w W' v5 (c.eraseIdx i) vr R :=
  ⟨⟨Chg.below h.bag.bel hc (fun i hi => by subst hi; exact (h.bag.own.lt _ hb).1) h.bag.bel.size, ho⟩, h.rk.stay fun k e => hc.block k (h.rk.lt k e).2 (fun q => h.ne e (by rw [q]; exact hb))⟩
end
def PbP (l : List Sp) (o : List Int) (w : World) (x : Ending) (w' : World) : Prop :=
  Below w.heap.size w w' ∧ ((play false nOp l o o.length = none ∧ x = .returned (.tuple #[.slice none 0 0, .bool false])) ∨ (∃ c, play false nOp l o o.length = some c ∧ ∃ v, x = .returned (.tuple #[v, .bool true]) ∧ ROwn iA 1 3 w' w.heap.size v (rks l o o.length)))
theorem PbP.no {l : List Sp} {o : List Int} {w w' : World} {x : Ending} {i : Nat} (hb : Below w.heap.size w w') (hx : x = .returned (.tuple #[.slice none 0 0, .bool false])) (hi : i ≤ o.length) (h : play false nOp l o i = none) : PbP l o w x w' :=
  ⟨hb, .inl ⟨play_stays _ _ _ _ h hi, hx⟩⟩
theorem PbP.yes {l : List Sp} {o : List Int} {w w' : World} {x : Ending} {i : Nat} {y : List Tk} {v : Value} (hb : Below w.heap.size w w') (hx : x = .returned (.tuple #[v, .bool true])) (hi : i = o.length) (h : play false nOp l o i = some y) (hv : ROwn iA 1 3 w' w.heap.size v (rks l o i)) : PbP l o w x w' := by
  subst hi
  exact ⟨hb, .inr ⟨y, h, v, hx, hv⟩⟩
set_option maxRecDepth 100000 in
set_option maxHeartbeats 4000000 in
theorem playBag_any (v vo : Value) (l : List Sp) (o : List Int) (w : World) (h : RAt Sp.arr 7 w v l) (ho : RowAt .i64 w vo o) (hr : Ord l o) (hol : o.length ≤ 1759218604440) : Calls Try.prog 35 #[v, vo] w (PbP l o w) := by
  obtain ⟨i0, hi0, hz0, hz1, hz2⟩ := info_parts info67
  obtain ⟨i3, hi3, hy0, hy1, hy2⟩ := info_parts info3i
  obtain ⟨ao, cap, rfl, hcap, h63⟩ := h.shape
  have H := hide h
  have ho63 := ho
  obtain ⟨oo, oc, rfl, ho1, ho2, _⟩ := ho63
  have HO := hide ho
  have HR := hide hr
  obtain ⟨n, hn⟩ : ∃ n, n = l.length := ⟨_, rfl⟩
  have HN := hide hn
  obtain ⟨m, hm⟩ : ∃ m, m = o.length := ⟨_, rfl⟩
  have HM := hide hm
  rw [← hn] at hcap H ⊢
  rw [← hm] at HO ho1 hol ⊢
  clear h hn hm ho hr
  go_enter Try.func35, Try.ntmps35
  go_wp2_with fail
  go_loopw [4, 5, 6, 13] (fun vr va vb t wr => ∃ i : Nat, i ≤ m ∧ va = .bool false ∧ t = .int .i64 (i : Int) ∧ ∃ c, play false nOp l o i = some c ∧ PB w wr vb c vr (rks l o i)) (fun _ _ _ t _ => m - (RowKit.intOf t).toNat)
  case atStart => exact ⟨0, Nat.zero_le _, rfl, rfl, [], rfl, TO.nil w w (Below.refl _ _), ROwn.nil _ _⟩
  case round =>
    obtain ⟨i, him, rfl, rfl, c, hpc, hqo⟩ := hrel
    have HQ := hide hqo
    have HPC := hide hpc
    have hcl := play_len _ _ _ _ _ _ hpc
    have HCL : Hid (c.length ≤ 1759218604440) := by show _ ≤ _; omega
    have HRL : Hid ((rks l o i).length ≤ 1759218604440) := by have := rks_len l o i; show _ ≤ _; omega
    clear hqo hpc hcl
    by_cases hlt : i < m
    · have hli : (i : Int) < (m : Int) := by omega
      obtain ⟨go, po, co, e1, e18, x1⟩ := (HO.out.below HQ.out.bag.bel).cellAt i (by rw [← HM.out]; exact hlt)
      simp only [Value.slice.injEq] at e1
      obtain ⟨rfl, he17, rfl⟩ := e1
      clear he17 e18
      obtain ⟨hr0, hr1⟩ := HR.out i (by rw [← HM.out]; exact hlt)
      obtain ⟨p, hp⟩ : ∃ p, p = oN o i := ⟨_, rfl⟩
      have hpi : at_ o i = (p : Int) := by rw [hp]; unfold oN; omega
      rw [hpi] at x1 hr1
      rw [← HN.out] at hr1
      obtain ⟨gs, os, rfl, hgs, p0, p1, p2, p3, p4, p5, p6⟩ := sp_cells (H.out.below HQ.out.bag.bel) p (by rw [← HN.out]; omega)
      have HS : Hid (play false nOp l o (i + 1) = play1 false (nOp (spAt l p)) c (spAt l p)) := by show _ = _; rw [play, HPC.out, hp]; rfl
      have HRK : Hid (rks l o (i + 1) = if (spAt l p).ins = true then rks l o i else rks l o i ++ [(rkO c (spAt l p).key c.length : Int)]) := by show _ = _; rw [rks, HPC.out, hp]; rfl
      generalize spAt l p = si at p0 p1 p2 p3 p4 p5 p6 HS HRK
      generalize rks l o i = R at HQ HRL HRK
      obtain ⟨who, ins, key, load, beg, en, kind⟩ := si
      simp only at p0 p1 p2 p3 p4 p5 p6 HS HRK
      clear hr0 hpi hp
      have HQX : Hid ((wr.alloc (.cells #[.int .i64 who, .bool ins, .int .u64 key, .int .u64 load, .int .i64 beg, .int .i64 en, .int .i64 kind] 69)).heap[wr.heap.size]? = some (.cells #[.int .i64 who, .bool ins, .int .u64 key, .int .u64 load, .int .i64 beg, .int .i64 en, .int .i64 kind] 69 (0, 0))) := heap_new _ _
      cases ins with
      | true =>
        have HN2 : Hid (play false nOp l o (i + 1) = some (c ++ [⟨key, load⟩])) := by show _ = _; rw [HS.out]; rfl
        have HN3 : Hid (rks l o (i + 1) = R) := by show _ = _; rw [HRK.out]; rfl
        have HQ4 := hide (HQ.out.on (below_alloc (Below.refl _ _) (.cells #[.int .i64 who, .bool true, .int .u64 key, .int .u64 load, .int .i64 beg, .int .i64 en, .int .i64 kind] 69)))
        have HQ5 := hide (HQ4.out.on (below_alloc (Below.refl _ _) (.cells #[.int .u64 key, .int .u64 load] 67)))
        have HAT : Hid (∀ j u, (Tk.arr ⟨key, load⟩).toList[j]? = some u → ((wr.alloc (.cells #[.int .i64 who, .bool true, .int .u64 key, .int .u64 load, .int .i64 beg, .int .i64 en, .int .i64 kind] 69)).alloc (.cells #[.int .u64 key, .int .u64 load] 67)).cell? ((⟨wr.heap.size + 1, 0, none⟩ : Addr).add j) = some u) := by
          have hq := arr_at (wr.alloc (.cells #[.int .i64 who, .bool true, .int .u64 key, .int .u64 load, .int .i64 beg, .int .i64 en, .int .i64 kind] 69)) #[.int .u64 key, .int .u64 load] 67
          rw [show (wr.alloc (.cells #[.int .i64 who, .bool true, .int .u64 key, .int .u64 load, .int .i64 beg, .int .i64 en, .int .i64 kind] 69)).heap.size = wr.heap.size + 1 by simp] at hq
          exact hq
        clear HS HRK
        go_wp2_with (first
          | (at_builtin; refine wpList_append_own _ rfl (.tmp 23) (.tmp 26) 71 rfl w.heap.size 67 i0 _ 2 16 Try.underlying71 hi0 hz0 hz1 hz2 rfl (by decide) _ _ _ rfl HQ5.out.bag.own ⟨wr.heap.size + 1, 0, none⟩ 1 1 (Tk.arr ⟨key, load⟩).toList rfl rfl HAT.out (by simp [Value.oneCell', Tk.arr]) (by have := HCL.out; unfold maxLen; omega) (by have := HCL.out; omega) HQ5.out.bag.bel.size ?_; intro v5 w5 hownB hgrowB hqB; have HP := hide (HQ4.out.push rfl hownB hgrowB); clear hownB hgrowB hqB)
          | fail)
        exact ⟨⟨i + 1, by omega, rfl, by simp, _, HN2.out, by rw [HN3.out]; exact HP.out⟩, by simp [RowKit.intOf]; omega⟩
      | false =>
        obtain ⟨X, hX⟩ : ∃ X, X = wr.alloc (.cells #[.int .i64 who, .bool false, .int .u64 key, .int .u64 load, .int .i64 beg, .int .i64 en, .int .i64 kind] 69) := ⟨_, rfl⟩
        have HBX : Hid (Below wr.heap.size wr X) := by rw [hX]; exact below_alloc (Below.refl _ _) _
        rw [← hX] at HQX
        have HX := hide (HQ.out.on HBX.out)
        have HIX := hide (index_any _ c ⟨key, load⟩ X HX.out.bag.rat HCL.out)
        have HIM : Hid (i + 1 ≤ o.length) := by rw [← HM.out]; exact hlt
        have z2 := cell_of HQX.out (i := 2) rfl
        have z3 := cell_of HQX.out (i := 3) rfl
        have z1 := cell_of HQX.out (i := 1) rfl
        go_upto_region 8 with fail
        rw [← hX]
        clear hX
        go_wp2_with fail
        refine HIX.out.mono ?_
        rintro e w1 ⟨hb1, r, rfl, hfd⟩
        have HX1 := hide (HX.out.on hb1)
        have hq1 := (hb1.block _ (lt_of_heap HQX.out)).trans HQX.out
        have HQ1 := hide hq1
        clear z1 z2 z3 p0 p1 p2 p3 p4 p5 p6 x1
        rcases hfd with ⟨j, hj, hje, hjf, rfl⟩ | ⟨hno, rfl⟩
        · have HNJ : Hid (play false nOp l o (i + 1) = some (c.eraseIdx j)) := by
            show _ = _
            rw [HS.out]
            unfold play1
            simp only [Bool.false_eq_true, if_false]
            show (if (⟨key, load⟩ : Tk) ∈ c then some (c.erase ⟨key, load⟩) else none) = _
            rw [if_pos (fd_mem hj hje), fd_erase hj hje hjf]
          have HN3 : Hid (rks l o (i + 1) = R ++ [(rkO c key c.length : Int)]) := by show _ = _; rw [HRK.out]; rfl
          have hrl := rkO_le c key c.length
          have HRL2 : Hid (rkO c key c.length ≤ 1759218604440) := by have := HCL.out; show _ ≤ _; omega
          have HRO := hide (rankOf_any _ c ⟨key, load⟩ w1 HX1.out.bag.rat HCL.out)
          have HJC := hide hj
          generalize rkO c key c.length = rk at HRO HN3 HRL2
          have y2 := cell_of hq1 (i := 2) rfl
          have y3 := cell_of hq1 (i := 3) rfl
          have hjn : ¬ (j : Int) < 0 := by omega
          have hjb : (j : Int) ≤ 1759218604440 := by have := HCL.out; omega
          clear hb1 hq1 hje hjf hrl hj HIX
          go_wp2_with fail
          refine HRO.out.mono ?_
          rintro e w2 ⟨rfl, hb2⟩
          have HX2 := hide (HX1.out.on hb2)
          clear hb2 y2 y3 HRO
          have HX3 := hide (HX2.out.on (below_alloc (Below.refl _ _) (.cells #[.int .i64 (rk : Int)] 3)))
          have HAT := hide (arr_at w2 #[.int .i64 (rk : Int)] 3)
          go_wp2_with (first
            | (at_builtin; refine wpList_append_own _ rfl (.tmp 34) (.tmp 39) 23 rfl w.heap.size 3 i3 _ 1 8 Try.underlying23 hi3 hy0 hy1 hy2 rfl (by decide) _ _ _ rfl HX3.out.rk ⟨w2.heap.size, 0, none⟩ 1 1 (iA (rk : Int)).toList rfl rfl HAT.out (by simp [Value.oneCell', iA]) (by have := HRL.out; unfold maxLen; omega) (by have := HRL.out; omega) HX3.out.bag.bel.size ?_; intro v5 w5 hownB hgrowB hqB; have HP := hide (HX2.out.rank rfl hownB hgrowB); clear hownB hgrowB hqB)
            | fail)
          obtain ⟨g, bc, hvb, hb1, hb2, hb3, hb4⟩ := HP.out.bag.own.spot (by have := HJC.out; omega)
          subst hvb
          have HD := hide (delete_any g c.length bc j (j + 1) c w.heap.size w5 HP.out.bag.own rfl HJC.out rfl)
          rw [show ((j + 1 : Nat) : Int) = (j : Int) + 1 by omega] at HD
          refine HD.out.mono ?_
          rintro e w6 ⟨v6, rfl, ho6, hg6, hc6⟩
          have HF := hide (HP.out.del rfl ho6 hc6)
          clear ho6 hg6 hc6 HD
          go_wp2_with fail
          exact ⟨⟨i + 1, by omega, rfl, by simp, _, HNJ.out, by rw [HN3.out]; exact HF.out⟩, by simp [RowKit.intOf]; omega⟩
        · have HNN : Hid (play false nOp l o (i + 1) = none) := by
            show _ = _
            rw [HS.out]
            unfold play1
            simp only [Bool.false_eq_true, if_false]
            show (if (⟨key, load⟩ : Tk) ∈ c then some (c.erase ⟨key, load⟩) else none) = _
            rw [if_neg (fd_not hno)]
          clear hno hq1 hb1
          go_wp2_with fail
          go_ret2
          exact PbP.no HX1.out.bag.bel rfl HIM.out HNN.out
    · obtain rfl : m = i := by omega
      go_wp2_with fail
      go_ret2
      exact PbP.yes HQ.out.bag.bel rfl HM.out HPC.out HQ.out.rk
end Go.Proofs.Ytfoeljcgbfpknaa
