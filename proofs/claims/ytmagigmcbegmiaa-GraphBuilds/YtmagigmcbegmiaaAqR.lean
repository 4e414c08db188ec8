import Derived.Test.YtmagigmcbegmiaaAp
/- intsApart: all lists are written full, each is grown, all are looked at. -/
namespace Go.Proofs.Ytmagigmcbegmiaa
open Go.RowKit Go.Lib
set_option linter.unusedVariables false
set_option linter.unusedSimpArgs false
/-- The lists while they are written over: i of them, and j places of the next. -/
structure P1 (mk : Nat → Int) (ns : Nat → Nat) (i j : Nat) (ls : List (List Int)) : Prop where
  len : ∀ (p : Nat) (l : List Int), ls[p]? = some l → l.length = ns p
  done : ∀ (p : Nat) (l : List Int), ls[p]? = some l → p < i → l = List.replicate (ns p) (mk p)
  part : ∀ (l : List Int), ls[i]? = some l → ∀ q, q < j → l[q]? = some (mk i)
def nsL (ls : List (List Int)) (p : Nat) : Nat := (ls[p]?.getD []).length
theorem P1.start (mk : Nat → Int) (ls : List (List Int)) : P1 mk (nsL ls) 0 0 ls :=
  ⟨fun p l h => by simp [nsL, h], fun p l _ h => by omega, fun l _ q h => by omega⟩
theorem P1.put {mk : Nat → Int} {ns : Nat → Nat} {i j : Nat} {ls : List (List Int)} (h : P1 mk ns i j ls) {l : List Int} (hl : ls[i]? = some l) (hj : j < l.length) : P1 mk ns i (j + 1) (ls.set i (l.set j (mk i))) := by
  have hlt : i < ls.length := (List.getElem?_eq_some_iff.mp hl).1
  refine ⟨fun p q hq => ?_, fun p q hq hp => ?_, fun q hq r hr => ?_⟩
  · by_cases hpi : p = i
    · subst hpi; rw [List.getElem?_set_self hlt] at hq; cases hq; simp [h.len _ _ hl]
    · rw [List.getElem?_set_ne (fun q => hpi q.symm)] at hq; exact h.len _ _ hq
  · rw [List.getElem?_set_ne (by omega)] at hq; exact h.done _ _ hq hp
  · rw [List.getElem?_set_self hlt] at hq; cases hq
    rw [List.getElem?_set]
    split
    · rfl
    · exact h.part l hl r (by omega)
theorem P1.next {mk : Nat → Int} {ns : Nat → Nat} {i j : Nat} {ls : List (List Int)} (h : P1 mk ns i j ls) {l : List Int} (hl : ls[i]? = some l) (hj : l.length ≤ j) : P1 mk ns (i + 1) 0 ls := by
  refine ⟨h.len, fun p q hq hp => ?_, fun _ _ q hq => by omega⟩
  by_cases hpi : p = i
  · subst hpi
    rw [hl] at hq; cases hq
    refine List.ext_getElem? fun r => ?_
    rw [List.getElem?_replicate, ← h.len _ _ hl]
    split
    · rename_i hr; exact h.part l hl r (by omega)
    · rename_i hr; exact List.getElem?_eq_none (by omega)
  · exact h.done _ _ hq (by omega)
theorem P1.all {mk : Nat → Int} {ns : Nat → Nat} {i : Nat} {ls : List (List Int)} (h : P1 mk ns i 0 ls) (hi : ls.length ≤ i) : ∀ p l, ls[p]? = some l → l = List.replicate (ns p) (mk p) :=
  fun p l hl => h.done p l hl (by have := (List.getElem?_eq_some_iff.mp hl).1; omega)
/-- A row of one's own: its value, and its cells. -/
theorem ownA_shape {X : World} {S : Nat} {e : TypeId} {u : Value} {n : Nat} {xs : List Value} (h : X.ownsRow S e 1 u n xs) :
    ∃ ao c, u = .slice ao n c ∧ n ≤ c ∧ c ≤ 9223372036854775807 ∧ ∀ i v, xs[i]? = some v → ∃ g, ao = some ⟨g, 0, none⟩ ∧ X.cell? ⟨g, i, none⟩ = some v ∧ X.frozen? ⟨g, i, none⟩ = false ∧ g < X.heap.size := by
  obtain ⟨h0, ⟨rfl, rfl⟩ | ⟨g, cap, cur, rfl, hg, hc, r1, r2, r3, r4⟩⟩ := h
  · refine ⟨none, 0, rfl, Nat.le_refl _, by omega, fun i v hv => ?_⟩
    rw [List.getElem?_eq_none (by omega)] at hv; cases hv
  · refine ⟨some ⟨g, 0, none⟩, cap, rfl, r1, r2, fun i v hv => ⟨g, rfl, ?_, free_of hc i, lt_of_heap hc⟩⟩
    have hlt : i < xs.length := (List.getElem?_eq_some_iff.mp hv).1
    rw [← r4, List.getElem?_take_of_lt (by omega)] at hv
    exact cell_of hc (by simpa using hv)
/-- The row of lists stays: it is of another type than they are. -/
theorem Ft.head {L : List Value} {w w' : World} {k : IntKind} {e t : TypeId} {base B : Nat} {ls : List (List Int)} {lv : Value} {n : Nat} {xs : List Value} (h : Ft L w w') (hl : LsO k e w base L ls) (hr : w.ownsRow B t 1 lv n xs) (ht : t ≠ e) : w'.ownsRow B t 1 lv n xs := by
  refine ownA_stay hr (fun g hg => h.block g (hr.lt g hg).2 (fun u hu hb => ?_))
  obtain ⟨i, hi⟩ := List.mem_iff_getElem?.mp hu
  have hlt : i < ls.length := by rw [hl.len]; exact (List.getElem?_eq_some_iff.mp hi).1
  exact ownA_ne hr (hl.own i u _ hi (List.getElem?_eq_getElem hlt)) ht hg hb
theorem Try.info22A : (Try.prog.info? 22).map (fun i => (i.zero, i.size, i.bytes)) = some (some (.slice none 0 0), 1, 24) := by kernel_rfl
theorem Try.info3A : (Try.prog.info? 3).map (fun i => (i.zero, i.size, i.bytes)) = some (some (.int .i64 0), 1, 8) := by kernel_rfl
theorem own_grown {X Y : World} {S S' : Nat} {e e' : TypeId} {u u' : Value} {n n' : Nat} {xs xs' : List Value} (h : X.ownsRow S e 1 u n xs) (h' : X.ownsRow S' e' 1 u' n' xs') (he : e ≠ e') (g : X.grownBy Y u'.ownBlock) : Y.ownsRow S e 1 u n xs :=
  ownA_stay h (fun b hb => g.block b (h.lt b hb).2 (fun q => ownA_ne h h' he hb q.symm))
set_option maxRecDepth 100000 in
set_option maxHeartbeats 8000000 in
theorem intsApart_any (base : Nat) (lv : Value) (L : List Value) (ls : List (List Int)) (w : World) (hrow : w.ownsRow 0 22 1 lv L.length L) (h : LsO .i64 3 w base L ls) (hn : L.length ≤ 1000) (hls : ∀ p, nsL ls p ≤ 1099511627776) (hbase : base ≤ w.heap.size) :
    Calls Try.prog 54 #[lv] w fun e w' => e = .returned (.bool true) ∧ Ft L w w' := by
  obtain ⟨i0, ti, tz0, tz1, tz2⟩ := info_parts3 Try.info3A
  obtain ⟨j0, tj, ty0, ty1, ty2⟩ := info_parts3 Try.info22A
  obtain ⟨ao, c, rfl, _, _, _⟩ := ownA_shape hrow
  have HH := hide (fun wr (hf : Ft L w wr) => hf.head h hrow (by decide))
  have HL0 := hide h
  obtain ⟨m, hm⟩ : ∃ m, m = L.length := ⟨_, rfl⟩
  have HM := hide hm
  rw [← hm] at hn HH ⊢
  have HN := hide hls
  clear hrow h hm hls
  go_enter Try.func54, Try.ntmps54
  go_wp2_with fail
  go_loopw [4, 5] (fun t _ wr => ∃ i : Nat, i ≤ m ∧ t = .int .i64 i ∧ ∃ ls', LsO .i64 3 wr base L ls' ∧ P1 (fun p => -1000 - (p : Int)) (nsL ls) i 0 ls' ∧ Ft L w wr) (fun t _ _ => m - (RowKit.intOf t).toNat)
  case atStart => exact ⟨0, by omega, rfl, ls, HL0.out, P1.start _ _, Ft.refl _ _⟩
  case round =>
    obtain ⟨i, him, rfl, ls', hl, hp, hf⟩ := hrel
    have HL := hide hl; have HP := hide hp; have HF := hide hf
    clear hl hp hf
    obtain ⟨n, hn'⟩ : ∃ n, n = nsL ls i := ⟨_, rfl⟩
    have HNI := hide hn'
    have hnb : n ≤ 1099511627776 := by rw [hn']; exact HN.out i
    clear hn'
    by_cases hi : i < m
    · have hii : (i : Int) < (m : Int) := by omega
      obtain ⟨v, hv⟩ : ∃ v, L[i]? = some v := ⟨_, List.getElem?_eq_getElem (by have := HM.out; omega)⟩
      obtain ⟨l, hl⟩ : ∃ l, ls'[i]? = some l := ⟨_, List.getElem?_eq_getElem (by have := HM.out; have := HL.out.len; omega)⟩
      obtain ⟨vo, vc, rfl, hvc1, hvc2, _⟩ := ownA_shape (HL.out.own i v l hv hl)
      rw [show l.length = n by rw [HNI.out, HP.out.len i l hl]] at hv hvc1
      have HV := hide hv
      clear hv hl
      go_wp2_with fail
      go_loopw [5] (fun t wr => ∃ j : Nat, j ≤ n ∧ t = .int .i64 j ∧ ∃ ls', LsO .i64 3 wr base L ls' ∧ P1 (fun p => -1000 - (p : Int)) (nsL ls) i j ls' ∧ Ft L w wr) (fun t _ => n - (RowKit.intOf t).toNat)
      case atStart => exact ⟨0, by omega, rfl, ls', HL.out, HP.out, HF.out⟩
      case round =>
        clear HL HP HF
        obtain ⟨j, hj, rfl, ls2, hl, hp, hf⟩ := hrel
        obtain ⟨ao2, c2, he, hc1, hc2, hcell⟩ := ownA_shape (HH.out _ hf)
        simp only [Value.slice.injEq, true_and] at he
        obtain ⟨rfl, rfl⟩ := he
        obtain ⟨g, rfl, hg1, hg2, _⟩ := hcell i _ HV.out
        have HL := hide hl; have HP := hide hp; have HF := hide hf
        clear hl hp hf hcell hc1
        by_cases hlt : j < n
        · have hji : (j : Int) < (n : Int) := by omega
          obtain ⟨l, hl⟩ : ∃ l, ls2[i]? = some l := ⟨_, List.getElem?_eq_getElem (by have := HM.out; have := HL.out.len; omega)⟩
          have hln : l.length = n := by rw [HNI.out, HP.out.len i l hl]
          obtain ⟨ao3, c3, he, _, _, hcell⟩ := ownA_shape (HL.out.own i _ l HV.out hl)
          simp only [Value.slice.injEq] at he
          obtain ⟨rfl, _, rfl⟩ := he
          obtain ⟨y, hy⟩ : ∃ y, l[j]? = some y := ⟨_, List.getElem?_eq_getElem (by omega)⟩
          obtain ⟨g', rfl, hd1, hd2, _⟩ := hcell j (.int .i64 y) (by rw [List.getElem?_map, hy]; rfl)
          clear hy
          have HLN := hide hln
          have HLI := hide hl
          clear hl hcell hln
          go_wp2_with fail
          refine ⟨⟨j + 1, by omega, by simp, ls2.set i (l.set j (-1000 - (i : Int))), ?_, ?_, ?_⟩, by simp [RowKit.intOf]; omega⟩
          · exact HL.out.put (c := vc) (by rw [HLN.out]; exact HV.out) HLI.out (by rw [HLN.out]; exact hlt) _
          · exact HP.out.put HLI.out (by rw [HLN.out]; exact hlt)
          · exact HF.out.set (List.mem_of_getElem? HV.out) _
        · have hji : ¬ (j : Int) < (n : Int) := by omega
          go_wp2_with fail
          refine ⟨⟨i + 1, by omega, by simp, ls2, HL.out, ?_, HF.out⟩, by simp [RowKit.intOf]; omega⟩
          obtain ⟨l, hl⟩ : ∃ l, ls2[i]? = some l := ⟨_, List.getElem?_eq_getElem (by have := HM.out; have := HL.out.len; omega)⟩
          exact HP.out.next hl (by rw [HP.out.len i l hl, ← HNI.out]; omega)
    · have hii : ¬ (i : Int) < (m : Int) := by omega
      have hap : AP .i64 3 wr base (fun p => -1000 - (p : Int)) (nsL ls) L [] := HL.out.marked _ _ (HP.out.all (by have := HM.out; have := HL.out.len; omega))
      have HA := hide hap
      clear HL HP hap HNI hnb hi him
      go_wp2_with fail
      clear hii
      go_loopw [3, 6, 7, 8] (fun mv t _ _ wr => ∃ i : Nat, i ≤ m ∧ t = .int .i64 i ∧ ∃ M, M.length = i ∧ AP .i64 3 wr base (fun p => -1000 - (p : Int)) (nsL ls) L M ∧ wr.ownsRow w.heap.size 22 1 mv i M ∧ Ft L w wr) (fun _ t _ _ _ => m - (RowKit.intOf t).toNat)
      case atStart => exact ⟨0, by omega, rfl, [], rfl, HA.out, World.ownsRow_nil _ _ _ _, HF.out⟩
      case round =>
        clear HA HF
        obtain ⟨i, him, rfl, M, hMl, ha, ho, hf⟩ := hrel
        have HA := hide ha; have HO := hide ho; have HF := hide hf; have HML := hide hMl
        clear ha ho hf hMl
        by_cases hi : i < m
        · have hii : (i : Int) < (m : Int) := by omega
          obtain ⟨v, hv⟩ : ∃ v, L[i]? = some v := ⟨_, List.getElem?_eq_getElem (by have := HM.out; omega)⟩
          obtain ⟨ao2, c2, he, hc1, hc2, hcell⟩ := ownA_shape (HH.out _ HF.out)
          simp only [Value.slice.injEq, true_and] at he
          obtain ⟨rfl, rfl⟩ := he
          obtain ⟨g, rfl, hg1, hg2, _⟩ := hcell i _ hv
          have hg0 : GI .i64 3 _ base (fun p => -1000 - (p : Int)) (nsL ls) L M w.heap.size v 0 := HA.out.start _ (by rw [HML.out]; exact hv)
          have HG := hide hg0
          clear hcell hg0 HA hc1 hv
          go_wp2_with fail
          clear hg1 hg2
          go_loopw [7, 8] (fun gv t wr => ∃ j : Nat, j ≤ 20 ∧ t = .int .i64 j ∧ GI .i64 3 wr base (fun p => -1000 - (p : Int)) (nsL ls) L M w.heap.size gv j ∧ wr.ownsRow w.heap.size 22 1 u3 i M ∧ Ft L w wr) (fun _ t _ => 20 - (RowKit.intOf t).toNat)
          case atStart => exact ⟨0, by omega, rfl, HG.out, HO.out, HF.out⟩
          case round =>
            clear HG HO HF
            obtain ⟨j, hj, rfl, hg, ho, hf⟩ := hrel
            have HG := hide hg; have HO := hide ho; have HF := hide hf
            obtain ⟨go, gc, hge, _, _, _⟩ := ownA_shape hg.own
            have HGE := hide hge
            clear hg ho hf hge
            have hnb := HN.out M.length
            by_cases hlt : j < 20
            · have hji : (j : Int) < 20 := by omega
              go_wp2_with (first
                | (at_builtin; refine wpList_append_keeps rfl (.tmp 48) (.tmp 51) 22 rfl base 3 i0 (.int .i64 0) 8 Try.underlying22 ti tz0 tz1 tz2 rfl u7 (nsL ls M.length + j) _ rfl HG.out.own (.int .i64 (-1000 - (i : Int))) rfl rfl (by unfold maxLen; omega) (by omega) (by have := HF.out.size; omega) ?_; intro v1 w1 k1 k2 k3 k4; have K1 := hide k1; have K2 := hide k2; have K3 := hide k3; have K4 := hide k4; clear k1 k2 k3 k4)
                | fail)
              refine ⟨⟨j + 1, by omega, by simp, ?_, own_grown HO.out HG.out.own (by decide) K2.out, HF.out.grown K2.out HG.out.at_⟩, by simp [RowKit.intOf]; omega⟩
              have hk1 := K1.out
              rw [← HML.out] at hk1
              exact HG.out.step HF.out.size hk1 K3.out K4.out
            · have hji : ¬ (j : Int) < 20 := by omega
              obtain rfl : j = 20 := by omega
              have hap := HG.out.done
              have HAP := hide hap
              have HOG := hide HG.out.own
              clear hap HG
              obtain rfl := HGE.out
              go_wp2_with (first
                | (at_builtin; refine wpList_append_keeps rfl (.tmp 53) (.tmp 55) 52 rfl w.heap.size 22 j0 (.slice none 0 0) 24 Try.underlying52 tj ty0 ty1 ty2 rfl u3 i M rfl HO.out (.slice go (nsL ls M.length + 20) gc) rfl rfl (by unfold maxLen; omega) (by omega) (by have := HF.out.size; omega) ?_; intro v1 w1 k1 k2 k3 k4; have K1 := hide k1; have K2 := hide k2; clear k1 k2 k3 k4)
                | fail)
              refine ⟨⟨i + 1, by omega, by simp, _, by simp [HML.out], HAP.out.stay (fun b cur hb => K2.out.block b (lt_of_heap hb) (fun q => ?_)), K1.out, HF.out.grown K2.out (fun b hb => .inr (HO.out.lt b hb).1)⟩, by simp [RowKit.intOf]; omega⟩
              obtain ⟨c9, h9⟩ := ownA_type HO.out q.symm
              rw [hb] at h9
              cases h9
        · have hii : ¬ (i : Int) < (m : Int) := by omega
          have hMm : M.length = m := by rw [HML.out]; omega
          have ho := HO.out
          rw [show i = m by omega] at ho
          clear HO HML
          have HML := hide hMm
          have HO := hide ho
          clear hMm ho
          go_wp2_with fail
          clear hi hii him
          obtain ⟨mo, mc, rfl, hmc1, hmc2, hmcell⟩ := ownA_shape HO.out
          have HMC := hide hmcell
          obtain ⟨ao2, c2, he, hc1, hc2, hcell⟩ := ownA_shape (HH.out _ HF.out)
          simp only [Value.slice.injEq, true_and] at he
          obtain ⟨rfl, rfl⟩ := he
          have HLC := hide hcell
          clear hmcell hcell
          go_loopw [9, 10] (fun t _ wx => ∃ p : Nat, p ≤ m ∧ t = .int .i64 p ∧ wx = wr) (fun t _ _ => m - (RowKit.intOf t).toNat)
          case atStart => exact ⟨0, by omega, rfl, rfl⟩
          case round =>
            obtain ⟨p, hpm, rfl, rfl⟩ := hrel
            by_cases hp : p < m
            · have hpi : (p : Int) < (m : Int) := by omega
              obtain ⟨v, hv⟩ : ∃ v, L[p]? = some v := ⟨_, List.getElem?_eq_getElem (by have := HM.out; omega)⟩
              obtain ⟨v', hv'⟩ : ∃ v', M[p]? = some v' := ⟨_, List.getElem?_eq_getElem (by have := HML.out; omega)⟩
              obtain ⟨g, rfl, hg1, hg2, _⟩ := HLC.out p _ hv
              obtain ⟨g', rfl, hd1, hd2, _⟩ := HMC.out p _ hv'
              obtain ⟨n, hn'⟩ : ∃ n, n = nsL ls p := ⟨_, rfl⟩
              have hnb : n ≤ 1099511627776 := by rw [hn']; exact HN.out p
              obtain ⟨vo, vc, rfl, hvc1, hvc2, hvcell⟩ := ownA_shape (HA.out.ownL p v hv)
              obtain ⟨xo, xc, rfl, hxc1, hxc2, hxcell⟩ := ownA_shape (HA.out.ownM p v' hv')
              rw [← hn'] at hg1 hd1 hvc1 hxc1 hvcell hxcell
              have HVC := hide hvcell; have HXC := hide hxcell
              clear hv hv' hn' hvcell hxcell
              go_wp2_with fail
              go_loopw [10] (fun t wx => ∃ j : Nat, j ≤ n + 20 ∧ t = .int .i64 j ∧ wx = wr) (fun t _ => n + 20 - (RowKit.intOf t).toNat)
              case atStart => exact ⟨0, by omega, rfl, rfl⟩
              case round =>
                obtain ⟨j, hj, rfl, rfl⟩ := hrel
                by_cases hlt : j < n + 20
                · have hji : (j : Int) < ((n : Int) + 20) := by omega
                  obtain ⟨gx, rfl, hx1, hx2, _⟩ := HXC.out j (.int .i64 (-1000 - (p : Int))) (by rw [List.getElem?_replicate, if_pos hlt])
                  by_cases hjn : j < n
                  · have hjni : (j : Int) < (n : Int) := by omega
                    obtain ⟨gv, rfl, hy1, hy2, _⟩ := HVC.out j (.int .i64 (-1000 - (p : Int))) (by rw [List.getElem?_replicate, if_pos hjn])
                    go_wp2_with fail
                    exact ⟨⟨j + 1, by omega, by simp, trivial⟩, by simp [RowKit.intOf]; omega⟩
                  · have hjni : ¬ (j : Int) < (n : Int) := by omega
                    go_wp2_with fail
                    exact ⟨⟨j + 1, by omega, by simp, trivial⟩, by simp [RowKit.intOf]; omega⟩
                · have hji : ¬ (j : Int) < ((n : Int) + 20) := by omega
                  go_wp2_with fail
                  exact ⟨⟨p + 1, by omega, by simp, trivial⟩, by simp [RowKit.intOf]; omega⟩
            · have hpi : ¬ (p : Int) < (m : Int) := by omega
              go_wp2_with fail
              go_ret
              exact ⟨rfl, HF.out⟩
end Go.Proofs.Ytmagigmcbegmiaa

/- wordsApart: the same of words. -/
namespace Go.Proofs.Ytmagigmcbegmiaa
open Go.RowKit Go.Lib
set_option linter.unusedVariables false
set_option linter.unusedSimpArgs false
theorem Try.info23A : (Try.prog.info? 23).map (fun i => (i.zero, i.size, i.bytes)) = some (some (.slice none 0 0), 1, 24) := by kernel_rfl
theorem Try.info48A : (Try.prog.info? 48).map (fun i => (i.zero, i.size, i.bytes)) = some (some (.int .u64 0), 1, 8) := by kernel_rfl
set_option maxRecDepth 100000 in
set_option maxHeartbeats 8000000 in
theorem wordsApart_any (base : Nat) (lv : Value) (L : List Value) (ls : List (List Int)) (w : World) (hrow : w.ownsRow 0 23 1 lv L.length L) (h : LsO .u64 48 w base L ls) (hn : L.length ≤ 1000) (hls : ∀ p, nsL ls p ≤ 1099511627776) (hbase : base ≤ w.heap.size) :
    Calls Try.prog 55 #[lv] w fun e w' => e = .returned (.bool true) ∧ Ft L w w' := by
  obtain ⟨i0, ti, tz0, tz1, tz2⟩ := info_parts3 Try.info48A
  obtain ⟨j0, tj, ty0, ty1, ty2⟩ := info_parts3 Try.info23A
  obtain ⟨ao, c, rfl, _, _, _⟩ := ownA_shape hrow
  have HH := hide (fun wr (hf : Ft L w wr) => hf.head h hrow (by decide))
  have HL0 := hide h
  obtain ⟨m, hm⟩ : ∃ m, m = L.length := ⟨_, rfl⟩
  have HM := hide hm
  rw [← hm] at hn HH ⊢
  have HN := hide hls
  clear hrow h hm hls
  go_enter Try.func55, Try.ntmps55
  go_wp2_with fail
  go_loopw [4, 5] (fun t _ wr => ∃ i : Nat, i ≤ m ∧ t = .int .i64 i ∧ ∃ ls', LsO .u64 48 wr base L ls' ∧ P1 (fun p => 5000 + (p : Int)) (nsL ls) i 0 ls' ∧ Ft L w wr) (fun t _ _ => m - (RowKit.intOf t).toNat)
  case atStart => exact ⟨0, by omega, rfl, ls, HL0.out, P1.start _ _, Ft.refl _ _⟩
  case round =>
    obtain ⟨i, him, rfl, ls', hl, hp, hf⟩ := hrel
    have HL := hide hl; have HP := hide hp; have HF := hide hf
    clear hl hp hf
    obtain ⟨n, hn'⟩ : ∃ n, n = nsL ls i := ⟨_, rfl⟩
    have HNI := hide hn'
    have hnb : n ≤ 1099511627776 := by rw [hn']; exact HN.out i
    clear hn'
    by_cases hi : i < m
    · have hii : (i : Int) < (m : Int) := by omega
      obtain ⟨v, hv⟩ : ∃ v, L[i]? = some v := ⟨_, List.getElem?_eq_getElem (by have := HM.out; omega)⟩
      obtain ⟨l, hl⟩ : ∃ l, ls'[i]? = some l := ⟨_, List.getElem?_eq_getElem (by have := HM.out; have := HL.out.len; omega)⟩
      obtain ⟨vo, vc, rfl, hvc1, hvc2, _⟩ := ownA_shape (HL.out.own i v l hv hl)
      rw [show l.length = n by rw [HNI.out, HP.out.len i l hl]] at hv hvc1
      have HV := hide hv
      clear hv hl
      go_wp2_with fail
      go_loopw [5] (fun t wr => ∃ j : Nat, j ≤ n ∧ t = .int .i64 j ∧ ∃ ls', LsO .u64 48 wr base L ls' ∧ P1 (fun p => 5000 + (p : Int)) (nsL ls) i j ls' ∧ Ft L w wr) (fun t _ => n - (RowKit.intOf t).toNat)
      case atStart => exact ⟨0, by omega, rfl, ls', HL.out, HP.out, HF.out⟩
      case round =>
        clear HL HP HF
        obtain ⟨j, hj, rfl, ls2, hl, hp, hf⟩ := hrel
        obtain ⟨ao2, c2, he, hc1, hc2, hcell⟩ := ownA_shape (HH.out _ hf)
        simp only [Value.slice.injEq, true_and] at he
        obtain ⟨rfl, rfl⟩ := he
        obtain ⟨g, rfl, hg1, hg2, _⟩ := hcell i _ HV.out
        have HL := hide hl; have HP := hide hp; have HF := hide hf
        clear hl hp hf hcell hc1
        by_cases hlt : j < n
        · have hji : (j : Int) < (n : Int) := by omega
          obtain ⟨l, hl⟩ : ∃ l, ls2[i]? = some l := ⟨_, List.getElem?_eq_getElem (by have := HM.out; have := HL.out.len; omega)⟩
          have hln : l.length = n := by rw [HNI.out, HP.out.len i l hl]
          obtain ⟨ao3, c3, he, _, _, hcell⟩ := ownA_shape (HL.out.own i _ l HV.out hl)
          simp only [Value.slice.injEq] at he
          obtain ⟨rfl, _, rfl⟩ := he
          obtain ⟨y, hy⟩ : ∃ y, l[j]? = some y := ⟨_, List.getElem?_eq_getElem (by omega)⟩
          obtain ⟨g', rfl, hd1, hd2, _⟩ := hcell j (.int .u64 y) (by rw [List.getElem?_map, hy]; rfl)
          clear hy
          have HLN := hide hln
          have HLI := hide hl
          clear hl hcell hln
          go_wp2_with fail
          refine ⟨⟨j + 1, by omega, by simp, ls2.set i (l.set j (5000 + (i : Int))), ?_, ?_, ?_⟩, by simp [RowKit.intOf]; omega⟩
          · exact HL.out.put (c := vc) (by rw [HLN.out]; exact HV.out) HLI.out (by rw [HLN.out]; exact hlt) _
          · exact HP.out.put HLI.out (by rw [HLN.out]; exact hlt)
          · exact HF.out.set (List.mem_of_getElem? HV.out) _
        · have hji : ¬ (j : Int) < (n : Int) := by omega
          go_wp2_with fail
          refine ⟨⟨i + 1, by omega, by simp, ls2, HL.out, ?_, HF.out⟩, by simp [RowKit.intOf]; omega⟩
          obtain ⟨l, hl⟩ : ∃ l, ls2[i]? = some l := ⟨_, List.getElem?_eq_getElem (by have := HM.out; have := HL.out.len; omega)⟩
          exact HP.out.next hl (by rw [HP.out.len i l hl, ← HNI.out]; omega)
    · have hii : ¬ (i : Int) < (m : Int) := by omega
      have hap : AP .u64 48 wr base (fun p => 5000 + (p : Int)) (nsL ls) L [] := HL.out.marked _ _ (HP.out.all (by have := HM.out; have := HL.out.len; omega))
      have HA := hide hap
      clear HL HP hap HNI hnb hi him
      go_wp2_with fail
      clear hii
      go_loopw [3, 6, 7, 8] (fun mv t _ _ wr => ∃ i : Nat, i ≤ m ∧ t = .int .i64 i ∧ ∃ M, M.length = i ∧ AP .u64 48 wr base (fun p => 5000 + (p : Int)) (nsL ls) L M ∧ wr.ownsRow w.heap.size 23 1 mv i M ∧ Ft L w wr) (fun _ t _ _ _ => m - (RowKit.intOf t).toNat)
      case atStart => exact ⟨0, by omega, rfl, [], rfl, HA.out, World.ownsRow_nil _ _ _ _, HF.out⟩
      case round =>
        clear HA HF
        obtain ⟨i, him, rfl, M, hMl, ha, ho, hf⟩ := hrel
        have HA := hide ha; have HO := hide ho; have HF := hide hf; have HML := hide hMl
        clear ha ho hf hMl
        by_cases hi : i < m
        · have hii : (i : Int) < (m : Int) := by omega
          obtain ⟨v, hv⟩ : ∃ v, L[i]? = some v := ⟨_, List.getElem?_eq_getElem (by have := HM.out; omega)⟩
          obtain ⟨ao2, c2, he, hc1, hc2, hcell⟩ := ownA_shape (HH.out _ HF.out)
          simp only [Value.slice.injEq, true_and] at he
          obtain ⟨rfl, rfl⟩ := he
          obtain ⟨g, rfl, hg1, hg2, _⟩ := hcell i _ hv
          have hg0 : GI .u64 48 _ base (fun p => 5000 + (p : Int)) (nsL ls) L M w.heap.size v 0 := HA.out.start _ (by rw [HML.out]; exact hv)
          have HG := hide hg0
          clear hcell hg0 HA hc1 hv
          go_wp2_with fail
          clear hg1 hg2
          go_loopw [7, 8] (fun gv t wr => ∃ j : Nat, j ≤ 20 ∧ t = .int .i64 j ∧ GI .u64 48 wr base (fun p => 5000 + (p : Int)) (nsL ls) L M w.heap.size gv j ∧ wr.ownsRow w.heap.size 23 1 u3 i M ∧ Ft L w wr) (fun _ t _ => 20 - (RowKit.intOf t).toNat)
          case atStart => exact ⟨0, by omega, rfl, HG.out, HO.out, HF.out⟩
          case round =>
            clear HG HO HF
            obtain ⟨j, hj, rfl, hg, ho, hf⟩ := hrel
            have HG := hide hg; have HO := hide ho; have HF := hide hf
            obtain ⟨go, gc, hge, _, _, _⟩ := ownA_shape hg.own
            have HGE := hide hge
            clear hg ho hf hge
            have hnb := HN.out M.length
            by_cases hlt : j < 20
            · have hji : (j : Int) < 20 := by omega
              go_wp2_with (first
                | (at_builtin; refine wpList_append_keeps rfl (.tmp 49) (.tmp 53) 23 rfl base 48 i0 (.int .u64 0) 8 Try.underlying23 ti tz0 tz1 tz2 rfl u7 (nsL ls M.length + j) _ rfl HG.out.own (.int .u64 (5000 + (i : Int))) rfl rfl (by unfold maxLen; omega) (by omega) (by have := HF.out.size; omega) ?_; intro v1 w1 k1 k2 k3 k4; have K1 := hide k1; have K2 := hide k2; have K3 := hide k3; have K4 := hide k4; clear k1 k2 k3 k4)
                | fail)
              refine ⟨⟨j + 1, by omega, by simp, ?_, own_grown HO.out HG.out.own (by decide) K2.out, HF.out.grown K2.out HG.out.at_⟩, by simp [RowKit.intOf]; omega⟩
              have hk1 := K1.out
              rw [← HML.out] at hk1
              exact HG.out.step HF.out.size hk1 K3.out K4.out
            · have hji : ¬ (j : Int) < 20 := by omega
              obtain rfl : j = 20 := by omega
              have hap := HG.out.done
              have HAP := hide hap
              have HOG := hide HG.out.own
              clear hap HG
              obtain rfl := HGE.out
              go_wp2_with (first
                | (at_builtin; refine wpList_append_keeps rfl (.tmp 55) (.tmp 57) 53 rfl w.heap.size 23 j0 (.slice none 0 0) 24 Try.underlying53 tj ty0 ty1 ty2 rfl u3 i M rfl HO.out (.slice go (nsL ls M.length + 20) gc) rfl rfl (by unfold maxLen; omega) (by omega) (by have := HF.out.size; omega) ?_; intro v1 w1 k1 k2 k3 k4; have K1 := hide k1; have K2 := hide k2; clear k1 k2 k3 k4)
                | fail)
              refine ⟨⟨i + 1, by omega, by simp, _, by simp [HML.out], HAP.out.stay (fun b cur hb => K2.out.block b (lt_of_heap hb) (fun q => ?_)), K1.out, HF.out.grown K2.out (fun b hb => .inr (HO.out.lt b hb).1)⟩, by simp [RowKit.intOf]; omega⟩
              obtain ⟨c9, h9⟩ := ownA_type HO.out q.symm
              rw [hb] at h9
              cases h9
        · have hii : ¬ (i : Int) < (m : Int) := by omega
          have hMm : M.length = m := by rw [HML.out]; omega
          have ho := HO.out
          rw [show i = m by omega] at ho
          clear HO HML
          have HML := hide hMm
          have HO := hide ho
          clear hMm ho
          go_wp2_with fail
          clear hi hii him
          obtain ⟨mo, mc, rfl, hmc1, hmc2, hmcell⟩ := ownA_shape HO.out
          have HMC := hide hmcell
          obtain ⟨ao2, c2, he, hc1, hc2, hcell⟩ := ownA_shape (HH.out _ HF.out)
          simp only [Value.slice.injEq, true_and] at he
          obtain ⟨rfl, rfl⟩ := he
          have HLC := hide hcell
          clear hmcell hcell
          go_loopw [9, 10] (fun t _ wx => ∃ p : Nat, p ≤ m ∧ t = .int .i64 p ∧ wx = wr) (fun t _ _ => m - (RowKit.intOf t).toNat)
          case atStart => exact ⟨0, by omega, rfl, rfl⟩
          case round =>
            obtain ⟨p, hpm, rfl, rfl⟩ := hrel
            by_cases hp : p < m
            · have hpi : (p : Int) < (m : Int) := by omega
              obtain ⟨v, hv⟩ : ∃ v, L[p]? = some v := ⟨_, List.getElem?_eq_getElem (by have := HM.out; omega)⟩
              obtain ⟨v', hv'⟩ : ∃ v', M[p]? = some v' := ⟨_, List.getElem?_eq_getElem (by have := HML.out; omega)⟩
              obtain ⟨g, rfl, hg1, hg2, _⟩ := HLC.out p _ hv
              obtain ⟨g', rfl, hd1, hd2, _⟩ := HMC.out p _ hv'
              obtain ⟨n, hn'⟩ : ∃ n, n = nsL ls p := ⟨_, rfl⟩
              have hnb : n ≤ 1099511627776 := by rw [hn']; exact HN.out p
              obtain ⟨vo, vc, rfl, hvc1, hvc2, hvcell⟩ := ownA_shape (HA.out.ownL p v hv)
              obtain ⟨xo, xc, rfl, hxc1, hxc2, hxcell⟩ := ownA_shape (HA.out.ownM p v' hv')
              rw [← hn'] at hg1 hd1 hvc1 hxc1 hvcell hxcell
              have HVC := hide hvcell; have HXC := hide hxcell
              clear hv hv' hn' hvcell hxcell
              go_wp2_with fail
              go_loopw [10] (fun t wx => ∃ j : Nat, j ≤ n + 20 ∧ t = .int .i64 j ∧ wx = wr) (fun t _ => n + 20 - (RowKit.intOf t).toNat)
              case atStart => exact ⟨0, by omega, rfl, rfl⟩
              case round =>
                obtain ⟨j, hj, rfl, rfl⟩ := hrel
                by_cases hlt : j < n + 20
                · have hji : (j : Int) < ((n : Int) + 20) := by omega
                  obtain ⟨gx, rfl, hx1, hx2, _⟩ := HXC.out j (.int .u64 (5000 + (p : Int))) (by rw [List.getElem?_replicate, if_pos hlt])
                  by_cases hjn : j < n
                  · have hjni : (j : Int) < (n : Int) := by omega
                    obtain ⟨gv, rfl, hy1, hy2, _⟩ := HVC.out j (.int .u64 (5000 + (p : Int))) (by rw [List.getElem?_replicate, if_pos hjn])
                    go_wp2_with fail
                    exact ⟨⟨j + 1, by omega, by simp, trivial⟩, by simp [RowKit.intOf]; omega⟩
                  · have hjni : ¬ (j : Int) < (n : Int) := by omega
                    go_wp2_with fail
                    exact ⟨⟨j + 1, by omega, by simp, trivial⟩, by simp [RowKit.intOf]; omega⟩
                · have hji : ¬ (j : Int) < ((n : Int) + 20) := by omega
                  go_wp2_with fail
                  exact ⟨⟨p + 1, by omega, by simp, trivial⟩, by simp [RowKit.intOf]; omega⟩
            · have hpi : ¬ (p : Int) < (m : Int) := by omega
              go_wp2_with fail
              go_ret
              exact ⟨rfl, HF.out⟩
end Go.Proofs.Ytmagigmcbegmiaa
