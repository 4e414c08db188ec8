/- A table with its ring's state: an op; held2 24. -/
import Derived.Test.YtgjdjdgondpjeaaGreatRmD
import Derived.Deep.RegionHeld3
namespace Go.Proofs.YtgjdjdgondpjeaaGreat
open Go.RowKit Go.Lib
set_option linter.unusedVariables false
set_option linter.unusedSimpArgs false
structure RW (w wr : World) (X ab gc Y Z n : Nat) (tb : Array Value) (lv : Value) (s : Ast) (gP cP gH cH : Nat) (qs ps : Nat → Nat) (vs : Nat → Value) (gs : Nat → Bool) (ds : Nat → Hs) (b C K : Nat) (row : List Tk) (H : Int) : Prop where
  rm : RM w wr X ab gc Y Z n tb lv s (.slice (some ⟨gP, 0, none⟩) n cP) (.slice (some ⟨gH, 0, none⟩) n cH) qs ps vs gs ds (fun _ => b) (fun _ => C) K
  ri : ∃ pl, RI b C s.cells n ds row H pl
  go : s.stopped = false
  len : row.length ≤ 65536 + K
  t0 : tb[0]? = some (.int .i64 (b : Int)) ∧ tb[1]? = some (.int .i64 (C : Int))
section
variable {w wr wr' : World} {X ab gc Y Z n b C K : Nat} {tb : Array Value} {lv : Value} {s : Ast} {gP cP gH cH : Nat} {qs ps : Nat → Nat} {vs : Nat → Value} {gs : Nat → Bool} {ds : Nat → Hs} {row : List Tk} {H : Int}
theorem stS_go (s : Ast) (i b C : Nat) (d : Hs) : (stS s i b C d).stopped = s.stopped := by unfold stS; split <;> rfl
theorem actS_go (s : Ast) (i b C : Nat) (kind : Int) (d : Hs) : (actS s i b C kind d).stopped = s.stopped := by
  unfold actS; split
  · exact stS_go _ _ _ _ _
  · rfl
theorem rw_act (h : RW w wr X ab gc Y Z n tb lv s gP cP gH cH qs ps vs gs ds b C K row H) {i : Nat} (hi : i < n) (kind who : Int) (t : Tk) (hK : K ≤ 1099511627776) (h1 : W64 t.1) (h2 : W64 t.2) :
    Calls Tryz.prog 17 #[.pointer (some ⟨X, 0, none⟩), .int .i64 i, .agg #[.int .i64 kind, .int .i64 who, .int .u64 t.1, .int .u64 t.2]] wr fun e w' => e = .returned (.int .i64 (actE kind t (ds i))) ∧ ∃ lv' vs' gs', RW w w' X ab gc Y Z n tb lv' (actS s i b C kind (ds i)) gP cP gH cH qs ps vs' gs' (upd ds i (actD s b C kind t (ds i))) b C (K + 1) (actR s b C kind (ds i) row) (actH s b C kind (ds i) H) ∧ Kp wr w' ∧ VF wr.heap.size vs vs' := by
  refine (act_any h.rm hi kind who t h.go hK h1 h2).mono ?_
  rintro e w' ⟨rfl, lv', vs', gs', hr, hk, hv⟩
  obtain ⟨pl, hri⟩ := h.ri
  have hl := h.len
  refine ⟨rfl, lv', vs', gs', ⟨hr, hri.act hi kind t (by omega), by rw [actS_go]; exact h.go, ?_, h.t0⟩, hk, hv⟩
  have := actR_len s b C kind (ds i) row
  omega
theorem RW.below (h : RW w wr X ab gc Y Z n tb lv s gP cP gH cH qs ps vs gs ds b C K row H) (hb : Below wr.heap.size wr wr') : RW w wr' X ab gc Y Z n tb lv s gP cP gH cH qs ps vs gs ds b C K row H := ⟨h.rm.below hb, h.ri, h.go, h.len, h.t0⟩
theorem RW.far {S : Nat → Prop} (h : RW w wr X ab gc Y Z n tb lv s gP cP gH cH qs ps vs gs ds b C K row H) (c : Chg S wr wr') (hS : ∀ j, S j → w.heap.size ≤ j ∧ (j < wr.heap.size → ∃ cs t, wr.heap[j]? = some (.cells cs t (0, 0)) ∧ t ≠ 37 ∧ t ≠ 84 ∧ t ≠ 63 ∧ ¬ pT t ∧ (t = 42 → ∀ i, i < n → (vs i).ownBlock ≠ some j))) : RW w wr' X ab gc Y Z n tb lv s gP cP gH cH qs ps vs gs ds b C K row H := ⟨h.rm.far c hS, h.ri, h.go, h.len, h.t0⟩
theorem RW.bd (h : RW w wr X ab gc Y Z n tb lv s gP cP gH cH qs ps vs gs ds b C K row H) : 2 ≤ C ∧ C ≤ 65536 ∧ b + (2 + 3 * C) ≤ 16777216 := by
  obtain ⟨pl, hri⟩ := h.ri
  have h1 := hri.c2; have h2 := hri.cb; have h3 := hri.len; have h4 := h.rm.ar.len
  exact ⟨h1, h2, by omega⟩
theorem rw_image (h : RW w wr X ab gc Y Z n tb lv s gP cP gH cH qs ps vs gs ds b C K row H) : Calls Tryz.prog 15 #[.pointer (some ⟨ab, 0, none⟩)] wr fun r w' => ∃ v', r = .returned v' ∧ w'.ownsRow wr.heap.size 40 1 v' s.cells.length (s.cells.map (Value.int .u64)) ∧ RW w w' X ab gc Y Z n tb lv s gP cP gH cH qs ps vs gs ds b C K row H ∧ Kp wr w' := by
  refine (rm_image h.rm).mono ?_
  rintro r w' ⟨v', hr, ho, hm, hk⟩
  exact ⟨v', hr, ho, ⟨hm, h.ri, h.go, h.len, h.t0⟩, hk⟩
theorem rw_log (h : RW w wr X ab gc Y Z n tb lv s gP cP gH cH qs ps vs gs ds b C K row H) (hK : K ≤ 1099511627776) : Calls Tryz.prog 14 #[.pointer (some ⟨ab, 0, none⟩)] wr fun r w' => ∃ v', r = .returned v' ∧ w'.ownsRow wr.heap.size 55 8 v' s.log.length (logCells s.log) ∧ RW w w' X ab gc Y Z n tb lv s gP cP gH cH qs ps vs gs ds b C K row H ∧ Kp wr w' := by
  refine (rm_log h.rm hK).mono ?_
  rintro r w' ⟨v', hr, ho, hm, hk⟩
  exact ⟨v', hr, ho, ⟨hm, h.ri, h.go, h.len, h.t0⟩, hk⟩
theorem RW.cells (h : RW w wr X ab gc Y Z n tb lv s gP cP gH cH qs ps vs gs ds b C K row H) : wr.cell? ⟨X, 0, none⟩ = some (.int .i64 (b : Int)) ∧ wr.cell? ⟨X, 1, none⟩ = some (.int .i64 (C : Int)) ∧ wr.cell? ⟨X, 2, none⟩ = some (.pointer (some ⟨ab, 0, none⟩)) ∧ wr.cell? ⟨X, 4, none⟩ = some (.slice (some ⟨gH, 0, none⟩) n cH) := by
  have hx := h.rm.x
  exact ⟨cell_of hx h.t0.1, cell_of hx h.t0.2, cell_of hx h.rm.tc.1, cell_of hx h.rm.tc.2.2⟩
/-- Held of the image. -/
theorem rw_held (h : RW w wr X ab gc Y Z n tb lv s gP cP gH cH qs ps vs gs ds b C K row H) {v : Value} (hv : wr.ownsRow (0 : Nat) 40 1 v s.cells.length (s.cells.map (Value.int .u64))) :
    Calls Tryz.prog 20 #[.agg #[.int .i64 (b : Int), .int .i64 (C : Int)], v, .slice (some ⟨gH, 0, none⟩) n cH] wr fun e w' => ∃ u, e = .returned (.tuple #[u, .int .i64 0]) ∧ TOwn w' wr.heap.size u (srt (fil b C s.cells C ++ hands b C s.cells ds n)) ∧ Below wr.heap.size wr w' := by
  obtain ⟨b1, b2, b3⟩ := h.bd
  obtain ⟨pl, hri⟩ := h.ri
  have h4 := h.rm.ar.len
  exact held_any h.rm (fun j _ => ⟨rfl, rfl⟩) v s.cells (RowAt.of_owns hv) hri.len h4 (fun i hi => h.rm.wd i hi) b1 b2 b3
end
theorem own_zero {w : World} {a n z : Nat} {t : TypeId} {v : Value} {xs : List Value} (h : w.ownsRow a t z v n xs) : w.ownsRow 0 t z v n xs := own_base h (Nat.zero_le _)
/-- What one removal after another leaves. -/
theorem diff_mem {l : List Tk} {r : List Tk} {t : Tk} {L : List Tk} (h : ∀ u, L.count u + r.count u = l.count u) (h2 : (r ++ [t]).count t ≤ l.count t) : t ∈ L := by
  have h1 := h t
  rw [List.count_append, List.count_singleton] at h2
  simp at h2
  exact List.count_pos_iff.1 (by omega)
theorem diff_step {l : List Tk} {r : List Tk} {t : Tk} {L : List Tk} (h : ∀ u, L.count u + r.count u = l.count u) (hm : t ∈ L) : ∀ u, (L.erase t).count u + (r ++ [t]).count u = l.count u := fun u => by
  rw [← h u, List.count_append, List.count_singleton, List.count_erase]
  have := List.count_pos_iff.2 hm
  by_cases e : t = u
  · subst e; simp; omega
  · simp [e]
set_option maxRecDepth 100000 in
set_option maxHeartbeats 4000000 in
/-- held2. -/
theorem held2_any {w wr : World} {X ab gc Y Z n b C K : Nat} {tb : Array Value} {lv : Value} {s : Ast} {gP cP gH cH : Nat} {qs ps : Nat → Nat} {vs : Nat → Value} {gs : Nat → Bool} {ds : Nat → Hs} {row : List Tk} {H : Int}
    (h : RW w wr X ab gc Y Z n tb lv s gP cP gH cH qs ps vs gs ds b C K row H) (v : Value) (fr : Nat) (hv : TOwn wr fr v row) (hK : K ≤ 2097152) :
    Calls Tryz.prog 24 #[.pointer (some ⟨X, 0, none⟩), v, .int .i64 H] wr fun e w' => e = .returned (.bool true) ∧ Below w.heap.size w w' := by
  have hn64 := h.rm.n64
  obtain ⟨pl, hri⟩ := h.ri
  have HCT := hide (fun u => hri.count_held u)
  have HH0 := hide hri.h0
  have HLN := hide h.len
  have HIM := hide (fun V (hb : Below wr.heap.size wr V) => rw_image (h.below hb))
  have HXC := hide (fun V (hb : Below wr.heap.size wr V) => (h.below hb).cells)
  obtain ⟨x0, x1, x2, x4⟩ := h.cells
  have HTV := hide hv
  obtain ⟨av, cv, rfl, hcv, hcv2⟩ := hv.tat.shape
  have HSM : Hid ((fil b C s.cells C ++ hands b C s.cells ds n).length ≤ 70000) := hide (by
    have := fil_length b C s.cells C
    have := hands_len b C s.cells ds n
    rw [List.length_append]
    have := h.bd
    omega)
  generalize hG : fil b C s.cells C ++ hands b C s.cells ds n = G at HCT HSM
  have HGE := hide hG
  obtain ⟨nr, hnr⟩ : ∃ nr, nr = row.length := ⟨_, rfl⟩
  have HNR := hide hnr
  rw [← hnr] at hcv HTV ⊢
  clear hri hv h hG hnr
  go_enter Tryz.func24, Tryz.ntmps24
  go_wp2_with fail
  refine wp_region_noPanic ?_
  go_region_held3 (fun x => x.cell? ⟨X, 0, none⟩ = some (.int .i64 b) ∧ x.cell? ⟨X, 1, none⟩ = some (.int .i64 C) ∧ x.cell? ⟨X, 2, none⟩ = some (.pointer (some ⟨ab, 0, none⟩)) ∧ x.cell? ⟨X, 4, none⟩ = some (.slice (some ⟨gH, 0, none⟩) n cH)) (first | exact ⟨x0, x1, x2, x4⟩ | exact ⟨y0, y1, y2, y4⟩ | exact ⟨z0, z1, z2, z4⟩ | go_keep)
    (first
      | (go_at_call 15; refine (HIM.out _ (below_drew (Below.refl _ _))).mono ?_; rintro e w2 ⟨v', rfl, ho, hrw, hk⟩; have HRW := hide hrw; have HO := hide ho; have HK2 := hide ((Kp.of_below (below_drew (Below.refl wr.heap.size wr))).trans hk); obtain ⟨y0, y1, y2, y4⟩ := hrw.cells; obtain ⟨o2, c2, rfl⟩ := owns_shape ho; clear ho hrw hk)
      | (go_at_call 20; refine (rw_held HRW.out (own_zero HO.out)).mono ?_; rintro e w3 ⟨u3, rfl, ht3, hb3⟩; have HT3 := hide ht3; have HB3 := hide hb3; obtain ⟨z0, z1, z2, z4⟩ := (HRW.out.below hb3).cells; obtain ⟨a3, c3, rfl, _⟩ := ht3.tat.shape; clear ht3 hb3)
      | fail)
  all_goals
    refine NoPanic.normal ?_
    have HK3 := hide (HK2.out.trans (Kp.of_below HB3.out))
    have HBW := hide (below_on HRW.out.rm.bel HB3.out)
    have HTV3 := hide (show TOwn w3 fr (.slice av nr cv) row from HK3.out.row HTV.out (by unfold pT; decide))
    have HSL := hide (srt_length (fil b C s.cells C ++ hands b C s.cells ds n))
    have HCG : Hid (∀ u, (srt (fil b C s.cells C ++ hands b C s.cells ds n)).count u = G.count u) := hide (fun u => by rw [HGE.out]; exact (srt_perm G).count_eq u)
    generalize hSG : srt (fil b C s.cells C ++ hands b C s.cells ds n) = SG at HCG HT3 HSL ⊢
    have HSG : Hid (SG.length ≤ 70000) := hide (by rw [HSL.out, HGE.out]; exact HSM.out)
    have hHz : H = ((H.toNat : Nat) : Int) := by have := HH0.out; omega
    obtain ⟨Hn, hHn⟩ : ∃ Hn, Hn = H.toNat := ⟨_, rfl⟩
    have HHN := hide (show Hn ≤ nr by have := HH0.out; have := HNR.out; omega)
    rw [← hHn] at hHz HCT
    subst hHz
    clear hHn HTV HK3 HK2 HIM HXC HRW HO HSL HGE hSG HH0 x0 x1 x2 x4 y0 y1 y2 y4 z0 z1 z2 z4
    go_wp2_with fail
    go_loopw [7, 9, 10] (fun u f tt wq => ∃ (i : Nat) (L : List Tk), Hn ≤ i ∧ i ≤ nr ∧ tt = .int .i64 (i : Int) ∧ f = .bool true ∧ TOwn wq 0 u L ∧ L.length ≤ 70000 ∧ (∀ u, L.count u + ((row.drop Hn).take (i - Hn)).count u = SG.count u) ∧ Below w3.heap.size w3 wq) (fun _ _ tt _ => nr - (RowKit.intOf tt).toNat)
    case atStart => exact ⟨Hn, SG, Nat.le_refl _, HHN.out, rfl, rfl, own_base HT3.out (Nat.zero_le _), HSG.out, (fun u => by simp), Below.refl _ _⟩
    case round =>
      obtain ⟨i, L, hi1, hi2, rfl, rfl, hto, hL7, hcu, hbl⟩ := hrel
      have HCU := hide hcu; have HBL := hide hbl; have HL7 := hide hL7
      clear HT3 HSG hcu hL7
      by_cases hlt : i < nr
      · have hli : (i : Int) < (nr : Int) := by omega
        have hll : i < row.length := by rw [← HNR.out]; exact hlt
        obtain ⟨g, o, he, p0, p1⟩ := ((HTV3.out.below hbl).tat).cellAt i hll
        subst he
        have HR1 : Hid ((row.drop Hn).take (i + 1 - Hn) = (row.drop Hn).take (i - Hn) ++ [tAt row i]) := hide (by
          rw [show i + 1 - Hn = (i - Hn) + 1 by omega, List.take_add_one, List.getElem?_drop, show Hn + (i - Hn) = i by omega]
          simp [tAt, List.getElem?_eq_getElem hll])
        have HM : Hid (tAt row i ∈ L) := hide (diff_mem (l := SG) HCU.out (by
          rw [← HR1.out, HCG.out, HCT.out]
          exact Nat.le_trans (List.Sublist.count_le _ (List.take_sublist _ _)) (Nat.le_add_right _ _)))
        have HWO := hide (without_any u7 L (tAt row i) wr hto.tat (by have := HL7.out; omega))
        have HLE := hide (show (L.erase (tAt row i)).length ≤ 70000 from Nat.le_trans (List.length_erase_le) HL7.out)
        have hwr : IntKind.i64.wrap ((i : Int) + 1) = (i : Int) + 1 := IntWalk.i64_in _ (by omega)
        obtain ⟨al, cl, rfl, _⟩ := hto.tat.shape
        clear hto hbl
        go_wp2_with fail
        refine HWO.out.mono ?_
        rintro e w5 ⟨u5, rfl, ht5, hb5⟩
        have HT5 := hide ht5
        have HB5 := hide (below_on HBL.out hb5)
        have HDE : Hid (decide (tAt row i ∈ L) = true) := hide (by simpa using HM.out)
        rw [HDE.out]
        obtain ⟨a5, c5, rfl, _⟩ := ht5.tat.shape
        clear ht5 hb5 p0 p1 HWO
        go_wp2_with fail
        exact ⟨⟨i + 1, _, by omega, hlt, by simp, rfl, own_base HT5.out (Nat.zero_le _), HLE.out, (fun u => by rw [HR1.out]; exact diff_step HCU.out HM.out u), HB5.out⟩, mdecR hlt⟩
      · obtain rfl : i = nr := by omega
        obtain ⟨al, cl, rfl, _⟩ := hto.tat.shape
        clear hto hbl
        go_wp2_with fail
        go_ret
        exact ⟨rfl, below_on HBW.out HBL.out⟩
end Go.Proofs.YtgjdjdgondpjeaaGreat
