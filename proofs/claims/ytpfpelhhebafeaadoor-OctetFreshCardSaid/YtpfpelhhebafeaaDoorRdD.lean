/- The reference's Bytes, Sealed, Seek. -/
import Derived.Test.YtpfpelhhebafeaaDoorRdB
import Derived.Deep.AppendLies
namespace Go.Proofs.YtpfpelhhebafeaaDoor
open Go.RowKit Go.Lib
set_option linter.unusedVariables false
set_option linter.unusedSimpArgs false
theorem below_alloc' {a w : World} (h : Below a.heap.size a w) (o : Obj) : Below a.heap.size a (w.alloc o) := h.alloc h.size o
theorem one_at' (w : World) (x : Value) (t : TypeId) : ∀ j u, [x][j]? = some u → (w.alloc (.cells #[x] t)).drew.cell? ((⟨w.heap.size, 0, none⟩ : Addr).add j) = some u := fun j u h => one_at w x t j u h
theorem row_cell {W : World} {g o L c : Nat} {bs : List Int} (h : RowAt .u8 W (.slice (some ⟨g, o, none⟩) L c) bs) (j : Nat) (hj : j < bs.length) : W.cell? ⟨g, o + j, none⟩ = some (.int .u8 (bs[j]?.getD 0)) := by
  obtain ⟨ao, c', he, _, _, _, h4⟩ := h
  simp only [Value.slice.injEq] at he
  obtain ⟨rfl, _, _⟩ := he
  have := h4 _ rfl j hj
  rw [Addr.add_lit] at this
  simpa [List.getD] using this
set_option maxRecDepth 100000 in
set_option maxHeartbeats 4000000 in
theorem rr_bytes (w : World) (r p : Nat) (n : Int) (v : Value) (bs : List Int) (h : RRd w r v bs p) (hp : p ≤ bs.length) (hbig : bs.length ≤ 140737488351232) :
    Calls Tryd.prog 48 #[.pointer (some ⟨r, 0, none⟩), .int .i64 n] w fun e w' => ∃ u, e = .returned (.tuple #[u, .int .i64 (bytA bs p n).2.1]) ∧ RowAt .u8 w' u (bytA bs p n).1 ∧ RRd w' r v bs (bytA bs p n).2.2 ∧ But r w w' := by
  have H := hide h
  by_cases hn : n < 0
  · have e : bytA bs p n = ([], 4, p) := by unfold bytA; rw [if_pos hn]
    rw [e]
    clear h e hp hbig
    go_enter Tryd.func48, Tryd.ntmps48
    go_wp2
    go_ret2
    exact ⟨_, rfl, RowAt.nil _ _, H.out, But.refl _ _⟩
  · obtain ⟨m, rfl⟩ : ∃ m : Nat, n = (m : Int) := ⟨n.toNat, by omega⟩
    have HLF := hide (rleft_any w r p v bs h hp (by omega))
    by_cases hl : bs.length < p + m
    · have e : bytA bs p (m : Int) = ([], 1, p) := by unfold bytA; rw [if_neg hn, if_pos (by simpa using hl)]
      rw [e]
      obtain ⟨L, hL⟩ : ∃ L, L = bs.length := ⟨_, rfl⟩
      rw [← hL] at HLF hl
      have hlt : (L : Int) - (p : Int) < (m : Int) := by omega
      clear h hL e hl hp hbig
      go_enter Tryd.func48, Tryd.ntmps48
      go_wp2_with (first
        | (go_at_call 33; refine HLF.out.mono ?_; rintro e w2 ⟨rfl, hb2⟩; have HB := hide hb2; clear hb2)
        | fail)
      go_ret2
      exact ⟨_, rfl, RowAt.nil _ _, H.out.below HB.out, But.of_below HB.out⟩
    · have e : bytA bs p (m : Int) = ((bs.take (p + m)).drop p, 0, p + m) := by unfold bytA; rw [if_neg hn, if_neg (by simpa using hl)]; simp
      rw [e]
      obtain ⟨i0, hi, hz0, hz1, hz2⟩ := info_parts Tryd.info5
      obtain ⟨ao, c, rfl⟩ := h.shape
      obtain ⟨L, hL⟩ : ∃ L, L = bs.length := ⟨_, rfl⟩
      have HL := hide hL
      rw [← hL] at HLF hl H hbig hp ⊢
      have hlt : ¬ (L : Int) - (p : Int) < (m : Int) := by omega
      obtain ⟨ys, hys⟩ : ∃ ys, ys = (bs.take (p + m)).drop p := ⟨_, rfl⟩
      have HYS : Hid (∀ i, i < m → ys[i]? = bs[p + i]?) := fun i him => by rw [hys, List.getElem?_drop, List.getElem?_take_of_lt (by omega)]
      have HYL : Hid (ys.length = m) := hide (by rw [hys]; simp; omega)
      rw [← hys]
      clear h hL e hys
      go_enter Tryd.func48, Tryd.ntmps48
      go_wp2_with (first
        | (go_at_call 33; refine HLF.out.mono ?_; rintro e w2 ⟨rfl, hb2⟩; have HB0 := hide hb2; clear hb2)
        | fail)
      go_loopw [6, 7] (fun x t wr => ∃ (i : Nat) (a : Option Addr) (cc : Nat), i ≤ m ∧ x = .slice a i cc ∧ t = .int .i64 (i : Int) ∧ wr.ownsRow w.heap.size 5 1 (.slice a i cc) i ((ys.take i).map (Value.int .u8)) ∧ Below w.heap.size w wr) (fun _ t _ => m - (RowKit.intOf t).toNat)
      case atStart => exact ⟨0, none, 0, by omega, rfl, rfl, World.ownsRow_nil _ _ _ _, HB0.out⟩
      case round =>
        obtain ⟨i, a, cc, him, rfl, rfl, hown, hbl⟩ := hrel
        have HO := hide hown
        have HB := hide hbl
        have HVO := hide (fun k hk => (World.ownsRow.lt hown k hk).1)
        have hsz := hbl.size
        have H2 := hide (H.out.below hbl)
        obtain ⟨c0, c1, f1⟩ := H2.out.cells
        have hrl : r < wr.heap.size := lt_of_heap H2.out.hh
        clear hown hbl HB0
        by_cases hlt2 : i < m
        · have hil : p + i < bs.length := by rw [← HL.out]; omega
          obtain ⟨g, o, c', he, k1, k2, k3⟩ := H2.out.row.spot (by intro e; rw [e] at hil; simp at hil)
          simp only [Value.slice.injEq] at he
          obtain ⟨rfl, hdrop, rfl⟩ := he
          clear hdrop
          have d := k3 (p + i) hil
          obtain ⟨x, hx⟩ : ∃ x, x = bs[p + i]?.getD 0 := ⟨_, rfl⟩
          rw [← hx] at d
          have HT : Hid ((ys.take (i + 1)).map (Value.int .u8) = (ys.take i).map (Value.int .u8) ++ [.int .u8 x]) := hide (by
            rw [List.take_add_one, List.map_append, hx, HYS.out i hlt2, List.getElem?_eq_getElem hil]
            rfl)
          have hglt : g < wr.heap.size := block_of_cell d
          have HKEEP : Hid (∀ X, Below wr.heap.size wr X → X.cell? ⟨r, 0, none⟩ = some (.slice (some ⟨g, o, none⟩) L c) ∧ X.cell? ⟨r, 1, none⟩ = some (.int .i64 (p : Int)) ∧ X.cell? ⟨g, o + (p + i), none⟩ = some (.int .u8 x)) := fun X hX =>
            ⟨(below_cell hX hrl).trans c0, (below_cell hX hrl).trans c1, (below_cell hX hglt).trans d⟩
          rw [← HL.out] at k1
          have hwr : IntKind.i64.wrap ((p : Int) + (i : Int)) = (p : Int) + (i : Int) := IntWalk.i64_in _ (by omega)
          have hcb : ((p : Int) + (i : Int)) < (L : Int) := by omega
          have hpi0 : (0 : Int) ≤ (p : Int) + (i : Int) := by omega
          have hnat : ((p : Int) + (i : Int)).toNat = p + i := by omega
          have him' : (i : Int) < (m : Int) := by omega
          have HX := hide hx
          have HIL := hide hil
          clear hx k3 k2
          go_wp2_with fail
          go_region_held3 (fun X => X.cell? ⟨r, 0, none⟩ = some (.slice (some ⟨g, o, none⟩) L c) ∧ X.cell? ⟨r, 1, none⟩ = some (.int .i64 (p : Int)) ∧ X.cell? ⟨g, o + (p + i), none⟩ = some (.int .u8 x))
            (first | go_keep | exact QK.out | exact HKEEP.out _ (below_alloc' ((Below.refl _ wr).drew) _) | exact HKEEP.out _ ((below_alloc' (Below.refl _ wr) _).drew))
            ((refine step_append_lies _ (by rfl) _ _ _ (by rfl) w.heap.size 5 i0 (.int .u8 0) 1 1 Tryd.underlying22 hi hz0 hz1 hz2 rfl (by omega) (.slice a i cc) i ((ys.take i).map (Value.int .u8)) (by rfl) (by first | exact (HO.out.alloc _).drew | exact HO.out.drew.alloc _) ⟨wr.heap.size, 0, none⟩ 1 1 [.int .u8 x] (by rfl) (by rfl) (by first | exact one_at' wr _ _ | exact one_at wr.drew _ _) (by simp [Value.oneCell']) (by omega) (by unfold maxLen; omega) (by omega) (by simp; omega) (wr.heap.size + 1) (by simp) ?_; intro g5 cap5 w5 hown5 hgrow5 hat5 hlt5; have HB5 : Hid (Below w.heap.size w w5) := hide (Below.grown (by first | exact (HB.out.alloc hsz _).drew | exact HB.out.drew.alloc (by simpa using hsz) _) hgrow5 (by simp; omega) HVO.out); have HO5 := hide hown5; have QK : Hid (w5.cell? ⟨r, 0, none⟩ = some (.slice (some ⟨g, o, none⟩) L c) ∧ w5.cell? ⟨r, 1, none⟩ = some (.int .i64 (p : Int)) ∧ w5.cell? ⟨g, o + (p + i), none⟩ = some (.int .u8 x)) := hide (by
              have h5 := H.out.below HB5.out
              have h6 := row_cell h5.row (p + i) HIL.out
              rw [← HX.out] at h6
              exact ⟨h5.cells.1, h5.cells.2.1, h6⟩); clear hown5 hgrow5 hat5 hlt5))
          all_goals
            go_wp2
            go_roundw
            case rel => exact ⟨i + 1, _, _, hlt2, rfl, by simp, by rw [HT.out]; exact HO5.out, HB5.out⟩
            case measure => simp [RowKit.intOf]; omega
        · obtain rfl : i = m := by omega
          have HT : Hid (ys.take i = ys) := hide (List.take_of_length_le (by rw [HYL.out]; exact Nat.le_refl _))
          rw [HT.out] at HO
          go_wp2
          go_ret2
          obtain ⟨q1, q2⟩ := RRd.on (q := p + i) H.out HB.out ((p : Int) + (i : Int)) (by push_cast; rfl)
          refine ⟨_, rfl, ?_, q1, q2⟩
          have h7 := own_other (r := r) (k := 1) (u := .int .i64 ((p : Int) + (i : Int))) HO.out (Nat.zero_le _) (fun g' e => by
            have h8 := HVO.out g' (by rw [e]; rfl)
            have h9 := lt_of_heap H.out.hh
            omega)
          refine RowAt.of_owns (base := w.heap.size) (e := 5) ?_
          rw [HYL.out]
          exact h7
theorem sub_row' {w : World} {g o n c f p : Nat} {bs : List Int} (h : RowAt .u8 w (.slice (some ⟨g, o, none⟩) n c) bs) (hf : f ≤ p) (hp : p ≤ bs.length) : RowAt .u8 w (.slice (some ⟨g, o + f, none⟩) (p - f) (c - f)) ((bs.take p).drop f) := by
  have hcell := fun j hj => row_cell h j hj
  obtain ⟨ao', c', he, h1, h2, h3, h4⟩ := h
  simp only [Value.slice.injEq] at he
  obtain ⟨rfl, _, rfl⟩ := he
  have hlen : ((bs.take p).drop f).length = p - f := by rw [List.length_drop, List.length_take]; omega
  refine ⟨_, _, by rw [hlen], by rw [hlen]; omega, by omega, (fun e => by cases e), fun a ha i hi => ?_⟩
  cases ha
  rw [hlen] at hi
  rw [Addr.add_lit, show o + f + i = o + (f + i) by omega, hcell (f + i) (by omega)]
  simp [List.getD, List.getElem?_drop, List.getElem?_take_of_lt (show f + i < p by omega)]
set_option maxRecDepth 100000 in
set_option maxHeartbeats 4000000 in
theorem rr_sealed (w : World) (r p : Nat) (f : Int) (v : Value) (bs : List Int) (h : RRd w r v bs p) (hp : p ≤ bs.length) (hby : Byt bs) (hbig : bs.length ≤ 140737488351232) :
    Calls Tryd.prog 49 #[.pointer (some ⟨r, 0, none⟩), .int .i64 f] w fun e w' => e = .returned (.int .i64 (sealA bs p f).1) ∧ RRd w' r v bs (sealA bs p f).2 ∧ But r w w' := by
  have H := hide h
  obtain ⟨c0, c1, f1⟩ := h.cells
  by_cases hf : 0 ≤ f ∧ f ≤ (p : Int)
  · obtain ⟨k, rfl⟩ : ∃ k : Nat, f = (k : Int) := ⟨f.toNat, by omega⟩
    have HLF := hide (rleft_any w r p v bs h hp (by omega))
    have g1 : ¬ (k : Int) < 0 := by omega
    have g2 : ¬ (p : Int) < (k : Int) := by omega
    by_cases hl : bs.length < p + 4
    · have e : sealA bs p (k : Int) = (1, p) := by unfold sealA; rw [if_neg (fun h => h hf), if_pos hl]
      rw [e]
      obtain ⟨L, hL⟩ : ∃ L, L = bs.length := ⟨_, rfl⟩
      rw [← hL] at HLF hl
      have hlt : (L : Int) - (p : Int) < 4 := by omega
      clear h hL e hl hp hbig hby hf
      go_enter Tryd.func49, Tryd.ntmps49
      go_wp2_with (first
        | (go_at_call 33; refine HLF.out.mono ?_; rintro e w2 ⟨rfl, hb2⟩; have HB := hide hb2; clear hb2)
        | fail)
      go_ret
      exact ⟨rfl, H.out.below HB.out, But.of_below HB.out⟩
    · have hbsne : bs ≠ [] := fun e => by rw [e] at hl; simp at hl
      obtain ⟨g, o, c, rfl, hLc, _, _⟩ := h.row.spot hbsne
      have hbb : ∀ x ∈ bs, 0 ≤ x ∧ x < 256 := hby
      have HW : Hid (∀ W, RowAt .u8 W (.slice (some ⟨g, o, none⟩) bs.length c) bs → Calls Tryd.prog 57 #[.slice (some ⟨g, o, none⟩) bs.length c, .int .i64 (p : Int), .int .i64 4] W fun e w' => e = .returned (.int .u64 ((vals8 (nats ((bs.drop p).take 4)) : Nat) : Int)) ∧ w' = W) := fun W hW =>
        word57_any W _ bs p 4 (nats ((bs.drop p).take 4)) hW (nats_cast (hby.sub p 4)) (by simp [nats]; omega) (nats_lt (hby.sub p 4)) (by omega) (by omega) (by omega) (by omega)
      have HC : Hid (∀ W, RowAt .u8 W (.slice (some ⟨g, o, none⟩) bs.length c) bs → Calls Tryd.prog 37 #[.slice (some ⟨g, o + k, none⟩) (p - k) (c - k)] W fun e w' => e = .returned (.int .u32 ((crc ((bs.take p).drop k) : Nat) : Int)) ∧ w' = W) := fun W hW => by
        refine refCrc_any _ _ W (by
          have h3 := sub_row' (f := k) (p := p) hW (by omega) (by omega)
          exact h3) (fun x hx => hbb x (List.mem_of_mem_take (List.mem_of_mem_drop hx))) (by rw [List.length_drop, List.length_take]; omega)
      have hcl : crc ((bs.take p).drop k) < 4294967296 := crc_lt _ (fun x hx => hbb x (List.mem_of_mem_take (List.mem_of_mem_drop hx)))
      have hvl : vals8 (nats ((bs.drop p).take 4)) < 18446744073709551616 := by
        have h3 := vals8_lt (nats ((bs.drop p).take 4)) (nats_lt (hby.sub p 4))
        have h4 : 2 ^ (8 * (nats ((bs.drop p).take 4)).length) ≤ 2 ^ 64 := Nat.pow_le_pow_right (by decide) (by simp [nats]; omega)
        have h5 : (2 : Nat) ^ 64 = 18446744073709551616 := by decide
        omega
      have HE : Hid (sealA bs p (k : Int) = if vals8 (nats ((bs.drop p).take 4)) = crc ((bs.take p).drop k) then (0, p + 4) else (43, p)) := hide (by unfold sealA; rw [if_neg (fun h => h hf), if_neg hl]; simp)
      obtain ⟨V, hV⟩ : ∃ V, V = vals8 (nats ((bs.drop p).take 4)) := ⟨_, rfl⟩
      obtain ⟨C, hC⟩ : ∃ C, C = crc ((bs.take p).drop k) := ⟨_, rfl⟩
      rw [← hV] at HW HE hvl
      rw [← hC] at HC HE hcl
      obtain ⟨L, hL⟩ : ∃ L, L = bs.length := ⟨_, rfl⟩
      rw [← hL] at HLF hl HW HC H hbig hp hLc c0 ⊢
      have hlt : ¬ (L : Int) - (p : Int) < 4 := by omega
      have hkp : (k : Int) ≤ (p : Int) := by omega
      have hpL : (p : Int) ≤ (L : Int) := by omega
      have hpc : (p : Int) ≤ (c : Int) := by omega
      have hkc : ¬ k = c := by omega
      clear h hL hV hC hf hbb hbsne hby
      by_cases hVC : V = C
      · rw [HE.out, if_pos hVC]
        have hne : ((V : Int) != (C : Int)) = false := by simp [hVC]
        go_enter Tryd.func49, Tryd.ntmps49
        go_wp2_with (first
          | (go_at_call 33; refine HLF.out.mono ?_; rintro e w2 ⟨rfl, hb2⟩; have HB := hide hb2; have H2 := hide (H.out.below hb2); clear c0 c1 f1; obtain ⟨c0, c1, f1⟩ := H2.out.cells; clear hb2)
          | fail)
        go_quiet ((go_at_call 37; refine Calls.quiet_of_same (HC.out _ (by first | exact H2.out.row | exact H2.out.row.below (below_drewN (Below.refl _ _) _)))))
        have H3 := hide (H2.out.below (below_drewN (Below.refl _ _) nq))
        have HB3 := hide (below_drewN HB.out nq)
        generalize w2.drewN nq = w3 at H3 HB3 ⊢
        clear c0 c1 f1 H2 HB
        obtain ⟨c0, c1, f1⟩ := H3.out.cells
        go_wp2_with fail
        go_quiet ((go_at_call 57; refine Calls.quiet_of_same (HW.out _ (by first | exact H3.out.row | exact H3.out.row.below (below_drewN (Below.refl _ _) _)))))
        go_wp2
        go_ret
        exact ⟨rfl, RRd.on H.out (below_drewN HB3.out _) _ (by push_cast; omega)⟩
      · rw [HE.out, if_neg hVC]
        have hne : ((V : Int) != (C : Int)) = true := by simp; omega
        have hne2 : ¬ (V : Int) = (C : Int) := by omega
        go_enter Tryd.func49, Tryd.ntmps49
        go_wp2_with (first
          | (go_at_call 33; refine HLF.out.mono ?_; rintro e w2 ⟨rfl, hb2⟩; have HB := hide hb2; have H2 := hide (H.out.below hb2); clear c0 c1 f1; obtain ⟨c0, c1, f1⟩ := H2.out.cells; clear hb2)
          | fail)
        go_quiet ((go_at_call 37; refine Calls.quiet_of_same (HC.out _ (by first | exact H2.out.row | exact H2.out.row.below (below_drewN (Below.refl _ _) _)))))
        have H3 := hide (H2.out.below (below_drewN (Below.refl _ _) nq))
        have HB3 := hide (below_drewN HB.out nq)
        generalize w2.drewN nq = w3 at H3 HB3 ⊢
        clear c0 c1 f1 H2 HB
        obtain ⟨c0, c1, f1⟩ := H3.out.cells
        go_wp2_with fail
        go_quiet ((go_at_call 57; refine Calls.quiet_of_same (HW.out _ (by first | exact H3.out.row | exact H3.out.row.below (below_drewN (Below.refl _ _) _)))))
        go_wp2
        go_ret
        exact ⟨rfl, H.out.below (below_drewN HB3.out _), But.of_below (below_drewN HB3.out _)⟩
  · have e : sealA bs p f = (6, p) := by unfold sealA; rw [if_pos hf]
    rw [e]
    have hh2 : f < 0 ∨ (p : Int) < f := by omega
    clear h e hp hby hbig hf
    go_enter Tryd.func49, Tryd.ntmps49
    go_wp2
    all_goals first
      | (exfalso; omega)
      | (go_ret; exact ⟨rfl, H.out, But.refl _ _⟩)
theorem rr_seek (w : World) (r p : Nat) (q : Int) (v : Value) (bs : List Int) (h : RRd w r v bs p) (hbig : bs.length ≤ 175921860444160) :
    Calls Tryd.prog 50 #[.pointer (some ⟨r, 0, none⟩), .int .i64 q] w fun e w' => e = .returned (.int .i64 (seekA bs p q).1) ∧ RRd w' r v bs (seekA bs p q).2 ∧ But r w w' := by
  by_cases hq : 0 ≤ q ∧ q ≤ (bs.length : Int)
  · obtain ⟨k, rfl⟩ : ∃ k : Nat, q = (k : Int) := ⟨q.toNat, by omega⟩
    have e : seekA bs p (k : Int) = (0, k) := by unfold seekA; rw [if_pos hq]; simp
    rw [e]
    exact rseek_ok w r p k v bs h (by omega) hbig
  · have e : seekA bs p q = (6, p) := by unfold seekA; rw [if_neg hq]
    rw [e]
    refine (rseek_bad w r p q v bs h hq).mono ?_
    rintro e w' ⟨rfl, rfl⟩
    exact ⟨rfl, h, But.refl _ _⟩
end Go.Proofs.YtpfpelhhebafeaaDoor
