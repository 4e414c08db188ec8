/- TopToken: the walk. -/
import Derived.Test.YtdjkidgkeekenaaRt
import Derived.Test.YtdjkidgkeekenaaF4
namespace Go.Proofs.Ytdjkidgkeekenaa
open Go.RowKit Go.Lib Go.MuLone
set_option linter.unusedVariables false
set_option linter.unusedSimpArgs false
theorem done_step {n K i : Nat} {σ : Cir} (h : Inv n K σ) (hi : i < n) (h0 : (σ.1 i).ph ≠ 0) :
    (nth (stp σ i).2 0 = nth σ.2 0 ∧ (((σ.1 i).acc (nth σ.2 (σ.1 i).cell)).cell = 0 → ((σ.1 i).acc (nth σ.2 (σ.1 i).cell)).kind = 1)) ∨
    (nth (stp σ i).2 0 = 1 ∧ ((σ.1 i).acc (nth σ.2 (σ.1 i).cell)).cell = 0 ∧ ((σ.1 i).acc (nth σ.2 (σ.1 i).cell)).kind ≠ 1) := by
  have hw := h.sys.wf i hi
  have hl : (σ.1 i).cell < σ.2.length := by rw [h.sys.len]; exact hw.cell
  have hc := stp_cells h0 hl
  have hp := hw.ph
  rw [hc]
  generalize (σ.1 i) = d at *
  obtain ⟨who, nn, sends, burst, ph, active, left, sent, bal, black, m, q, k⟩ := d
  simp only at hp h0
  have hph : ph = 1 ∨ ph = 2 ∨ ph = 3 ∨ ph = 4 ∨ ph = 5 ∨ ph = 6 ∨ ph = 7 ∨ ph = 8 ∨ ph = 9 ∨ ph = 10 ∨ ph = 11 := by omega
  rcases hph with rfl | rfl | rfl | rfl | rfl | rfl | rfl | rfl | rfl | rfl | rfl
  · exact .inl ⟨by rw [show (Nd.cell _) = 0 from rfl]; simp only [upd]; simp [Nd.acc], fun _ => rfl⟩
  · exact .inl ⟨upd_other _ _ (by simp [Nd.cell, Nd.tgt]; omega), fun e => by simp [Nd.acc, Nd.tgt] at e; omega⟩
  · exact .inl ⟨upd_other _ _ (by simp [Nd.cell]; omega), fun _ => rfl⟩
  · exact .inl ⟨upd_other _ _ (by simp [Nd.cell]; omega), fun e => by simp [Nd.acc] at e; omega⟩
  · exact .inl ⟨upd_other _ _ (by simp [Nd.cell]), fun _ => rfl⟩
  · exact .inl ⟨upd_other _ _ (by simp [Nd.cell]), fun _ => rfl⟩
  · exact .inl ⟨upd_other _ _ (by simp [Nd.cell]), fun _ => rfl⟩
  · exact .inl ⟨upd_other _ _ (by simp [Nd.cell]), fun e => absurd (show (2 : Int) = 0 from e) (by decide)⟩
  · exact .inl ⟨upd_other _ _ (by simp [Nd.cell]), fun e => absurd (show (3 : Int) = 0 from e) (by decide)⟩
  · exact .inl ⟨upd_other _ _ (by simp [Nd.cell]), fun e => absurd (show (1 : Int) = 0 from e) (by decide)⟩
  · exact .inr ⟨by rw [show (Nd.cell _) = 0 from rfl]; simp only [upd]; simp [Nd.acc], rfl, by simp [Nd.acc]⟩
theorem sf_step {n K i : Nat} {σ : Cir} (h : Inv n K σ) (hi : i < n) (h0 : (σ.1 i).ph ≠ 0) (hc : nth σ.2 0 = 1) : 4 ≤ ((σ.1 i).acc (nth σ.2 (σ.1 i).cell)).cell → ((σ.1 i).acc (nth σ.2 (σ.1 i).cell)).kind = 1 := by
  have hq := h.tx.dq (.inl hc) i hi
  have hw := h.sys.wf i hi
  have hp := hw.ph
  have p2 : (σ.1 i).ph ≠ 2 := fun e => by
    have := h.tx.a2 i hi e
    rw [hq.1] at this; cases this
  have p4 : (σ.1 i).ph ≠ 4 := fun e => by
    have h1 := h.tx.m4 i hi e
    have h2 : 0 < (σ.1 i).m := hw.p4 e
    have h3 := hq.2
    omega
  generalize (σ.1 i) = d at *
  obtain ⟨who, nn, sends, burst, ph, active, left, sent, bal, black, m, q, k⟩ := d
  simp only at hp p2 p4 h0
  have hph : ph = 1 ∨ ph = 3 ∨ ph = 5 ∨ ph = 6 ∨ ph = 7 ∨ ph = 8 ∨ ph = 9 ∨ ph = 10 ∨ ph = 11 := by omega
  rcases hph with rfl | rfl | rfl | rfl | rfl | rfl | rfl | rfl | rfl <;> simp [Nd.acc]
/-- What the log tells of done. -/
def DnL (log : List Acc) (c0 : Int) : Prop :=
  (c0 = 0 ∧ ∀ (k : Nat) (y : Acc), log[k]? = some y → y.cell = 0 → y.kind = 1) ∨
  (c0 = 1 ∧ ∃ q : Nat, (∀ (k : Nat) (y : Acc), k < q → log[k]? = some y → y.cell = 0 → y.kind = 1) ∧ (∃ y : Acc, log[q]? = some y ∧ y.cell = 0 ∧ y.kind ≠ 1) ∧ ∀ (k : Nat) (y : Acc), q < k → log[k]? = some y → 4 ≤ y.cell → y.kind = 1)
theorem app_get {l : List Acc} {a y : Acc} {k : Nat} (h : (l ++ [a])[k]? = some y) : (k < l.length ∧ l[k]? = some y) ∨ (k = l.length ∧ y = a) := by
  rcases Nat.lt_or_ge k l.length with e | e
  · rw [List.getElem?_append_left e] at h
    exact .inl ⟨e, h⟩
  · rw [List.getElem?_append_right e] at h
    rcases Nat.lt_or_ge (k - l.length) 1 with q | q
    · rw [show k - l.length = 0 by omega] at h
      simp at h
      exact .inr ⟨by omega, h.symm⟩
    · rw [List.getElem?_eq_none (by simpa using q)] at h; cases h
theorem Hst.dnl {n : Nat} {d0 ds : Nat → Nd} {s0 s : Ast} (h : Hst n d0 s0 ds s) (hk : s0.keep = true) (hd : DnL s0.log (nth s0.cells 0)) : s.keep = true ∧ DnL s.log (nth s.cells 0) := by
  induction h with
  | refl => exact ⟨hk, hd⟩
  | @step ds s i K _ hi hI hK ih =>
    obtain ⟨k1, ih⟩ := ih
    by_cases h0 : (ds i).ph = 0
    · rw [show pkd s ds i = s from if_pos h0]
      exact ⟨k1, ih⟩
    · have hds := done_step hI hi h0
      have hsf := sf_step hI hi h0
      refine ⟨?_, ?_⟩
      · rw [show pkd s ds i = s.made (ds i).cell ((ds i).acc (nth s.cells (ds i).cell)) from if_neg h0]
        exact k1
      rw [pkd_cells]
      rw [show pkd s ds i = s.made (ds i).cell ((ds i).acc (nth s.cells (ds i).cell)) from if_neg h0]
      show DnL (if s.keep then s.log ++ [_] else s.log) _
      rw [if_pos k1]
      simp only at hds hsf
      generalize (ds i).acc (nth s.cells (ds i).cell) = a at *
      rcases ih with ⟨e0, hl⟩ | ⟨e1, q, h1, ⟨y, h2, h3, h4⟩, h5⟩
      · rcases hds with ⟨d1, d2⟩ | ⟨d1, d2, d3⟩
        · refine .inl ⟨d1.trans e0, fun k y hy hc => ?_⟩
          rcases app_get hy with ⟨_, e⟩ | ⟨_, rfl⟩
          · exact hl k y e hc
          · exact d2 hc
        · refine .inr ⟨d1, s.log.length, fun k y hk hy hc => ?_, ⟨a, by simp, d2, d3⟩, fun k y hk hy => ?_⟩
          · rcases app_get hy with ⟨_, e⟩ | ⟨e, _⟩
            · exact hl k y e hc
            · omega
          · rcases app_get hy with ⟨e, _⟩ | ⟨e, _⟩ <;> omega
      · have hq : q < s.log.length := by
          rcases Nat.lt_or_ge q s.log.length with e | e
          · exact e
          · rw [List.getElem?_eq_none e] at h2; cases h2
        have e2 : nth (stp (ds, s.cells) i).2 0 = 1 := by
          rcases hds with ⟨d1, _⟩ | ⟨d1, _⟩
          · exact d1.trans e1
          · exact d1
        refine .inr ⟨e2, q, fun k y hk hy hc => ?_, ⟨y, by rw [List.getElem?_append_left hq]; exact h2, h3, h4⟩, fun k y hk hy hc => ?_⟩
        · rcases app_get hy with ⟨_, e⟩ | ⟨e, _⟩
          · exact h1 k y hk e hc
          · omega
        · rcases app_get hy with ⟨_, e⟩ | ⟨_, rfl⟩
          · exact h5 k y hk e hc
          · exact hsf e1 hc
theorem Hst.from {n : Nat} {d0 d1 d2 : Nat → Nd} {s0 s1 s2 : Ast} (h : Hst n d1 s1 d2 s2) (k : Hst n d0 s0 d1 s1) : Hst n d0 s0 d2 s2 := by
  induction h with
  | refl => exact k
  | step _ hi hI hK ih => exact ih.step hi hI hK
theorem prS_ck (ls : List (List Int)) (aw : List Int) (b : Int) : CkA (prS ls) (prA (prN ls.length) aw) (b % 4) 0 := by
  obtain ⟨h1, h2⟩ := prN_range ls.length
  have hl := prS_len ls
  refine .inr ⟨by omega, by omega, .inr ⟨fun i hi => ?_, .inr ⟨?_, .inr ⟨?_, .inr ⟨by omega, rfl⟩⟩⟩⟩⟩
  · rw [hl] at hi ⊢
    rw [prS_at ls hi]
    exact okN_map h1 _
  · have := tot_pr ls (prS ls).length
    omega
  · rw [hl]
    exact okN_map h1 _
theorem prS_bnd (ls : List (List Int)) (aw : List Int) (h : aw.length ≤ 17592186043904) : Bnd (prS ls) (prA (prN ls.length) aw) := by
  obtain ⟨h1, h2⟩ := prN_range ls.length
  have hl := prS_len ls
  exact ⟨by omega, fun i => by have := prS_row ls i; omega, by simpa [prA] using h⟩
set_option maxRecDepth 100000 in
set_option maxHeartbeats 8000000 in
theorem token_top (v0 v1 vp : Value) (b : Int) (ls : List (List Int)) (aw pk : List Int) (w : World) (hr : RwsI w v0 ls) (ha : RowAt .i64 w v1 aw) (hN : Bnd ls aw) (hp : RowAt .i64 w vp pk) (hpl : pk.length ≤ 1048576) (hbu : b ≤ 9223372036854775807) :
    Calls Try.prog 3 #[.agg #[v0, v1, .int .i64 b], vp] w fun e w' => e = .returned (.bool true) ∧ Below w.heap.size w w' := by
  obtain ⟨so, sc, rfl, hsc⟩ := hr.shape
  obtain ⟨bo, bc, rfl⟩ := ha.shape
  obtain ⟨po, pc, rfl⟩ := hp.shape
  have HC4 := hide (fun W (hb : Below w.heap.size w W) => circuit_any _ _ b ls aw W (hr.below hb) (ha.below hb) hN)
  have HPK := hide (fun W (hb : Below w.heap.size w W) => hp.below hb)
  have HPL := hide hpl
  have HAL := hide hN.a
  obtain ⟨X0, hX0⟩ : ∃ X0, X0 = w.alloc (.cells #[.slice so ls.length sc, .slice bo aw.length bc, .int .i64 b] 25) := ⟨_, rfl⟩
  have HB := hide (show Below w.heap.size w X0 by rw [hX0]; exact below_alloc (Below.refl _ _) _)
  have HA := hide (show X0.heap[w.heap.size]? = some (.cells #[.slice so ls.length sc, .slice bo aw.length bc, .int .i64 b] 25 (0, 0)) by rw [hX0]; exact heap_new _ _)
  have a0 := cell_of HA.out (i := 0) rfl; have a1 := cell_of HA.out (i := 1) rfl; have a2 := cell_of HA.out (i := 2) rfl
  clear hr ha hN hp hsc hpl
  rw [hX0] at a0 a1 a2
  go_enter Try.func3, Try.ntmps3
  go_wp2_with fail
  rw [← hX0]
  clear hX0 a0 a1 a2
  refine (HC4.out X0 HB.out).mono ?_
  rintro e w1 ⟨u0, u1, rfl, hb1, hru, hau⟩
  obtain ⟨sU, cU, rfl, _⟩ := hru.shape
  obtain ⟨aU, dU, rfl⟩ := hau.shape
  have hck := prS_ck ls aw b
  have hbn := prS_bnd ls aw HAL.out
  have htt := tot_pr ls (prS ls).length
  have hlr := prN_range ls.length
  rw [← prS_len] at hlr
  have hb4 : b % 4 ≤ 9223372036854775807 := by omega
  generalize b % 4 = b4 at *
  generalize prA (prN ls.length) aw = aw2 at *
  generalize prS ls = ls2 at *
  obtain ⟨W1, hW1⟩ : ∃ W1, W1 = w1.alloc (.cells #[.slice sU ls2.length cU, .slice aU aw2.length dU, .int .i64 b4] 25) := ⟨_, rfl⟩
  have hbW : Below w1.heap.size w1 W1 := by rw [hW1]; exact below_alloc (Below.refl _ _) _
  have HD := hide (show W1.heap[w1.heap.size]? = some (.cells #[.slice sU ls2.length cU, .slice aU aw2.length dU, .int .i64 b4] 25 (0, 0)) by rw [hW1]; exact heap_new _ _)
  replace HB := hide (below_on (below_on HB.out hb1) hbW)
  have HRU := hide (hru.below hbW)
  have HRD := hide (round_any _ _ b4 ls2 aw2 W1 (hru.below hbW) (hau.below hbW) hbn hck hb4)
  have HCK := hide hck
  have HB4 := hide hb4
  have HLR := hide hlr
  have HTT := hide htt
  have d0 := cell_of HD.out (i := 0) rfl; have d1 := cell_of HD.out (i := 1) rfl; have d2 := cell_of HD.out (i := 2) rfl
  rw [hW1] at d0 d1 d2
  clear hb1 hru hau hck hbn htt hlr hb4 HC4 HA HAL hbW hbu
  go_wp2_with fail
  rw [← hW1]
  clear hW1 d0 d1 d2
  refine HRD.out.mono ?_
  rintro e w2 ⟨X, bb, gc, Y, lb, sb, vN, qs, rs, sv, rfl, hlm⟩
  have hpn : ∀ w, (binOp .eql 27 (.pointer (some ⟨X, 0, none⟩)) (.pointer none)).run Try.prog w = .ok (.bool false) w := fun w => rfl
  have HL := hide hlm
  obtain ⟨gN, cN, rfl⟩ := row_ptr hlm.rn (by have := HLR.out; omega)
  clear hlm HRD
  obtain ⟨n, hn⟩ : ∃ n, n = ls2.length := ⟨_, rfl⟩
  have HNN := hide hn
  obtain ⟨m, hm⟩ : ∃ m, m = pk.length := ⟨_, rfl⟩
  have HM := hide hm
  have HPM := hide (show m ≤ 1048576 by rw [hm]; exact HPL.out)
  have HN6 := hide (show 1 ≤ n ∧ n ≤ 6 by rw [hn]; exact HLR.out)
  rw [← hn] at HL
  rw [← hm] at HPK ⊢
  clear hn hm
  go_wp2_with fail
  go_loopw [7] (fun t wr => ∃ (k : Nat) (lv : Value) (s : Ast) (gs : Nat → Bool) (ds : Nat → Nd) (mv : Nat → Int), k ≤ m ∧ t = .int .i64 (k : Int) ∧ Hid (LMm W1 wr X bb gc Y W1.heap.size n lb sb lv s (.slice (some ⟨gN, 0, none⟩) n cN) qs rs sv gs ds mv k) ∧ Hid (Hst n (fun j => Nd.new ls2 aw2 b4 j) { Ast.new (4 + n) true with cells := cl0 n } ds s)) (fun t _ => m - (RowKit.intOf t).toNat)
  case atStart => exact ⟨0, _, _, _, _, _, Nat.zero_le _, rfl, HL.out, .refl⟩
  case round =>
    obtain ⟨k, lv, s, gs, ds, mv, hkm, rfl, HQ, HH⟩ := hrel
    have hmm := HPM.out
    have h6 := HN6.out
    by_cases hlt : k < m
    · have hki : (k : Int) < (m : Int) := by omega
      have HRT := hide (right_any HQ.out (by omega))
      go_wp2_with fail
      refine HRT.out.mono ?_
      rintro e w3 ⟨rfl, h3, _⟩
      have H3 := hide h3
      obtain ⟨_, _, _, hx3⟩ := h3.x
      have x4 : w3.cell? ⟨X, 4, none⟩ = some (.pointer (some ⟨lb, 0, none⟩)) := cell_of hx3 rfl
      obtain ⟨gp, op, cp, hpe, hpc, hpv⟩ := (HPK.out w3 (below_on HB.out h3.bel)).cellAt k (by rw [← HM.out]; exact hlt)
      simp only [Value.slice.injEq] at hpe
      obtain ⟨he1, he2, he3⟩ := hpe
      clear he2
      subst he1 he3
      obtain ⟨x, hx⟩ : ∃ x, x = at_ pk k := ⟨_, rfl⟩
      rw [← hx] at hpv
      obtain ⟨i, hi, hin⟩ : ∃ i : Nat, x % (n : Int) = (i : Int) ∧ i < n := ⟨(x % (n : Int)).toNat, by have := Int.emod_nonneg x (show (n : Int) ≠ 0 by omega); omega, by have := Int.emod_nonneg x (show (n : Int) ≠ 0 by omega); have := Int.emod_lt_of_pos x (show 0 < (n : Int) by omega); omega⟩
      have HPI := hide (fun W (hb : Below w3.heap.size w3 W) => pick_any (h3.below hb) x hi hin (by omega))
      have HI := hide h3.inv
      have HPV := hide (fun W (hb : Below W1.heap.size W1 W) => (HPK.out W (below_on HB.out hb)))
      have HAT := hide hx
      clear hx hx3 hpc h3 HRT HQ hi
      go_upto_region 10 with fail
      refine wp_region_noPanic ?_
      go_region_held3 (fun x' => x'.cell? ⟨X, 4, none⟩ = some (.pointer (some ⟨lb, 0, none⟩)) ∧ x'.cell? ⟨gp, op + k, none⟩ = some (.int .i64 x)) (first | exact ⟨x4, hpv⟩ | with_reducible exact ⟨y4, yv⟩ | go_keep)
        (first
          | (go_at_call 7; refine (HPI.out _ (below_drew (Below.refl _ _))).mono ?_; rintro e w4 ⟨rfl, lv4, gs4, mv4, h4, _⟩; have H4 := hide h4; obtain ⟨_, _, _, hx4⟩ := h4.x; have y4 : w4.cell? ⟨X, 4, none⟩ = some (.pointer (some ⟨lb, 0, none⟩)) := cell_of hx4 rfl; have yv : w4.cell? ⟨gp, op + k, none⟩ = some (.int .i64 x) := (by obtain ⟨gp', op', cp', hpe', hpc', hpv'⟩ := (HPV.out w4 h4.bel).cellAt k (by rw [← HM.out]; exact hlt); simp only [Value.slice.injEq] at hpe'; obtain ⟨he1', _, _⟩ := hpe'; simp only [Option.some.injEq, Addr.mk.injEq] at he1'; obtain ⟨rfl, rfl, _⟩ := he1'; rw [HAT.out]; exact hpv'); clear h4 hx4)
          | fail)
      refine NoPanic.normal ?_
      go_wp2_with fail
      exact ⟨⟨k + 1, _, _, _, _, _, hlt, by simp, H4.out, HH.out.step hin HI.out (by omega)⟩, by simp [RowKit.intOf]; omega⟩
    · have hki : ¬ (k : Int) < (m : Int) := by omega
      obtain rfl : k = m := by omega
      have HRW := hide (fun W (hb : Below W1.heap.size W1 W) => HRU.out.below hb)
      have HDW := hide (fun W (hb : Below W1.heap.size W1 W) => (hb.block _ (lt_of_heap HD.out)).trans HD.out)
      have HT := hide (show ∀ i, i ≤ n → tot ls2 i ≤ 120 from fun i hi => by
        have h1 := tot_mono ls2 (n := n) hi
        have h2 := HTT.out
        rw [← HNN.out] at h2
        omega)
      rename World => wo
      go_wp2_with fail
      go_loopw [8, 9] (fun a t wr' => ∃ i : Nat, i ≤ n ∧ a = .int .i64 ((tot ls2 i : Nat) : Int) ∧ t = .int .i64 (i : Int) ∧ wo = wr') (fun _ t _ => n - (RowKit.intOf t).toNat)
      case atStart => exact ⟨0, Nat.zero_le _, rfl, rfl, rfl⟩
      case round =>
        obtain ⟨i, hin, rfl, rfl, rfl⟩ := hrel
        have d0 := cell_of (HDW.out _ HQ.out.bel) (i := 0) rfl
        rw [← HNN.out] at d0
        by_cases hli : i < n
        · have hlii : (i : Int) < (n : Int) := by omega
          obtain ⟨g1, o1, io, ic, e1, hg1, x1, hrow⟩ := (HRW.out _ HQ.out.bel).at i (by rw [← HNN.out]; exact hli)
          subst e1
          have ht1 := HT.out i hin
          have ht2 := HT.out (i + 1) (by omega)
          have HTS := hide (show tot ls2 (i + 1) = tot ls2 i + (rowL ls2 i).length from rfl)
          rw [HTS.out] at ht2
          generalize tot ls2 i = tt at *
          generalize (rowL ls2 i).length = rl at *
          clear hrow
          go_wp2_with fail
          exact ⟨⟨i + 1, hli, by rw [HTS.out]; simp, by simp, trivial⟩, by simp [RowKit.intOf]; omega⟩
        · have hlii : ¬ (i : Int) < (n : Int) := by omega
          obtain rfl : i = n := by omega
          have ht1 := HT.out i hin
          have hev := Int.le_trans (HH.out.ev (by omega)) (by have := ev_new ls2 aw2 b4; rw [← HNN.out] at this; exact this)
          obtain ⟨p, hp⟩ : ∃ p, p = 1000 * (tot ls2 i + 10) := ⟨_, rfl⟩
          obtain ⟨most, hmost⟩ : ∃ most, most = p * i := ⟨_, rfl⟩
          have hpb : p ≤ 130000 := by omega
          have hmb : most ≤ 130000 * 6 := by rw [hmost]; exact Nat.mul_le_mul hpb h6.2
          have hfin : Ov i (trn i (ds, s.cells) 0 most).1 := fin_ov (A := tot ls2 i) (by omega) (by omega) HQ.out.inv hev (by omega) (by omega) (by
            rw [hmost, Nat.mul_comm p i]
            exact Nat.mul_le_mul (Nat.le_refl _) (by omega))
          have HFI := hide (fun W (hb : Below wo.heap.size wo W) => finish_full (HQ.out.below hb) most (by omega) hfin)
          have hw : IntKind.i64.wrap (IntKind.i64.wrap (1000 * IntKind.i64.wrap (((tot ls2 i : Nat) : Int) + 10)) * (i : Int)) = (most : Int) := by
            rw [show IntKind.i64.wrap (((tot ls2 i : Nat) : Int) + 10) = ((tot ls2 i : Nat) : Int) + 10 from IntWalk.i64_in _ (by omega)]
            rw [show (1000 * (((tot ls2 i : Nat) : Int) + 10)) = (p : Int) by omega]
            rw [show IntKind.i64.wrap (p : Int) = (p : Int) from IntWalk.i64_in _ (by omega)]
            rw [show (p : Int) * (i : Int) = (most : Int) by rw [hmost]; simp]
            exact IntWalk.i64_in _ (by omega)
          have HWW := hide hw
          obtain ⟨_, _, _, hx3⟩ := HQ.out.x
          have x4 := cell_of hx3 (i := 4) rfl
          have HMB := hide hmb
          generalize tot ls2 i = tt at *
          clear hp hmost hmb hfin hev hx3 hw hpb
          go_upto_region 16 with fail
          refine wp_region_noPanic ?_
          go_region_held3 (fun x' => x'.cell? ⟨X, 4, none⟩ = some (.pointer (some ⟨lb, 0, none⟩)) ∧ x'.cell? ⟨w1.heap.size, 0, none⟩ = some (.slice sU i cU)) (first | exact ⟨x4, d0⟩ | with_reducible exact ⟨y4, yd⟩ | go_keep)
            (first
              | (go_at_call 8; rw [HWW.out]; refine (HFI.out _ (below_drew (Below.refl _ _))).mono ?_; rintro e w4 ⟨⟨vr, rfl⟩, lv4, s4, gs4, ds4, mv4, h4, k4, o4, _⟩; have H4 := hide h4; have HK4 := hide k4; have HO4 := hide o4; obtain ⟨_, _, _, hx4⟩ := h4.x; have y4 : w4.cell? ⟨X, 4, none⟩ = some (.pointer (some ⟨lb, 0, none⟩)) := cell_of hx4 rfl; have yd : w4.cell? ⟨w1.heap.size, 0, none⟩ = some (.slice sU i cU) := (by have := cell_of (HDW.out w4 h4.bel) (i := 0) rfl; rw [← HNN.out] at this; exact this); clear h4 k4 o4 hx4)
              | fail)
          refine NoPanic.normal ?_
          have HOV := hide (lover_any H4.out)
          clear y4 yd x4 d0 hlii
          have hmb2 := HMB.out
          obtain ⟨_, _, _, hx4⟩ := H4.out.x
          have y4 : w4.cell? ⟨X, 4, none⟩ = some (.pointer (some ⟨lb, 0, none⟩)) := cell_of hx4 rfl
          clear hx4
          go_wp2_with fail
          refine HOV.out.mono ?_
          rintro e w5 ⟨ov, rfl, hov, h5, _⟩
          obtain rfl : ov = true := hov.2 HO4.out
          have HRT := hide (right_any h5 (by omega))
          clear y4 hov h5 HOV
          go_wp2_with fail
          refine HRT.out.mono ?_
          rintro e w6 ⟨rfl, h6', _⟩
          have H6 := hide h6'
          obtain ⟨_, _, _, hx6⟩ := h6'.x
          have z3 : w6.cell? ⟨X, 3, none⟩ = some (.pointer (some ⟨bb, 0, none⟩)) := cell_of hx6 rfl
          have hlk := h6'.lk
          have HLG := hide (log_any _ _ _ _ _ w6 h6'.ar (by omega))
          have hst := HH.out
          obtain ⟨_, hdn⟩ := (show Hst i (fun j => Nd.new ls2 aw2 b4 j) { Ast.new (4 + i) true with cells := cl0 i } ds4 s4 from HK4.out.from hst).dnl rfl (.inl ⟨by show nth (cl0 i) 0 = 0; rw [nth_cl0 _ _ (by omega), if_neg (by omega)], fun k y hy => by simp [Ast.new] at hy⟩)
          obtain ⟨hc1, _⟩ := h6'.inv.done (by omega) HO4.out
          obtain ⟨q, hq1, ⟨yq, hq2, hq3, hq4⟩, hq5⟩ : ∃ q : Nat, (∀ (k : Nat) (y : Acc), k < q → s4.log[k]? = some y → y.cell = 0 → y.kind = 1) ∧ (∃ y : Acc, s4.log[q]? = some y ∧ y.cell = 0 ∧ y.kind ≠ 1) ∧ ∀ (k : Nat) (y : Acc), q < k → s4.log[k]? = some y → 4 ≤ y.cell → y.kind = 1 := by
            rcases hdn with ⟨e, _⟩ | ⟨_, h⟩
            · have e' : nth s4.cells 0 = 0 := e
              rw [hc1] at e'; cases e'
            · exact h
          have hqL : q < s4.log.length := by
            rcases Nat.lt_or_ge q s4.log.length with e | e
            · exact e
            · rw [List.getElem?_eq_none e] at hq2; cases hq2
          have HQ1 := hide hq1
          have HQ2 := hide (And.intro hq2 (And.intro hq3 hq4))
          have HQ5 := hide hq5
          clear hx6 h6' HRT hst hdn hc1 hq1 hq2 hq3 hq4 hq5
          go_wp2_with fail
          refine HLG.out.mono ?_
          rintro e w7 ⟨vl, rfl, hown, hal, hcl⟩
          have HB7 := hide (H6.out.look hal hcl).bel
          have HA7 := hide (AccsAt.of_owns hown)
          obtain ⟨aL, cL, rfl, kL⟩ := HA7.out.cell
          obtain ⟨L, hL⟩ : ∃ L, L = s4.log.length := ⟨_, rfl⟩
          have hLb : L ≤ 2000000 := by omega
          rw [← hL] at kL hqL ⊢
          have KL := hide kL
          clear hown hal hcl HLG kL z3 hL hlk
          go_wp2_with fail
          go_loopw [10, 12] (fun a t wq => ∃ (j : Nat) (bo : Bool), j ≤ L ∧ a = .bool bo ∧ (bo = true ↔ q < j) ∧ t = .int .i64 (j : Int) ∧ Below w7.heap.size w7 wq) (fun _ t _ => L - (RowKit.intOf t).toNat)
          case atStart => exact ⟨0, false, Nat.zero_le _, rfl, by simp, rfl, Below.refl _ _⟩
          case round =>
            obtain ⟨j, bo, hjL, rfl, hbo, rfl, hbj⟩ := hrel
            have HBJ := hide hbj
            clear hbj
            by_cases hjlt : j < L
            · have hji : (j : Int) < (L : Int) := by omega
              obtain ⟨g, o, y, e1, hg, hy, hl1, hl2, hcl⟩ := KL.out j hjlt
              subst e1
              have HCC := fun jj x (hx : y.arr[jj]? = some x) => (below_cell HBJ.out (block_of_cell (hcl jj x hx))).trans (hcl jj x hx)
              have hy1 := HQ1.out j y
              have hy5 := HQ5.out j y
              have hyq : j = q → y.cell = 0 ∧ y.kind ≠ 1 := fun e => by
                obtain ⟨a1, a2, a3⟩ := HQ2.out
                rw [← e, hy] at a1
                cases a1
                exact ⟨a2, a3⟩
              have hA : q < j → 4 ≤ y.cell → y.kind = 1 := fun a => hy5 a hy
              have hB : j < q → y.cell = 0 → y.kind = 1 := fun a => hy1 a hy
              clear hcl hy hl1 hl2 hy1 hy5
              obtain ⟨who, kind, cell, want, put, seen, left, ok⟩ := y
              have y1 := HCC 1 (.int .i64 kind) rfl
              have y2 := HCC 2 (.int .i64 cell) rfl
              have y7 := HCC 7 (.bool ok) rfl
              clear HCC
              simp only at hA hB hyq
              have hkd : (kind != 1) = decide (kind ≠ 1) := by by_cases h : kind = 1 <;> simp [h]
              have hcd : (cell == 0) = decide (cell = 0) := by by_cases h : cell = 0 <;> simp [h]
              cases bo with
              | true =>
                have hqj : q < j := hbo.1 rfl
                have HN : Hid (true = true ↔ q < j + 1) := ⟨fun _ => by omega, fun _ => rfl⟩
                clear hbo hB hyq
                by_cases hk1 : kind = 1
                · have hk : (kind != 1) = false := by simp [hk1]
                  have hkk : ¬ kind ≠ 1 := fun e => e hk1
                  clear hA hkd hcd
                  subst hk1
                  by_cases h0 : cell = 0
                  · subst h0
                    go_wp2_with fail
                    exact ⟨⟨j + 1, true, hjlt, rfl, HN.out, by simp, HBJ.out⟩, by simp [RowKit.intOf]; omega⟩
                  · have hb0 : (cell == 0) = false := by simp [h0]
                    by_cases h4 : 4 ≤ cell
                    · have hd4 : decide (cell ≥ 4) = true := decide_eq_true h4
                      have hd4' : decide (4 ≤ cell) = true := decide_eq_true h4
                      go_wp2_with fail
                      exact ⟨⟨j + 1, true, hjlt, rfl, HN.out, by simp, HBJ.out⟩, by simp [RowKit.intOf]; omega⟩
                    · have hd4 : decide (cell ≥ 4) = false := decide_eq_false h4
                      have hd4' : decide (4 ≤ cell) = false := decide_eq_false h4
                      go_wp2_with fail
                      exact ⟨⟨j + 1, true, hjlt, rfl, HN.out, by simp, HBJ.out⟩, by simp [RowKit.intOf]; omega⟩
                · have hk : (kind != 1) = true := by simp [hk1]
                  have h4 : ¬ 4 ≤ cell := fun e => hk1 (hA hqj e)
                  have hd4 : decide (cell ≥ 4) = false := decide_eq_false h4
                  have hd4' : decide (4 ≤ cell) = false := decide_eq_false h4
                  clear hA hkd hcd
                  by_cases h0 : cell = 0
                  · subst h0
                    go_wp2_with fail
                    exact ⟨⟨j + 1, true, hjlt, rfl, HN.out, by simp, HBJ.out⟩, by simp [RowKit.intOf]; omega⟩
                  · have hb0 : (cell == 0) = false := by simp [h0]
                    go_wp2_with fail
                    exact ⟨⟨j + 1, true, hjlt, rfl, HN.out, by simp, HBJ.out⟩, by simp [RowKit.intOf]; omega⟩
              | false =>
                have hqj : ¬ q < j := fun e => by have := hbo.2 e; cases this
                clear hbo hA hkd hcd
                by_cases he : j = q
                · obtain ⟨c0, k1⟩ := hyq he
                  have HN : Hid (true = true ↔ q < j + 1) := ⟨fun _ => by omega, fun _ => rfl⟩
                  have hk : (kind != 1) = true := by simp [k1]
                  subst c0
                  clear hyq hB he hqj
                  go_wp2_with fail
                  exact ⟨⟨j + 1, true, hjlt, rfl, HN.out, by simp, HBJ.out⟩, by simp [RowKit.intOf]; omega⟩
                · have HN : Hid (false = true ↔ q < j + 1) := ⟨fun a => by (cases a), fun a => by omega⟩
                  by_cases h0 : cell = 0
                  · have k1 := hB (by omega) h0
                    subst h0 k1
                    clear hyq hB he hqj
                    go_wp2_with fail
                    exact ⟨⟨j + 1, false, hjlt, rfl, HN.out, by simp, HBJ.out⟩, by simp [RowKit.intOf]; omega⟩
                  · have hb0 : (cell == 0) = false := by simp [h0]
                    clear hyq hB he hqj
                    go_wp2_with fail
                    exact ⟨⟨j + 1, false, hjlt, rfl, HN.out, by simp, HBJ.out⟩, by simp [RowKit.intOf]; omega⟩
            · have hji : ¬ (j : Int) < (L : Int) := by omega
              obtain rfl : bo = true := hbo.2 (by omega)
              clear hbo
              go_wp2_with fail
              go_ret
              exact ⟨rfl, below_on (below_on HB.out HB7.out) HBJ.out⟩
end Go.Proofs.Ytdjkidgkeekenaa
