/- Writers of which each lies in a row of its own: which blocks a call turns. -/
import Derived.Test.YtpfpelhhebafeaaDoorRZero
import Derived.Test.YtpfpelhhebafeaaDoorDone
import Derived.Test.YtpfpelhhebafeaaDoorRdD
import Derived.Maps.AppendAt
namespace Go.Proofs.YtpfpelhhebafeaaDoor
open Go.RowKit Go.Lib Go.Maps
set_option linter.unusedVariables false
set_option linter.unusedSimpArgs false
/-- A writer in memory: its struct (of the type t) and its row. -/
structure WX (w : World) (t : TypeId) (b : Nat) (v : Value) (bs : List Int) : Prop where
  hb : w.heap[b]? = some (.cells #[v] t (0, 0))
  own : w.ownsRow 0 5 1 v bs.length (bs.map (Value.int .u8))
theorem WX.prog {w : World} {b : Nat} {v : Value} {bs : List Int} (h : WX w 69 b v bs) : WOwn w 0 b v bs := ⟨h.hb, h.own, Nat.zero_le _⟩
/-- Only the writer's struct and its row have turned; its new row is the old one, or new. -/
structure WT (b : Nat) (v v' : Value) (w w' : World) : Prop where
  os : w'.os = w.os
  tape : w'.tape = w.tape
  output : w'.output = w.output
  size : w.heap.size ≤ w'.heap.size
  blk : ∀ k, k < w.heap.size → k ≠ b → v.ownBlock ≠ some k → w'.heap[k]? = w.heap[k]?
  own : ∀ k, v'.ownBlock = some k → v.ownBlock = some k ∨ w.heap.size ≤ k
theorem WT.refl (b : Nat) (v : Value) (w : World) : WT b v v w w := ⟨rfl, rfl, rfl, Nat.le_refl _, fun _ _ _ _ => rfl, fun _ h => .inl h⟩
theorem WT.trans {b : Nat} {v v1 v2 : Value} {x y z : World} (h : WT b v v1 x y) (k : WT b v1 v2 y z) : WT b v v2 x z :=
  ⟨k.os.trans h.os, k.tape.trans h.tape, k.output.trans h.output, Nat.le_trans h.size k.size,
    fun i hi hb hv => (k.blk i (Nat.lt_of_lt_of_le hi h.size) hb (fun e => by rcases h.own i e with h1 | h1; exact hv h1; omega)).trans (h.blk i hi hb hv),
    fun i e => by
      rcases k.own i e with h1 | h1
      · exact h.own i h1
      · exact .inr (Nat.le_trans h.size h1)⟩
theorem WT.after {b : Nat} {v v' : Value} {w w1 w2 : World} (h0 : Below w.heap.size w w1) (h : WT b v v' w1 w2) (hv : ∀ k, v.ownBlock = some k → k < w.heap.size) : WT b v v' w w2 :=
  ⟨h.os.trans h0.os, h.tape.trans h0.tape, h.output.trans h0.output, Nat.le_trans h0.size h.size, fun k hk h1 h2 => (h.blk k (Nat.lt_of_lt_of_le hk h0.size) h1 h2).trans (h0.block k hk),
    fun k e => by
      rcases h.own k e with h1 | h1
      · exact .inl h1
      · exact .inr (Nat.le_trans h0.size h1)⟩
theorem WT.of_below {b : Nat} {v : Value} {w w' : World} (h : Below w.heap.size w w') : WT b v v w w' :=
  ⟨h.os, h.tape, h.output, h.size, fun k hk _ _ => h.block k hk, fun k e => .inl e⟩
theorem WX.lt {w : World} {t : TypeId} {b : Nat} {v : Value} {bs : List Int} (h : WX w t b v bs) : ∀ k, v.ownBlock = some k → k < w.heap.size := fun k e => (World.ownsRow.lt h.own k e).2
theorem WX.row5 {w : World} {t : TypeId} {b : Nat} {v : Value} {bs : List Int} (h : WX w t b v bs) : ∀ k, v.ownBlock = some k → ∃ cs, w.heap[k]? = some (.cells cs 5 (0, 0)) := by
  intro k hk
  obtain ⟨_, ⟨rfl, _⟩ | ⟨g', cap', cur', rfl, hg', hh', _⟩⟩ := h.own
  · cases hk
  · cases hk; exact ⟨cur', hh'⟩
theorem WX.ne {w : World} {t : TypeId} {b : Nat} {v : Value} {bs : List Int} (h : WX w t b v bs) (ht : t ≠ 5) : v.ownBlock ≠ some b := by
  intro e
  obtain ⟨cs, h5⟩ := h.row5 b e
  rw [h.hb] at h5
  cases h5
  exact ht rfl
theorem WX.below {w w' : World} {t : TypeId} {b : Nat} {v : Value} {bs : List Int} (h : WX w t b v bs) (hb : Below w.heap.size w w') : WX w' t b v bs := by
  obtain ⟨h1, h2, h3 | ⟨g, cap, cur, he, hg, hh, hr⟩⟩ := h
  · exact ⟨(hb.block b (lt_of_heap h1)).trans h1, ⟨h2, .inl h3⟩⟩
  · exact ⟨(hb.block b (lt_of_heap h1)).trans h1, ⟨h2, .inr ⟨g, cap, cur, he, hg, (hb.block g (lt_of_heap hh)).trans hh, hr⟩⟩⟩
theorem put_x {w w1 w2 : World} {t : TypeId} {b : Nat} {v v2 : Value} {bs xs : List Int} (h : WX w t b v bs) (ht : t ≠ 5) (h1 : Below w.heap.size w w1)
    (hown : w2.ownsRow 0 5 1 v2 (bs.length + xs.length) (bs.map (Value.int .u8) ++ xs.map (Value.int .u8))) (hgrow : w1.grownBy w2 v.ownBlock) (hloc : v2.ownBlock = v.ownBlock ∨ v2.ownBlock = some w1.heap.size) :
    w2.cell? ⟨b, 0, none⟩ = some v ∧ w2.frozen? ⟨b, 0, none⟩ = false ∧ WX (w2.setCell ⟨b, 0, none⟩ v2) t b v2 (bs ++ xs) ∧ WT b v v2 w (w2.setCell ⟨b, 0, none⟩ v2) := by
  have hbl : b < w.heap.size := lt_of_heap h.hb
  have hb2 : w2.heap[b]? = some (.cells #[v] t (0, 0)) := (hgrow.block b (Nat.lt_of_lt_of_le hbl h1.size) (fun e => h.ne ht e.symm)).trans ((h1.block b hbl).trans h.hb)
  refine ⟨cell_of hb2 rfl, free_of hb2 0, ⟨?_, ?_⟩, ?_⟩
  · have := heap_set (i := 0) hb2 v2
    rw [this]; simp
  · obtain ⟨hl, ⟨rfl, h0⟩ | ⟨g, cap, cur, rfl, hg, hh, hnc, hcm, hcur, htake⟩⟩ := hown
    · refine ⟨by simp, .inl ⟨rfl, by rw [List.length_append]; exact h0⟩⟩
    · have hgb : g ≠ b := by
        intro e
        rw [e, hb2] at hh
        simp only [Option.some.injEq, Obj.cells.injEq] at hh
        exact ht hh.2.1
      refine ⟨by simp, .inr ⟨g, cap, cur, by simp, hg, ?_, by simp; omega, hcm, hcur, by simpa using htake⟩⟩
      rw [Below.heap_setCell _ _ _ _ hgb]
      exact hh
  · refine ⟨hgrow.os.trans h1.os, hgrow.tape.trans h1.tape, hgrow.output.trans h1.output, ?_, fun k hk hkb hkv => ?_, fun k e => ?_⟩
    · have := hgrow.size
      have := h1.size
      simp [World.setCell]; omega
    · rw [Below.heap_setCell _ _ _ _ hkb]
      exact (hgrow.block k (Nat.lt_of_lt_of_le hk h1.size) (fun e => hkv e.symm)).trans (h1.block k hk)
    · rcases hloc with h2 | h2
      · rw [h2] at e; exact .inl e
      · rw [h2] at e
        cases e
        exact .inr h1.size
theorem put_byte_x {w w2 : World} {t : TypeId} {b : Nat} {v v2 : Value} {bs : List Int} {x : Int} (h : WX w t b v bs) (ht : t ≠ 5)
    (hown : w2.ownsRow 0 5 1 v2 (bs.length + 1) (bs.map (Value.int .u8) ++ [.int .u8 x])) (hgrow : (w.alloc (.cells #[.int .u8 x] 5)).grownBy w2 v.ownBlock) (hloc : v2.ownBlock = v.ownBlock ∨ v2.ownBlock = some (w.alloc (.cells #[.int .u8 x] 5)).heap.size) :
    ∃ g c, v2 = .slice (some ⟨g, 0, none⟩) (bs.length + 1) c ∧ w2.cell? ⟨b, 0, none⟩ = some v ∧ w2.frozen? ⟨b, 0, none⟩ = false ∧
      WX (w2.setCell ⟨b, 0, none⟩ (.slice (some ⟨g, 0, none⟩) (bs.length + 1) c)) t b (.slice (some ⟨g, 0, none⟩) (bs.length + 1) c) (bs ++ [x]) ∧ WT b v (.slice (some ⟨g, 0, none⟩) (bs.length + 1) c) w (w2.setCell ⟨b, 0, none⟩ (.slice (some ⟨g, 0, none⟩) (bs.length + 1) c)) := by
  have h3 := put_x (xs := [x]) h ht (below_alloc' (Below.refl _ _) _) (by simpa using hown) hgrow hloc
  obtain ⟨_, ⟨rfl, h0⟩ | ⟨g, cap, cur, rfl, _⟩⟩ := hown
  · omega
  · exact ⟨g, cap, rfl, h3⟩
set_option maxRecDepth 100000 in
set_option maxHeartbeats 2000000 in
theorem var_x (w : World) (b : Nat) (v : Value) (bs : List Int) (x : Nat) (h : WX w 69 b v bs) (hx : x < 18446744073709551616) (hlen : bs.length ≤ 100000000000000) :
    Calls Tryd.prog 25 #[.pointer (some ⟨b, 0, none⟩), .int .u64 x] w fun e w' => e = .returned (.tuple #[]) ∧ ∃ v', WX w' 69 b v' (bs ++ enc x) ∧ WT b v v' w w' := by
  obtain ⟨i0, hi, hz0, hz1, hz2⟩ := info_parts Tryd.info5
  have H := hide h
  clear h
  go_enter Tryd.func25, Tryd.ntmps25
  go_wp2
  go_loopw [1] (fun t wr => ∃ (y : Nat) (bs' : List Int) (vv : Value), t = .int .u64 y ∧ y < 18446744073709551616 ∧ bs ++ enc x = bs' ++ enc y ∧ WX wr 69 b vv bs' ∧ WT b v vv w wr) (fun t _ => (RowKit.intOf t).toNat)
  case atStart => exact ⟨x, bs, v, rfl, hx, rfl, H.out, WT.refl _ _ _⟩
  case round =>
    obtain ⟨y, bs', vv, rfl, hy, he, hw, ht⟩ := hrel
    have HE := hide he; have HW := hide hw; have HT := hide ht
    have c0 := cell_of hw.hb (i := 0) rfl
    have hy10 := enc_ten hy
    have hx10 := enc_ten hx
    have hl2 : bs.length + (enc x).length = bs'.length + (enc y).length := by have := congrArg List.length he; simpa using this
    have hl3 : bs'.length ≤ 100000000000010 := by omega
    clear hw ht he hl2
    by_cases hs : y < 128
    · go_wp2_with (first
        | (at_builtin; refine wpList_append_own_at _ rfl (.tmp 24) (.tmp 27) 22 rfl 0 5 i0 (.int .u8 0) 1 1 Tryd.underlying22 hi hz0 hz1 hz2 rfl (by decide) _ _ _ rfl (HW.out.own.alloc _) ⟨wr.heap.size, 0, none⟩ 1 1 [.int .u8 _] rfl rfl (one_at wr _ _) (by simp [Value.oneCell']) (by unfold maxLen; omega) (by omega) (Nat.zero_le _) ?_; intro v2 w2 hown2 hgrow2 hq2 hloc2; obtain ⟨g, c2, rfl, k1, k2, k3, k4⟩ := put_byte_x HW.out (by decide) hown2 hgrow2 hloc2; have HK := hide (And.intro k3 k4); clear hown2 hgrow2 hq2 hloc2 k3 k4)
        | fail)
      first | go_end0 | refine bodyPost_ret (results_none rfl _ _ _) rfl ?_
      refine ⟨rfl, .slice (some ⟨g, 0, none⟩) (bs'.length + 1) c2, ?_, HT.out.trans HK.out.2⟩
      rw [HE.out, enc_small hs]
      exact HK.out.1
    · go_wp2_with (first
        | (at_builtin; refine wpList_append_own_at _ rfl (.tmp 10) (.tmp 14) 22 rfl 0 5 i0 (.int .u8 0) 1 1 Tryd.underlying22 hi hz0 hz1 hz2 rfl (by decide) _ _ _ rfl (HW.out.own.alloc _) ⟨wr.heap.size, 0, none⟩ 1 1 [.int .u8 _] rfl rfl (one_at wr _ _) (by simp [Value.oneCell']) (by unfold maxLen; omega) (by omega) (Nat.zero_le _) ?_; intro v2 w2 hown2 hgrow2 hq2 hloc2; obtain ⟨g, c2, rfl, k1, k2, k3, k4⟩ := put_byte_x HW.out (by decide) hown2 hgrow2 hloc2; have HK := hide (And.intro k3 k4); clear hown2 hgrow2 hq2 hloc2 k3 k4)
        | fail)
      have hbyte := HK.out.1
      rw [or128] at hbyte
      go_roundw
      case rel =>
        refine ⟨y / 128, bs' ++ [((y % 128 + 128 : Nat) : Int)], _, by simp, by omega, ?_, hbyte, HT.out.trans HK.out.2⟩
        rw [HE.out, enc_big hs]
        simp
      case measure => simp [RowKit.intOf]; omega
set_option maxRecDepth 100000 in
set_option maxHeartbeats 2000000 in
theorem word_x (w : World) (b : Nat) (v : Value) (bs : List Int) (x s : Nat) (h : WX w 69 b v bs) (hx : x < 18446744073709551616) (hx0 : x / 2 ^ (8 * s) = 0) (h1 : 1 ≤ s) (h8 : s ≤ 8) (hlen : bs.length ≤ 100000000000000) :
    Calls Tryd.prog 24 #[.pointer (some ⟨b, 0, none⟩), .int .u64 x, .int .i64 s] w fun e w' => e = .returned (.int .i64 0) ∧ ∃ v', WX w' 69 b v' (bs ++ le x s) ∧ WT b v v' w w' := by
  obtain ⟨i0, hi, hz0, hz1, hz2⟩ := info_parts Tryd.info5
  have H := hide h
  have HWD := hide (width_any s w h1 h8)
  have hx0' : (x : Int) / 2 ^ (8 * s) = 0 := by
    have : ((x / 2 ^ (8 * s) : Nat) : Int) = 0 := by rw [hx0]; rfl
    simpa using this
  clear h hx0
  go_enter Tryd.func24, Tryd.ntmps24
  go_wp2_with fail
  refine HWD.out.mono ?_
  rintro e w' ⟨rfl, rfl⟩
  go_wp2
  clear hx0'
  generalize (x : Int) / 2 ^ (8 * s) = q14
  go_loopw [18, 1] (fun t u wr => ∃ (i y : Nat) (bs' : List Int) (vv : Value), i ≤ s ∧ t = .int .i64 i ∧ u = .int .u64 y ∧ y < 18446744073709551616 ∧ bs ++ le x s = bs' ++ le y (s - i) ∧ bs'.length = bs.length + i ∧ WX wr 69 b vv bs' ∧ WT b v vv w' wr) (fun t _ _ => s - (RowKit.intOf t).toNat)
  case atStart => exact ⟨0, x, bs, v, by omega, rfl, rfl, hx, rfl, rfl, H.out, WT.refl _ _ _⟩
  case round =>
    obtain ⟨i, y, bs', vv, his, rfl, rfl, hy, he, hbl, hw, ht⟩ := hrel
    have HE := hide he; have HW := hide hw; have HT := hide ht
    have c0 := cell_of hw.hb (i := 0) rfl
    have hl3 : bs'.length ≤ 100000000000010 := by omega
    have HBL := hide hbl
    clear hw ht he hbl
    by_cases hlt : i < s
    · go_wp2_with (first
        | (at_builtin; refine wpList_append_own_at _ rfl (.tmp 24) (.tmp 27) 22 rfl 0 5 i0 (.int .u8 0) 1 1 Tryd.underlying22 hi hz0 hz1 hz2 rfl (by decide) _ _ _ rfl (HW.out.own.alloc _) ⟨wr.heap.size, 0, none⟩ 1 1 [.int .u8 _] rfl rfl (one_at wr _ _) (by simp [Value.oneCell']) (by unfold maxLen; omega) (by omega) (Nat.zero_le _) ?_; intro v2 w2 hown2 hgrow2 hq2 hloc2; obtain ⟨g, c2, rfl, k1, k2, k3, k4⟩ := put_byte_x HW.out (by decide) hown2 hgrow2 hloc2; have HK := hide (And.intro k3 k4); clear hown2 hgrow2 hq2 hloc2 k3 k4)
        | fail)
      have hk := HK.out.1
      go_roundw
      case rel =>
        refine ⟨i + 1, y / 256, bs' ++ [((y % 256 : Nat) : Int)], .slice (some ⟨g, 0, none⟩) (bs'.length + 1) c2, by omega, by simp, by simp, by omega, ?_, by simp; have := HBL.out; omega, ?_, HT.out.trans HK.out.2⟩
        · rw [HE.out]
          obtain ⟨d, hd⟩ : ∃ d, s - i = d + 1 := ⟨s - i - 1, by omega⟩
          rw [hd, show s - (i + 1) = d by omega]
          simp [le]
        · simpa using hk
      case measure => simp [RowKit.intOf]; omega
    · go_wp2
      go_ret
      refine ⟨rfl, vv, ?_, HT.out⟩
      rw [HE.out, show s - i = 0 by omega]
      simpa [le] using HW.out
set_option maxRecDepth 100000 in
set_option maxHeartbeats 2000000 in
theorem wbytes_x (w : World) (b : Nat) (v : Value) (bs : List Int) (xv : Value) (xs : List Int) (h : WX w 69 b v bs) (hx : RowAt .u8 w xv xs) (hlen : bs.length + xs.length ≤ 100000000000000) :
    Calls Tryd.prog 13 #[.pointer (some ⟨b, 0, none⟩), xv] w fun e w' => e = .returned (.tuple #[]) ∧ ∃ v', WX w' 69 b v' (bs ++ xs) ∧ WT b v v' w w' := by
  obtain ⟨i0, hi, hz0, hz1, hz2⟩ := info_parts Tryd.info5
  have c0 := cell_of h.hb (i := 0) rfl
  have H := hide h
  obtain ⟨ao, c, hv⟩ := own_shape h.own
  obtain ⟨xo, xc, rfl, k1, k2, k3, k4⟩ := hx
  clear h
  rcases Nat.eq_zero_or_pos xs.length with h0 | h0
  · obtain rfl : xs = [] := List.eq_nil_of_length_eq_zero h0
    have hsrc : Src Tryd.prog i0.size 22 (.slice xo 0 xc) 0 [] w := by
      cases xo with
      | none => exact Src.ofNil w Tryd.underlying22 xc
      | some a => exact Src.ofSlice w Tryd.underlying22 a 0 xc [] (by simp) (fun j u h => by simp at h) (by simp)
    have hcl : bs.length ≤ c := by
      obtain ⟨_, ⟨he, _⟩ | ⟨g', cap', cur', he, _, _, hn, _⟩⟩ := H.out.own
      · rw [hv] at he; simp only [Value.slice.injEq] at he; omega
      · rw [hv] at he; simp only [Value.slice.injEq] at he; omega
    have hrun : ∀ ty, (Builtin.append_ #[22, 22] ty #[.slice ao bs.length c, .slice xo 0 xc]).run Tryd.prog w = .ok (.slice ao bs.length c) w := fun ty => run_append_nothing w 22 22 ty 5 i0 Tryd.underlying22 hi ao bs.length c hcl _ hsrc
    subst hv
    have hf := free_of H.out.hb 0
    have HE : Hid (WX (w.setCell ⟨b, 0, none⟩ (.slice ao bs.length c)) 69 b (.slice ao bs.length c) bs ∧ WT b (.slice ao bs.length c) (.slice ao bs.length c) w (w.setCell ⟨b, 0, none⟩ (.slice ao bs.length c))) := by
      have := put_x (xs := []) H.out (by decide) (Below.refl _ _) (w2 := w) (v2 := .slice ao bs.length c) (by simpa using H.out.own) (World.grownBy.refl _ _) (.inl rfl)
      rw [List.append_nil] at this
      exact this.2.2
    clear hsrc hcl k4 h0 k1 hlen
    rw [List.append_nil]
    simp only [List.length_nil]
    go_enter Tryd.func13, Tryd.ntmps13
    go_wp2_with (at_builtin; refine wpList_append_run_sl _ rfl _ _ 22 rfl _ _ rfl rfl (hrun _) ?_)
    first | go_end0 | refine bodyPost_ret (results_none rfl _ _ _) rfl ?_
    exact ⟨rfl, _, HE.out.1, HE.out.2⟩
  · cases xo with
    | none => have := k3 rfl; omega
    | some a =>
      have HC := hide (row_cells (k4 a rfl))
      subst hv
      clear k4
      go_enter Tryd.func13, Tryd.ntmps13
      go_wp2_with (at_builtin; refine wpList_append_own_at _ rfl _ _ 22 rfl 0 5 i0 (.int .u8 0) 1 1 Tryd.underlying22 hi hz0 hz1 hz2 rfl (by decide) _ _ _ rfl H.out.own a xs.length xc (xs.map (Value.int .u8)) rfl (by simp) HC.out (ones xs) (by unfold maxLen; omega) (by omega) (Nat.zero_le _) ?_; intro v2 w2 hown2 hgrow2 hq2 hloc2; obtain ⟨a2, c2, rfl⟩ := own_shape hown2; obtain ⟨k1', k2', k3', k4'⟩ := put_x H.out (by decide) (Below.refl _ _) hown2 hgrow2 hloc2; have HK := hide (And.intro k3' k4'); clear hown2 hgrow2 hq2 hloc2 k3' k4')
      first | go_end0 | refine bodyPost_ret (results_none rfl _ _ _) rfl ?_
      exact ⟨rfl, _, HK.out.1, HK.out.2⟩

set_option maxRecDepth 100000 in
set_option maxHeartbeats 600000 in
theorem seal_x (w : World) (b f : Nat) (v : Value) (bs : List Int) (h : WX w 69 b v bs) (hs : SumsAt w) (hby : ∀ x ∈ bs, 0 ≤ x ∧ x < 256) (hlen : bs.length ≤ 100000000000000) (hf : f ≤ bs.length) :
    Calls Tryd.prog 14 #[.pointer (some ⟨b, 0, none⟩), .int .i64 f] w fun e w' => e = .returned (.int .i64 0) ∧ ∃ v', WX w' 69 b v' (bs ++ le (crc (bs.drop f)) 4) ∧ WT b v v' w w' := by
  have hbd : ∀ x ∈ bs.drop f, 0 ≤ x ∧ x < 256 := fun x hx => hby x (List.mem_of_mem_drop hx)
  have c0 := cell_of h.hb (i := 0) rfl
  have hrow : RowAt .u8 w v bs := RowAt.of_owns h.own
  have HO := hide h.own
  have HWD := hide (word_x w b _ bs (crc (bs.drop f)) 4 h (by have := crc_lt _ hbd; omega) (by have := crc_lt _ hbd; exact Nat.div_eq_of_lt (by simpa using this)) (by omega) (by omega) (by omega))
  have hcl := crc_lt _ hbd
  obtain ⟨ao, c, rfl, k1, k2, k3, k4⟩ := hrow
  have hdl : (bs.drop f).length = bs.length - f := List.length_drop ..
  have HCR : Hid (∀ a : Option Addr, (a = ao ∧ f = 0) ∨ (∃ g, a = some ⟨g, f, none⟩ ∧ ao = some ⟨g, 0, none⟩) ∨ (f = bs.length ∧ ∃ g, a = some ⟨g, 0, none⟩) → Calls Tryd.prog 34 #[.slice a (bs.length - f) (c - f)] w fun e w' => e = .returned (.int .u32 ((crc (bs.drop f) : Nat) : Int)) ∧ w' = w) := by
    intro a ha
    refine crc_any _ (bs.drop f) w ⟨a, c - f, by rw [hdl], by rw [hdl]; omega, by omega, ?_, fun a' ha' i hi => ?_⟩ hs hbd (by rw [hdl]; omega)
    · intro hn
      rcases ha with ⟨rfl, h0⟩ | ⟨g, rfl, _⟩ | ⟨_, g, rfl⟩
      · rw [k3 hn, Nat.zero_sub]
      · cases hn
      · cases hn
    · rw [hdl] at hi
      have hgd : (bs.drop f).getD i 0 = bs.getD (f + i) 0 := by simp [List.getD, List.getElem?_drop]
      rw [hgd]
      rcases ha with ⟨rfl, rfl⟩ | ⟨g, rfl, rfl⟩ | ⟨h0, g, rfl⟩
      · rw [Nat.zero_add]; exact k4 a' ha' i (by omega)
      · cases ha'
        have := k4 _ rfl (f + i) (by omega)
        rw [Addr.add_lit, Nat.zero_add] at this
        rw [Addr.add_lit]
        exact this
      · omega
  obtain ⟨cr, hcr⟩ : ∃ cr, cr = crc (bs.drop f) := ⟨_, rfl⟩
  rw [← hcr] at HCR HWD hcl ⊢
  obtain ⟨L, hL⟩ : ∃ L, L = bs.length := ⟨_, rfl⟩
  rw [← hL] at c0 k1 HCR hlen hf
  have hfL : (f : Int) ≤ (L : Int) := by omega
  have hLc : (L : Int) ≤ (c : Int) := by omega
  clear h hcr k4 hbd hdl hL hby hs
  cases ao with
  | none =>
    obtain rfl := k3 rfl
    obtain rfl : L = 0 := by omega
    obtain rfl : f = 0 := by omega
    have HC2 := hide (HCR.out none (.inl ⟨rfl, rfl⟩))
    rw [Nat.sub_self] at HC2
    clear k3 HCR
    go_enter Tryd.func14, Tryd.ntmps14
    go_wp2_with fail
    refine HC2.out.mono ?_
    rintro e w1 ⟨rfl, rfl⟩
    go_wp2_with fail
    refine HWD.out.mono ?_
    rintro e w2 ⟨rfl, v', hw, ht⟩
    have HW := hide (And.intro hw ht)
    clear hw ht
    go_wp2
    go_ret
    exact ⟨rfl, v', HW.out.1, HW.out.2⟩
  | some a =>
    obtain ⟨g, rfl⟩ : ∃ g, a = ⟨g, 0, none⟩ := by
      obtain ⟨_, ⟨he, _⟩ | ⟨g', cap', cur', he, _⟩⟩ := HO.out
      · simp at he
      · simp only [Value.slice.injEq, Option.some.injEq] at he; exact ⟨g', he.1⟩
    clear k3
    by_cases hcf : c = f
    · have HC2 := hide (HCR.out (some ⟨g, 0, none⟩) (.inr (.inr ⟨by omega, g, rfl⟩)))
      have hcf2 : f = c := hcf.symm
      subst hcf2
      obtain rfl : L = f := by omega
      rw [Nat.sub_self] at HC2
      clear HCR hcf
      go_enter Tryd.func14, Tryd.ntmps14
      go_wp2_with fail
      refine HC2.out.mono ?_
      rintro e w1 ⟨rfl, rfl⟩
      go_wp2_with fail
      refine HWD.out.mono ?_
      rintro e w2 ⟨rfl, v', hw, ht⟩
      have HW := hide (And.intro hw ht)
      clear hw ht
      go_wp2
      go_ret
      exact ⟨rfl, v', HW.out.1, HW.out.2⟩
    · have HC2 := hide (HCR.out (some ⟨g, f, none⟩) (.inr (.inl ⟨g, rfl, rfl⟩)))
      clear HCR
      go_enter Tryd.func14, Tryd.ntmps14
      go_wp2_with fail
      refine HC2.out.mono ?_
      rintro e w1 ⟨rfl, rfl⟩
      go_wp2_with fail
      refine HWD.out.mono ?_
      rintro e w2 ⟨rfl, v', hw, ht⟩
      have HW := hide (And.intro hw ht)
      clear hw ht
      go_wp2
      go_ret
      exact ⟨rfl, v', HW.out.1, HW.out.2⟩
end Go.Proofs.YtpfpelhhebafeaaDoor
