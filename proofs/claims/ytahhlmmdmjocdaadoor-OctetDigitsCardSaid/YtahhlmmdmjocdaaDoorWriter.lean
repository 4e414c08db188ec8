/- The writer. -/
import Derived.Test.YtahhlmmdmjocdaaDoorSmall
import Derived.Test.YtahhlmmdmjocdaaDoorPlain
namespace Go.Proofs.YtahhlmmdmjocdaaDoor
open Go.RowKit Go.Lib
set_option linter.unusedVariables false

theorem Tryd.info5 : (Tryd.prog.info? 5).map (fun i => (i.zero, i.size, i.bytes)) = some (some (.int .u8 0), 1, 1) := by kernel_rfl
theorem Tryd.info3 : (Tryd.prog.info? 3).map (fun i => (i.zero, i.size, i.bytes)) = some (some (.int .i64 0), 1, 8) := by kernel_rfl

theorem or128_all : ∀ n : Fin 256, bits .or .u8 (n.val : Int) 128 = ((n.val % 128 + 128 : Nat) : Int) := by decide +kernel
theorem or128 (y : Nat) : bits .or .u8 ((y : Int) % 256) 128 = ((y % 128 + 128 : Nat) : Int) := by
  have h := or128_all ⟨y % 256, Nat.mod_lt _ (by decide)⟩
  simp only at h
  rw [show ((y : Int) % 256) = ((y % 256 : Nat) : Int) by omega, h]
  omega
theorem and127_all : ∀ n : Fin 256, bits .and .u8 (n.val : Int) 127 = ((n.val % 128 : Nat) : Int) := by decide +kernel
theorem and127 (y : Nat) (h : y < 256) : bits .and .u8 (y : Int) 127 = ((y % 128 : Nat) : Int) := and127_all ⟨y, h⟩

/-- Only bytes' blocks and the block b have turned, none below B. -/
structure Turn (B b : Nat) (w w' : World) : Prop where
  bel : Below B w w'
  far : ∀ k cs t fr, w.heap[k]? = some (.cells cs t fr) → t ≠ 5 → k ≠ b → w'.heap[k]? = some (.cells cs t fr)
theorem Turn.refl (B b : Nat) (w : World) : Turn B b w w := ⟨Below.refl _ _, fun _ _ _ _ h _ _ => h⟩
theorem Turn.trans {B b : Nat} {x y z : World} (h : Turn B b x y) (k : Turn B b y z) : Turn B b x z :=
  ⟨h.bel.trans k.bel, fun i cs t fr hh ht hb => k.far i cs t fr (h.far i cs t fr hh ht hb) ht hb⟩

/-- A writer in memory. -/
structure WOwn (w : World) (B b : Nat) (v : Value) (bs : List Int) : Prop where
  hb : w.heap[b]? = some (.cells #[v] 51 (0, 0))
  own : w.ownsRow B 5 1 v bs.length (bs.map (Value.int .u8))
  lo : B ≤ b

theorem one_at (w : World) (x : Value) (t : TypeId) : ∀ j u, [x][j]? = some u → (w.alloc (.cells #[x] t)).cell? ((⟨w.heap.size, 0, none⟩ : Addr).add j) = some u := by
  intro j u hj
  have hh : (w.alloc (.cells #[x] t)).heap[w.heap.size]? = some (.cells #[x] t (0, 0)) := heap_new _ _
  rw [Addr.add_lit]
  match j, hj with
  | 0, hj => simp at hj; subst hj; exact cell_of hh rfl

theorem put_byte {w w2 : World} {B b : Nat} {v v' : Value} {bs : List Int} {x : Int} (h : WOwn w B b v bs) (hBs : B ≤ w.heap.size)
    (hown : w2.ownsRow B 5 1 v' (bs.length + 1) (bs.map (Value.int .u8) ++ [.int .u8 x])) (hgrow : (w.alloc (.cells #[.int .u8 x] 5)).grownBy w2 v.ownBlock) :
    ∃ g c, v' = .slice (some ⟨g, 0, none⟩) (bs.length + 1) c ∧ w2.cell? ⟨b, 0, none⟩ = some v ∧ w2.frozen? ⟨b, 0, none⟩ = false ∧
      WOwn (w2.setCell ⟨b, 0, none⟩ (.slice (some ⟨g, 0, none⟩) (bs.length + 1) c)) B b (.slice (some ⟨g, 0, none⟩) (bs.length + 1) c) (bs ++ [x]) ∧ Turn B b w (w2.setCell ⟨b, 0, none⟩ (.slice (some ⟨g, 0, none⟩) (bs.length + 1) c)) := by
  have hown0 := hown
  obtain ⟨hl, ⟨rfl, h0⟩ | ⟨g, cap, cur, rfl, hg, hh, hnc, hcm, hcur, htake⟩⟩ := hown
  · omega
  have hvo : ∀ k, v.ownBlock = some k → B ≤ k ∧ ∃ cs, w.heap[k]? = some (.cells cs 5 (0, 0)) := by
    intro k hk
    obtain ⟨_, ⟨rfl, _⟩ | ⟨g', cap', cur', rfl, hg', hh', _⟩⟩ := h.own
    · cases hk
    · cases hk; exact ⟨hg', cur', hh'⟩
  have hal : Below w.heap.size w (w.alloc (.cells #[.int .u8 x] 5)) := (Below.refl _ _).alloc (Nat.le_refl _) _
  have far2 : ∀ (k : Nat) (cs : Array Value) (t : TypeId) (fr : Nat × Nat), w.heap[k]? = some (.cells cs t fr) → t ≠ 5 → w2.heap[k]? = some (.cells cs t fr) := by
    intro k cs t fr hk ht
    have hlt := lt_of_heap hk
    rw [hgrow.block k (by simp; omega) (fun e => by
      obtain ⟨_, cs', h5⟩ := hvo k e.symm
      rw [hk] at h5
      cases h5
      exact ht rfl), hal.block k hlt]
    exact hk
  have hb2 : w2.heap[b]? = some (.cells #[v] 51 (0, 0)) := far2 b _ _ _ h.hb (by decide)
  have hgb : g ≠ b := by
    intro e
    rw [e, hb2] at hh
    cases hh
  have hbel : Below B w w2 := ((Below.refl B w).alloc hBs _).grown hgrow (by simp; omega) (fun k hk => (hvo k hk).1)
  refine ⟨g, cap, rfl, cell_of hb2 rfl, free_of hb2 0, ⟨?_, ?_, h.lo⟩, ?_, ?_⟩
  · have := heap_set (i := 0) hb2 (.slice (some ⟨g, 0, none⟩) (bs.length + 1) cap)
    rw [this]; simp
  · refine ⟨by simp, .inr ⟨g, cap, cur, by simp, hg, ?_, by simp; omega, hcm, hcur, by simpa using htake⟩⟩
    rw [Below.heap_setCell _ _ _ _ hgb]
    exact hh
  · exact hbel.setCell h.lo _
  · intro k cs t fr hk ht hkb
    rw [Below.heap_setCell _ _ _ _ hkb]
    exact far2 k cs t fr hk ht
theorem ones (bs : List Int) : ∀ u ∈ bs.map (Value.int .u8), u.oneCell' = true := by
  intro u hu; obtain ⟨x, _, rfl⟩ := List.mem_map.1 hu; rfl

set_option maxRecDepth 100000 in
theorem newWriter_any (w : World) : Calls Tryd.prog 10 #[] w fun e w' => ∃ b, e = .returned (.pointer (some ⟨b, 0, none⟩)) ∧ WOwn w' w.heap.size b (.slice none 0 0) [] ∧ Below w.heap.size w w' := by
  go_enter Tryd.func10, Tryd.ntmps10
  go_wp2
  go_ret
  exact ⟨w.heap.size, rfl, ⟨heap_new _ _, World.ownsRow_nil _ _ _ _, Nat.le_refl _⟩, (Below.refl _ _).alloc (Nat.le_refl _) _⟩

set_option maxRecDepth 100000 in
set_option maxHeartbeats 2000000 in
theorem var_any (w : World) (B b : Nat) (v : Value) (bs : List Int) (x : Nat) (h : WOwn w B b v bs) (hB : B ≤ w.heap.size) (hx : x < 18446744073709551616) (hlen : bs.length ≤ 175921860444160) :
    Calls Tryd.prog 12 #[.pointer (some ⟨b, 0, none⟩), .int .u64 x] w fun e w' => e = .returned (.tuple #[]) ∧ ∃ v', WOwn w' B b v' (bs ++ enc x) ∧ Turn B b w w' := by
  obtain ⟨i0, hi, hz0, hz1, hz2⟩ := info_parts Tryd.info5
  have H := hide h
  clear h
  go_enter Tryd.func12, Tryd.ntmps12
  go_wp2
  go_loopw [1] (fun t wr => ∃ (y : Nat) (bs' : List Int) (vv : Value), t = .int .u64 y ∧ y < 18446744073709551616 ∧ bs ++ enc x = bs' ++ enc y ∧ WOwn wr B b vv bs' ∧ Turn B b w wr) (fun t _ => (RowKit.intOf t).toNat)
  case atStart => exact ⟨x, bs, v, rfl, hx, rfl, H.out, Turn.refl _ _ _⟩
  case round =>
    obtain ⟨y, bs', vv, rfl, hy, he, hw, ht⟩ := hrel
    have HE := hide he; have HW := hide hw; have HT := hide ht
    have hB' : B ≤ wr.heap.size := Nat.le_trans hB ht.bel.size
    have c0 := cell_of hw.hb (i := 0) rfl
    have hy10 := enc_ten hy
    have hx10 := enc_ten hx
    have hl2 : bs.length + (enc x).length = bs'.length + (enc y).length := by have := congrArg List.length he; simpa using this
    have hl3 : bs'.length ≤ 175921860444170 := by omega
    clear hw ht he hl2
    by_cases hs : y < 128
    · go_wp2_with (first
        | (at_builtin; refine wpList_append_own_wide _ rfl (.tmp 24) (.tmp 27) 37 rfl B 5 i0 (.int .u8 0) 1 1 Tryd.underlying37 hi hz0 hz1 hz2 rfl (by decide) _ _ _ rfl (HW.out.own.alloc _) ⟨wr.heap.size, 0, none⟩ 1 1 [.int .u8 _] rfl rfl (one_at wr _ _) (by simp [Value.oneCell']) (by unfold maxLen; omega) (by omega) (by simp; omega) ?_; intro v2 w2 hown2 hgrow2 hq2; obtain ⟨g, c2, rfl, k1, k2, k3, k4⟩ := put_byte HW.out hB' hown2 hgrow2; have HK := hide (And.intro k3 k4); clear hown2 hgrow2 hq2 k3 k4)
        | fail)
      first | go_end0 | refine bodyPost_ret (results_none rfl _ _ _) rfl ?_
      refine ⟨rfl, .slice (some ⟨g, 0, none⟩) (bs'.length + 1) c2, ?_, HT.out.trans HK.out.2⟩
      rw [HE.out, enc_small hs]
      exact HK.out.1
    · go_wp2_with (first
        | (at_builtin; refine wpList_append_own_wide _ rfl (.tmp 10) (.tmp 14) 37 rfl B 5 i0 (.int .u8 0) 1 1 Tryd.underlying37 hi hz0 hz1 hz2 rfl (by decide) _ _ _ rfl (HW.out.own.alloc _) ⟨wr.heap.size, 0, none⟩ 1 1 [.int .u8 _] rfl rfl (one_at wr _ _) (by simp [Value.oneCell']) (by unfold maxLen; omega) (by omega) (by simp; omega) ?_; intro v2 w2 hown2 hgrow2 hq2; obtain ⟨g, c2, rfl, k1, k2, k3, k4⟩ := put_byte HW.out hB' hown2 hgrow2; have HK := hide (And.intro k3 k4); clear hown2 hgrow2 hq2 k3 k4)
        | fail)
      have hbyte := HK.out.1
      rw [or128] at hbyte
      go_roundw
      case rel =>
        refine ⟨y / 128, bs' ++ [((y % 128 + 128 : Nat) : Int)], _, by simp, by omega, ?_, hbyte, HT.out.trans HK.out.2⟩
        rw [HE.out, enc_big hs]
        simp
      case measure => simp [RowKit.intOf]; omega
end Go.Proofs.YtahhlmmdmjocdaaDoor
