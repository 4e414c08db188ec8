/- OctetBack: back. -/
import Derived.Test.YtpfpelhhebafeaaDoorRZero
namespace Go.Proofs.YtpfpelhhebafeaaDoor
open Go.RowKit Go.Lib
set_option linter.unusedVariables false

/-- A call of a script. -/
structure OpR where
  kind : Int
  sec : Bool
  v : Nat
  n : Int
  bv : Value
  b : List Int
def OpR.cells (o : OpR) : List Value := [.int .i64 o.kind, .bool o.sec, .int .u64 (o.v : Int), .int .i64 o.n, o.bv]
/-- What a call that is not refused writes behind the bytes pre. -/
def Seg (o : OpR) (pre seg : List Int) : Prop :=
  (o.kind = 1 ∧ (1 ≤ o.n ∧ o.n ≤ 8) ∧ o.v / 2 ^ (8 * o.n.toNat) = 0 ∧ seg = le o.v o.n.toNat) ∨ (o.kind = 2 ∧ seg = enc o.v) ∨ (o.kind = 3 ∧ seg = o.b) ∨
    (o.kind = 4 ∧ (0 ≤ o.n ∧ o.n ≤ (pre.length : Int)) ∧ seg = le (crc (pre.drop o.n.toNat)) 4)
theorem le_nats (x s : Nat) (h : x / 2 ^ (8 * s) = 0) : ∃ l : List Nat, le x s = l.map (fun (n : Nat) => (n : Int)) ∧ l.length = s ∧ (∀ b ∈ l, b < 256) ∧ vals8 l = x := by
  have hm : ((le x s).map Int.toNat).map (fun (n : Nat) => (n : Int)) = le x s := by
    rw [List.map_map]
    conv => rhs; rw [← List.map_id (le x s)]
    apply List.map_congr_left
    intro y hy
    have := le_bytes x s y hy
    simp
    omega
  refine ⟨(le x s).map Int.toNat, hm.symm, by simp [le_length], fun b hb => ?_, ?_⟩
  · obtain ⟨y, hy, rfl⟩ := List.mem_map.1 hb
    have := le_bytes x s y hy
    omega
  · rw [← num_vals, hm, num_le]
    exact Nat.mod_eq_of_lt (by
      rcases Nat.lt_or_ge x (2 ^ (8 * s)) with h1 | h1
      · exact h1
      · have := Nat.div_pos h1 (Nat.two_pow_pos _); omega)
theorem boxed5 (w : World) (x0 x1 x2 x3 x4 : Value) : (w.alloc (.cells #[x0, x1, x2, x3, x4] 42)).cell? ⟨w.heap.size, 0, none⟩ = some x0 ∧ (w.alloc (.cells #[x0, x1, x2, x3, x4] 42)).cell? ⟨w.heap.size, 2, none⟩ = some x2 ∧ (w.alloc (.cells #[x0, x1, x2, x3, x4] 42)).cell? ⟨w.heap.size, 3, none⟩ = some x3 ∧
    (w.alloc (.cells #[x0, x1, x2, x3, x4] 42)).cell? ⟨w.heap.size, 4, none⟩ = some x4 ∧ Below w.heap.size w (w.alloc (.cells #[x0, x1, x2, x3, x4] 42)) ∧ (w.alloc (.cells #[x0, x1, x2, x3, x4] 42)).heap.size = w.heap.size + 1 := by
  have hh : (w.alloc (.cells #[x0, x1, x2, x3, x4] 42)).heap[w.heap.size]? = some (.cells #[x0, x1, x2, x3, x4] 42 (0, 0)) := heap_new _ _
  exact ⟨cell_of hh rfl, cell_of hh rfl, cell_of hh rfl, cell_of hh rfl, (Below.refl _ _).alloc (Nat.le_refl _) _, by simp⟩
theorem but_cell {w w' : World} {r B o : Nat} {v : Value} (hb : But r w w') (hB : B ≠ r) (h : w.cell? ⟨B, o, none⟩ = some v) : w'.cell? ⟨B, o, none⟩ = some v := by
  have hlt := block_of_cell h
  simp only [World.cell?] at h ⊢
  rw [hb.block B hlt hB]
  exact h

def BackPost (w : World) (r : Nat) (bs : List Int) (p : Nat) (e : Ending) (w' : World) : Prop := e = .returned (.bool true) ∧ RdIs w' r bs p ∧ But r w w'

set_option maxRecDepth 100000 in
set_option maxHeartbeats 800000 in
theorem back_word (w : World) (r : Nat) (o : OpR) (pre seg post : List Int) (h : RdIs w r (pre ++ seg ++ post) pre.length) (hbig : (pre ++ seg ++ post).length ≤ 100000000) (hk : o.kind = 1) (hn : 1 ≤ o.n ∧ o.n ≤ 8) (hv : o.v / 2 ^ (8 * o.n.toNat) = 0) (hs : seg = le o.v o.n.toNat) : Calls Tryd.prog 26 #[.agg #[.int .i64 o.kind, .bool o.sec, .int .u64 (o.v : Int), .int .i64 o.n, o.bv], .pointer (some ⟨r, 0, none⟩)] w (BackPost w r (pre ++ seg ++ post) (pre.length + seg.length)) := by
  obtain ⟨kd, sec, x, n, bv, b⟩ := o
  simp only at hk hn hv hs ⊢
  subst hk
  obtain ⟨s, rfl⟩ : ∃ s : Nat, n = (s : Int) := ⟨n.toNat, by omega⟩
  rw [Int.toNat_natCast] at hv hs
  obtain ⟨l, hl1, hl2, hl3, hl4⟩ := le_nats x s hv
  have hsl : seg.length = s := by rw [hs, le_length]
  have hrw : r < w.heap.size := by obtain ⟨_, _, hh, _⟩ := h; exact lt_of_heap hh
  obtain ⟨c0, c2, c3, c4, hb1, hsz⟩ := boxed5 w (.int .i64 1) (.bool sec) (.int .u64 (x : Int)) (.int .i64 (s : Int)) bv
  have htk : ((pre ++ seg ++ post).drop pre.length).take s = l.map (fun (n : Nat) => (n : Int)) := by
    rw [List.append_assoc, List.drop_left, ← hsl, List.take_left, hs]
    exact hl1
  have HR := hide (fun W (hw : RdIs W r (pre ++ seg ++ post) pre.length) => rword_any W r pre.length s (pre ++ seg ++ post) l hw htk hl2 hl3 (by omega) (by omega) (by simp; omega) (by omega))
  rw [hl4] at HR
  rw [hsl]
  have H1 := hide (h.below hb1)
  have HB1 := hide hb1
  clear h hb1 htk hl1 hl2 hl3 hl4 hs hsl
  unfold BackPost
  go_enter Tryd.func26, Tryd.ntmps26
  go_wp2_with fail
  generalize (w.alloc (.cells #[.int .i64 1, .bool sec, .int .u64 (x : Int), .int .i64 (s : Int), bv] 42)) = w1 at c0 c2 c3 c4 H1 HB1 hsz ⊢
  refine (HR.out w1 H1.out).mono ?_
  rintro e w2 ⟨rfl, hrd, hbut⟩
  have d2 := but_cell hbut (by omega) c2
  have HE := hide (And.intro hrd ((But.of_below HB1.out).trans hbut))
  clear hrd hbut c0 c2 c3 c4
  go_wp2_with (go_at_call 16; refine (no_any _ _).mono ?_; rintro e wq ⟨rfl, rfl⟩)
  go_ret
  exact ⟨by first | rfl | (simp; done), HE.out.1, HE.out.2⟩

set_option maxRecDepth 100000 in
set_option maxHeartbeats 800000 in
theorem back_var (w : World) (r : Nat) (o : OpR) (pre seg post : List Int) (h : RdIs w r (pre ++ seg ++ post) pre.length) (hbig : (pre ++ seg ++ post).length ≤ 100000000) (hk : o.kind = 2) (hv : o.v < 18446744073709551616) (hs : seg = enc o.v) :
    Calls Tryd.prog 26 #[.agg #[.int .i64 o.kind, .bool o.sec, .int .u64 (o.v : Int), .int .i64 o.n, o.bv], .pointer (some ⟨r, 0, none⟩)] w (BackPost w r (pre ++ seg ++ post) (pre.length + seg.length)) := by
  obtain ⟨kd, sec, x, n, bv, b⟩ := o
  simp only at hk hv hs ⊢
  subst hk
  have hrw : r < w.heap.size := by obtain ⟨_, _, hh, _⟩ := h; exact lt_of_heap hh
  obtain ⟨c0, c2, c3, c4, hb1, hsz⟩ := boxed5 w (.int .i64 2) (.bool sec) (.int .u64 (x : Int)) (.int .i64 n) bv
  have hd : (pre ++ seg ++ post).drop pre.length = enc x ++ post := by rw [List.append_assoc, List.drop_left, hs]
  have HR := hide (fun W (hw : RdIs W r (pre ++ seg ++ post) pre.length) => rvar_whole W r pre.length x (pre ++ seg ++ post) post hw hv (by simp) hd (by omega))
  rw [← hs] at HR
  have H1 := hide (h.below hb1)
  have HB1 := hide hb1
  clear h hb1 hs hd
  unfold BackPost
  go_enter Tryd.func26, Tryd.ntmps26
  go_wp2_with fail
  generalize (w.alloc (.cells #[.int .i64 2, .bool sec, .int .u64 (x : Int), .int .i64 n, bv] 42)) = w1 at c0 c2 c3 c4 H1 HB1 hsz ⊢
  refine (HR.out w1 H1.out).mono ?_
  rintro e w2 ⟨rfl, hrd, hbut⟩
  have d2 := but_cell hbut (by omega) c2
  have HE := hide (And.intro hrd ((But.of_below HB1.out).trans hbut))
  clear hrd hbut c0 c2 c3 c4
  go_wp2_with (go_at_call 16; refine (no_any _ _).mono ?_; rintro e wq ⟨rfl, rfl⟩)
  go_ret
  exact ⟨by first | rfl | (simp; done), HE.out.1, HE.out.2⟩

set_option maxRecDepth 100000 in
set_option maxHeartbeats 800000 in
theorem back_seal (W0 w : World) (r : Nat) (o : OpR) (pre seg post : List Int) (hW : Below W0.heap.size W0 w) (hr : W0.heap.size ≤ r) (hS : SumsAt W0) (hby : ∀ x ∈ pre ++ seg ++ post, 0 ≤ x ∧ x < 256) (h : RdIs w r (pre ++ seg ++ post) pre.length) (hbig : (pre ++ seg ++ post).length ≤ 100000000)
    (hk : o.kind = 4) (hn : 0 ≤ o.n ∧ o.n ≤ (pre.length : Int)) (hs : seg = le (crc (pre.drop o.n.toNat)) 4) :
    Calls Tryd.prog 26 #[.agg #[.int .i64 o.kind, .bool o.sec, .int .u64 (o.v : Int), .int .i64 o.n, o.bv], .pointer (some ⟨r, 0, none⟩)] w (BackPost w r (pre ++ seg ++ post) (pre.length + seg.length)) := by
  obtain ⟨kd, sec, x, n, bv, b⟩ := o
  simp only at hk hn hs ⊢
  subst hk
  obtain ⟨f, rfl⟩ : ∃ f : Nat, n = (f : Int) := ⟨n.toNat, by omega⟩
  rw [Int.toNat_natCast] at hs
  have hpb : ∀ x ∈ pre.drop f, 0 ≤ x ∧ x < 256 := fun x hx => hby x (by simp [List.mem_of_mem_drop hx])
  have hcl := crc_lt _ hpb
  obtain ⟨l, hl1, hl2, hl3, hl4⟩ := le_nats (crc (pre.drop f)) 4 (Nat.div_eq_of_lt (by simpa using hcl))
  have hsl : seg.length = 4 := by rw [hs, le_length]
  have hrw : r < w.heap.size := by obtain ⟨_, _, hh, _⟩ := h; exact lt_of_heap hh
  obtain ⟨c0, c2, c3, c4, hb1, hsz⟩ := boxed5 w (.int .i64 4) (.bool sec) (.int .u64 (x : Int)) (.int .i64 (f : Int)) bv
  have htk : ((pre ++ seg ++ post).drop pre.length).take 4 = l.map (fun (n : Nat) => (n : Int)) := by
    rw [List.append_assoc, List.drop_left, ← hsl, List.take_left, hs]
    exact hl1
  have hcr : vals8 l = crc (((pre ++ seg ++ post).take pre.length).drop f) := by
    rw [hl4, List.append_assoc, List.take_left]
  have HR := hide (fun W (hw : RdIs W r (pre ++ seg ++ post) pre.length) (hsm : SumsAt W) => sealed_right W r pre.length f (pre ++ seg ++ post) l hw htk hl2 hl3 (by simp; omega) (by omega) (by omega) hsm (by have := hS.1; omega) hby hcr)
  rw [hsl]
  have H1 := hide (h.below hb1)
  have HB1 := hide hb1
  have HS1 := hide ((hS.below hW).below hb1)
  clear h hb1 htk hl1 hl2 hl3 hl4 hs hsl hcr hpb hcl hby hS hW
  unfold BackPost
  go_enter Tryd.func26, Tryd.ntmps26
  go_wp2_with fail
  generalize (w.alloc (.cells #[.int .i64 4, .bool sec, .int .u64 (x : Int), .int .i64 (f : Int), bv] 42)) = w1 at c0 c2 c3 c4 H1 HB1 HS1 hsz ⊢
  refine (HR.out w1 H1.out HS1.out).mono ?_
  rintro e w2 ⟨rfl, hrd, hbut⟩
  have HE := hide (And.intro hrd ((But.of_below HB1.out).trans hbut))
  clear hrd hbut c0 c2 c3 c4
  go_wp2_with (go_at_call 16; refine (no_any _ _).mono ?_; rintro e wq ⟨rfl, rfl⟩)
  go_ret
  exact ⟨by first | rfl | (simp; done), HE.out.1, HE.out.2⟩

set_option maxRecDepth 100000 in
set_option maxHeartbeats 800000 in
theorem back_bytes (W0 w : World) (r : Nat) (o : OpR) (pre seg post : List Int) (hW : Below W0.heap.size W0 w) (hr : W0.heap.size ≤ r) (hb : RowAt .u8 W0 o.bv o.b) (h : RdIs w r (pre ++ seg ++ post) pre.length) (hbig : (pre ++ seg ++ post).length ≤ 100000000)
    (hk : o.kind = 3) (hs : seg = o.b) :
    Calls Tryd.prog 26 #[.agg #[.int .i64 o.kind, .bool o.sec, .int .u64 (o.v : Int), .int .i64 o.n, o.bv], .pointer (some ⟨r, 0, none⟩)] w (BackPost w r (pre ++ seg ++ post) (pre.length + seg.length)) := by
  obtain ⟨kd, sec, x, n, bv, b⟩ := o
  simp only at hk hs hb ⊢
  subst hk
  subst hs
  have hrw : r < w.heap.size := by obtain ⟨_, _, hh, _⟩ := h; exact lt_of_heap hh
  have HBV := hide hb
  obtain ⟨ba, bc, rfl⟩ : ∃ ao c, bv = .slice ao seg.length c := by obtain ⟨ao, c, h, _⟩ := hb; exact ⟨ao, c, h⟩
  obtain ⟨c0, c2, c3, c4, hb1, hsz⟩ := boxed5 w (.int .i64 3) (.bool sec) (.int .u64 (x : Int)) (.int .i64 n) (.slice ba seg.length bc)
  have HR : Hid (∀ W, RdIs W r (pre ++ seg ++ post) pre.length → Calls Tryd.prog 21 #[.pointer (some ⟨r, 0, none⟩), .int .i64 (seg.length : Int)] W fun e w' => ∃ ao c, e = .returned (.tuple #[.slice ao seg.length c, .int .i64 0]) ∧ RowAt .u8 w' (.slice ao seg.length c) seg ∧ RdIs w' r (pre ++ seg ++ post) (pre.length + seg.length) ∧ But r W w') := by
    intro W hw
    rcases Nat.eq_zero_or_pos seg.length with h0 | h0
    · rw [h0]
      obtain rfl : seg = [] := List.eq_nil_of_length_eq_zero h0
      exact rbytes_zero W r pre.length _ hw (by simp) (by omega)
    · refine (rbytes_any W r pre.length seg.length _ hw (by rw [List.length_append, List.length_append]; omega) (by rw [List.length_append, List.length_append]; omega) (by omega)).mono ?_
      rintro e w' ⟨ao, c, rfl, hown, hrd, hbut⟩
      refine ⟨ao, c, rfl, ?_, hrd, hbut⟩
      have e1 : ((pre ++ seg ++ post).take (pre.length + seg.length)).drop pre.length = seg := by
        rw [← List.length_append, List.take_left, List.drop_left]
      rw [e1] at hown
      exact RowAt.of_owns hown
  have H1 := hide (h.below hb1)
  have HB1 := hide hb1
  have HW := hide hW
  obtain ⟨L, hL⟩ : ∃ L, L = seg.length := ⟨_, rfl⟩
  rw [← hL] at HR HBV c4 H1 HB1 c0 c2 c3 hsz ⊢
  clear h hb1 hL hb hW
  unfold BackPost
  go_enter Tryd.func26, Tryd.ntmps26
  go_wp2_with fail
  generalize (w.alloc (.cells #[.int .i64 3, .bool sec, .int .u64 (x : Int), .int .i64 n, .slice ba L bc] 42)) = w1 at c0 c2 c3 c4 H1 HB1 hsz ⊢
  refine (HR.out w1 H1.out).mono ?_
  rintro e w2 ⟨ao, cc, rfl, hrow, hrd, hbut⟩
  have d4 := but_cell hbut (by omega) c4
  have hbt := (But.of_below (b := r) HB1.out).trans hbut
  have HSA := hide (same_any _ _ seg w2 hrow (HBV.out.below (But.below HW.out hbt hr HW.out.size)))
  have HE := hide (And.intro hrd hbt)
  clear hrd hbut hrow hbt c0 c2 c3 c4
  go_wp2_with fail
  refine HSA.out.mono ?_
  rintro e w3 ⟨rfl, hb3⟩
  have HE3 := hide (And.intro (HE.out.1.below hb3) (HE.out.2.trans (But.of_below hb3)))
  clear hb3
  go_wp2_with (go_at_call 16; refine (no_any _ _).mono ?_; rintro e wq ⟨rfl, rfl⟩)
  go_ret
  exact ⟨by first | rfl | (simp; done), HE3.out.1, HE3.out.2⟩

theorem back_any (W0 w : World) (r : Nat) (o : OpR) (pre seg post : List Int) (hW : Below W0.heap.size W0 w) (hr : W0.heap.size ≤ r) (hS : SumsAt W0) (hb : RowAt .u8 W0 o.bv o.b) (hv : o.v < 18446744073709551616) (hby : ∀ x ∈ pre ++ seg ++ post, 0 ≤ x ∧ x < 256) (h : RdIs w r (pre ++ seg ++ post) pre.length) (hbig : (pre ++ seg ++ post).length ≤ 100000000)
    (hs : Seg o pre seg) :
    Calls Tryd.prog 26 #[.agg #[.int .i64 o.kind, .bool o.sec, .int .u64 (o.v : Int), .int .i64 o.n, o.bv], .pointer (some ⟨r, 0, none⟩)] w (BackPost w r (pre ++ seg ++ post) (pre.length + seg.length)) := by
  rcases hs with ⟨h1, h2, h3, h4⟩ | ⟨h1, h2⟩ | ⟨h1, h2⟩ | ⟨h1, h2, h3⟩
  · exact back_word w r o pre seg post h hbig h1 h2 h3 h4
  · exact back_var w r o pre seg post h hbig h1 hv h2
  · exact back_bytes W0 w r o pre seg post hW hr hb h hbig h1 h2
  · exact back_seal W0 w r o pre seg post hW hr hS hby h hbig h1 h2 h3
end Go.Proofs.YtpfpelhhebafeaaDoor
