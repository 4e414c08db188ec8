/- One call on both dice. -/
import Derived.Test.YtglgflibpgmilaaDrA
namespace Go.Proofs.Ytglgflibpgmilaa
open Go.RowKit Go.Lib
set_option linter.unusedVariables false
set_option linter.unusedSimpArgs false
def StepPost (w : World) (b1 b2 base : Nat) (all : List Int) (u : Nat) (e : Ending) (w' : World) : Prop :=
  e = .returned (.bool true) ∧ ∃ s' u', s'.Ok ∧ u' ≤ u + 1048576 ∧ DP w' b1 b2 base all s' u' ∧ Bth b1 b2 w w'
theorem but_cell {w w' : World} {b c i : Nat} {v : Value} (k : But b w w') (hne : b ≠ c) (h : w.cell? ⟨c, i, none⟩ = some v) : w'.cell? ⟨c, i, none⟩ = some v := by
  have hc : c < w.heap.size := block_of_cell h
  rw [World.cell?_of_block (w := w) (k.block c hc (fun e => hne e.symm))]
  exact h
theorem no_any (e : Int) (w : World) : Calls Try.prog 16 #[.int .i64 e] w fun r w' => r = .returned (.int .i64 e) ∧ w' = w := by
  go_enter Try.func16, Try.ntmps16
  go_wp2
  go_ret
  exact ⟨rfl, rfl⟩
theorem gw_same {w8 : World} {x : GW w8} {f : FuncId} {args : Array Value} {v : Value} (h : Calls Try.prog f args x.world fun e w' => e = .returned v ∧ w' = x.world) :
    Calls Try.prog f args x.world fun e w'' => e = .returned v ∧ ∃ y : GW w8, w'' = y.world :=
  h.mono fun _ _ ⟨he, hb⟩ => ⟨he, x, hb⟩
set_option maxRecDepth 100000 in
set_option maxHeartbeats 2000000 in
theorem step_1 (sec : Bool) (n : Nat) (hn : n < 18446744073709551616) (all : List Int) (hws : Words all) (hl : all.length ≤ 17592186044416) (w : World) (b1 b2 base : Nat) (s : St) (u : Nat) (h : DP w b1 b2 base all s u) (hs : s.Ok) (hu : u < 9223372036850581504) :
    Calls Try.prog 18 #[.agg #[.int .i64 (1), .bool sec, .int .u64 (n : Int)], .pointer (some ⟨b1, 0, none⟩), .pointer (some ⟨b2, 0, none⟩)] w (StepPost w b1 b2 base all u) := by
  have hb1 : b1 ≠ w.heap.size := Nat.ne_of_lt h.d.lt
  have hb2 : b2 ≠ w.heap.size := Nat.ne_of_lt h.r.lt
  have hnew := heap_new w (.cells #[.int .i64 (1), .bool sec, .int .u64 (n : Int)] 39)
  have c0 : (w.alloc (.cells #[.int .i64 (1), .bool sec, .int .u64 (n : Int)] 39)).cell? ⟨w.heap.size, 0, none⟩ = some (.int .i64 (1)) := cell_of hnew rfl
  have c2 : (w.alloc (.cells #[.int .i64 (1), .bool sec, .int .u64 (n : Int)] 39)).cell? ⟨w.heap.size, 2, none⟩ = some (.int .u64 (n : Int)) := cell_of hnew rfl
  have hb0 : Below w.heap.size w (w.alloc (.cells #[.int .i64 (1), .bool sec, .int .u64 (n : Int)] 39)) := (Below.refl _ _).alloc (Nat.le_refl _) _
  have HDP := hide (h.below hb0)
  have HB0 := hide (Bth.below (b1 := b1) (b2 := b2) hb0)
  have HS := hide hs; have HWS := hide hws; have HL := hide hl; have HU := hide hu
  clear hnew hb0 h hs hws hl hu
  obtain ⟨x, hx⟩ : ∃ x, x = drawn (all.drop u) s := ⟨_, rfl⟩
  go_enter Try.func18, Try.ntmps18
  go_wp2_with fail
  generalize (w.alloc (.cells #[.int .i64 (1), .bool sec, .int .u64 (n : Int)] 39)) = w0 at c0 c2 HDP HB0 ⊢
  generalize w.heap.size = bx at c0 c2 hb1 hb2 ⊢
  go_wp2_with (first
    | (go_at_call 25; refine (next_any w0 b1 (all.drop u) s u HDP.out.d HS.out (by omega) (by have := HU.out; omega)).mono ?_; rintro e w1 ⟨rfl, hd1, k1⟩; rw [← hx]; have HD1 := hide hd1; have HK1 := hide k1; have c2' := but_cell k1 hb1 c2; clear hd1 k1 c0 c2)
    | (go_at_call 26; refine (refNext_any w1 base b2 all s u (HDP.out.r.ahead HK1.out HDP.out.lt) HS.out HL.out (by have := HU.out; omega)).mono ?_; rintro e w2 ⟨rfl, hr2, k2⟩; rw [← hx]; have HR2 := hide hr2; have HK2 := hide k2; clear hr2 k2)
    | fail)
  go_ret
  refine ⟨rfl, stLeft (all.drop u) s, u + 1, stLeft_ok HS.out, by omega, ?_⟩
  have hd := HD1.out
  rw [tail_drop] at hd
  obtain ⟨p1, p2⟩ := HDP.out.both (u' := u + 1) hd HK1.out (fun _ => HR2.out) HK2.out
  exact ⟨p1, HB0.out.trans p2⟩
set_option maxRecDepth 100000 in
set_option maxHeartbeats 2000000 in
theorem step_2 (sec : Bool) (n : Nat) (hn : n < 18446744073709551616) (all : List Int) (hws : Words all) (hl : all.length ≤ 17592186044416) (w : World) (b1 b2 base : Nat) (s : St) (u : Nat) (h : DP w b1 b2 base all s u) (hs : s.Ok) (hu : u < 9223372036850581504) (hn0 : 0 < n) :
    Calls Try.prog 18 #[.agg #[.int .i64 (2), .bool sec, .int .u64 (n : Int)], .pointer (some ⟨b1, 0, none⟩), .pointer (some ⟨b2, 0, none⟩)] w (StepPost w b1 b2 base all u) := by
  have hb1 : b1 ≠ w.heap.size := Nat.ne_of_lt h.d.lt
  have hb2 : b2 ≠ w.heap.size := Nat.ne_of_lt h.r.lt
  have hnew := heap_new w (.cells #[.int .i64 (2), .bool sec, .int .u64 (n : Int)] 39)
  have c0 : (w.alloc (.cells #[.int .i64 (2), .bool sec, .int .u64 (n : Int)] 39)).cell? ⟨w.heap.size, 0, none⟩ = some (.int .i64 (2)) := cell_of hnew rfl
  have c2 : (w.alloc (.cells #[.int .i64 (2), .bool sec, .int .u64 (n : Int)] 39)).cell? ⟨w.heap.size, 2, none⟩ = some (.int .u64 (n : Int)) := cell_of hnew rfl
  have hb0 : Below w.heap.size w (w.alloc (.cells #[.int .i64 (2), .bool sec, .int .u64 (n : Int)] 39)) := (Below.refl _ _).alloc (Nat.le_refl _) _
  have HDP := hide (h.below hb0)
  have HB0 := hide (Bth.below (b1 := b1) (b2 := b2) hb0)
  have HS := hide hs; have HWS := hide hws; have HL := hide hl; have HU := hide hu
  clear hnew hb0 h hs hws hl hu
  have hn0i : ¬ (n : Int) = 0 := by omega
  obtain ⟨x, hx⟩ : ∃ x : Nat, drawn (all.drop u) s = (x : Int) := ⟨(drawn (all.drop u) s).toNat, by have := drawn_bounds (HWS.out.drop u) s; omega⟩
  have hx1 : x < 18446744073709551616 := by have := drawn_bounds (HWS.out.drop u) s; omega
  have HBP : Hid (∀ W, DiceIs W b1 (all.drop u) s u → Calls Try.prog 37 #[.pointer (some ⟨b1, 0, none⟩), .int .u64 (n : Int)] W _) := fun W hd => below_any W b1 (all.drop u) s u (n : Int) (x : Int) hx hd HS.out (by omega) (by have := HU.out; omega) (by omega) (by omega) (by omega) (by omega)
  have HBR : Hid (∀ W, RefIs W base b2 all s u → Calls Try.prog 39 #[.pointer (some ⟨b2, 0, none⟩), .int .u64 (n : Int)] W _) := fun W hr => refBelow_any W base b2 all s u (n : Int) _ x hx hx1 hr HS.out HL.out (by have := HU.out; omega) (by omega) (by omega) rfl
  simp only [Int.toNat_natCast] at HBP HBR
  obtain ⟨Q, hQ⟩ : ∃ Q : Int, Q = ((x * n / 18446744073709551616 : Nat) : Int) := ⟨_, rfl⟩
  rw [← hQ] at HBP HBR
  clear hQ hx1 hn hn0
  go_enter Try.func18, Try.ntmps18
  go_wp2_with fail
  generalize (w.alloc (.cells #[.int .i64 (2), .bool sec, .int .u64 (n : Int)] 39)) = w0 at c0 c2 HDP HB0 ⊢
  generalize w.heap.size = bx at c0 c2 hb1 hb2 ⊢
  go_wp2_with (first
    | (go_at_call 37; refine (HBP.out _ HDP.out.d).mono ?_; rintro e w1 ⟨rfl, hd1, k1⟩; have HD1 := hide hd1; have HK1 := hide k1; have c2' := but_cell k1 hb1 c2; clear hd1 k1 c0 c2)
    | (go_at_call 39; refine (HBR.out _ (HDP.out.r.ahead HK1.out HDP.out.lt)).mono ?_; rintro e w2 ⟨rfl, hr2, k2⟩; have HR2 := hide hr2; have HK2 := hide k2; clear hr2 k2)
    | (go_at_call 16; refine (no_any _ _).mono ?_; rintro e w3 ⟨rfl, rfl⟩)
    | fail)
  go_ret
  refine ⟨rfl, stLeft (all.drop u) s, u + 1, stLeft_ok HS.out, by omega, ?_⟩
  have hd := HD1.out
  rw [tail_drop] at hd
  obtain ⟨p1, p2⟩ := HDP.out.both (u' := u + 1) hd HK1.out (fun _ => HR2.out) HK2.out
  exact ⟨p1, HB0.out.trans p2⟩
set_option maxRecDepth 100000 in
set_option maxHeartbeats 2000000 in
theorem step_2z (sec : Bool) (all : List Int) (hws : Words all) (hl : all.length ≤ 17592186044416) (w : World) (b1 b2 base : Nat) (s : St) (u : Nat) (h : DP w b1 b2 base all s u) (hs : s.Ok) (hu : u < 9223372036850581504) :
    Calls Try.prog 18 #[.agg #[.int .i64 (2), .bool sec, .int .u64 0], .pointer (some ⟨b1, 0, none⟩), .pointer (some ⟨b2, 0, none⟩)] w (StepPost w b1 b2 base all u) := by
  have hb1 : b1 ≠ w.heap.size := Nat.ne_of_lt h.d.lt
  have hb2 : b2 ≠ w.heap.size := Nat.ne_of_lt h.r.lt
  have hnew := heap_new w (.cells #[.int .i64 (2), .bool sec, .int .u64 0] 39)
  have c0 : (w.alloc (.cells #[.int .i64 (2), .bool sec, .int .u64 0] 39)).cell? ⟨w.heap.size, 0, none⟩ = some (.int .i64 (2)) := cell_of hnew rfl
  have c2 : (w.alloc (.cells #[.int .i64 (2), .bool sec, .int .u64 0] 39)).cell? ⟨w.heap.size, 2, none⟩ = some (.int .u64 0) := cell_of hnew rfl
  have hb0 : Below w.heap.size w (w.alloc (.cells #[.int .i64 (2), .bool sec, .int .u64 0] 39)) := (Below.refl _ _).alloc (Nat.le_refl _) _
  have HDP := hide (h.below hb0)
  have HB0 := hide (Bth.below (b1 := b1) (b2 := b2) hb0)
  have HS := hide hs; have HWS := hide hws; have HL := hide hl; have HU := hide hu
  clear hnew hb0 h hs hws hl hu
  go_enter Try.func18, Try.ntmps18
  go_wp2_with fail
  generalize (w.alloc (.cells #[.int .i64 (2), .bool sec, .int .u64 0] 39)) = w0 at c0 c2 HDP HB0 ⊢
  generalize w.heap.size = bx at c0 c2 hb1 hb2 ⊢
  go_wp2_with (first
    | (go_at_call 37; refine (below_zero _ _).mono ?_; rintro e w1 ⟨rfl, rfl⟩)
    | (go_at_call 39; refine (refBelow_none _ _).mono ?_; rintro e w2 ⟨rfl, rfl⟩)
    | (go_at_call 16; refine (no_any _ _).mono ?_; rintro e w3 ⟨rfl, rfl⟩)
    | fail)
  go_ret
  exact ⟨rfl, s, u, HS.out, by omega, HDP.out, HB0.out⟩
set_option maxRecDepth 100000 in
set_option maxHeartbeats 2000000 in
theorem step_3z (sec : Bool) (all : List Int) (hws : Words all) (hl : all.length ≤ 17592186044416) (w : World) (b1 b2 base : Nat) (s : St) (u : Nat) (h : DP w b1 b2 base all s u) (hs : s.Ok) (hu : u < 9223372036850581504) :
    Calls Try.prog 18 #[.agg #[.int .i64 (3), .bool sec, .int .u64 0], .pointer (some ⟨b1, 0, none⟩), .pointer (some ⟨b2, 0, none⟩)] w (StepPost w b1 b2 base all u) := by
  have hb1 : b1 ≠ w.heap.size := Nat.ne_of_lt h.d.lt
  have hb2 : b2 ≠ w.heap.size := Nat.ne_of_lt h.r.lt
  have hnew := heap_new w (.cells #[.int .i64 (3), .bool sec, .int .u64 0] 39)
  have c0 : (w.alloc (.cells #[.int .i64 (3), .bool sec, .int .u64 0] 39)).cell? ⟨w.heap.size, 0, none⟩ = some (.int .i64 (3)) := cell_of hnew rfl
  have c2 : (w.alloc (.cells #[.int .i64 (3), .bool sec, .int .u64 0] 39)).cell? ⟨w.heap.size, 2, none⟩ = some (.int .u64 0) := cell_of hnew rfl
  have hb0 : Below w.heap.size w (w.alloc (.cells #[.int .i64 (3), .bool sec, .int .u64 0] 39)) := (Below.refl _ _).alloc (Nat.le_refl _) _
  have HDP := hide (h.below hb0)
  have HB0 := hide (Bth.below (b1 := b1) (b2 := b2) hb0)
  have HS := hide hs; have HWS := hide hws; have HL := hide hl; have HU := hide hu
  clear hnew hb0 h hs hws hl hu
  go_enter Try.func18, Try.ntmps18
  go_wp2_with fail
  generalize (w.alloc (.cells #[.int .i64 (3), .bool sec, .int .u64 0] 39)) = w0 at c0 c2 HDP HB0 ⊢
  generalize w.heap.size = bx at c0 c2 hb1 hb2 ⊢
  go_wp2_with (first
    | (go_at_call 27; refine (fair_none _ _).mono ?_; rintro e w1 ⟨rfl, rfl⟩)
    | (go_at_call 28; refine (refFair_none _ _).mono ?_; rintro e w2 ⟨rfl, rfl⟩)
    | (go_at_call 16; refine (no_any _ _).mono ?_; rintro e w3 ⟨rfl, rfl⟩)
    | fail)
  go_ret
  exact ⟨rfl, s, u, HS.out, by omega, HDP.out, HB0.out⟩
set_option maxRecDepth 100000 in
set_option maxHeartbeats 2000000 in
theorem step_3 (sec : Bool) (n : Nat) (hn : n < 18446744073709551616) (all : List Int) (hws : Words all) (hl : all.length ≤ 17592186044416) (w : World) (b1 b2 base : Nat) (s : St) (u : Nat) (h : DP w b1 b2 base all s u) (hs : s.Ok) (hu : u < 9223372036850581504) (hn0 : 0 < n) :
    Calls Try.prog 18 #[.agg #[.int .i64 (3), .bool sec, .int .u64 (n : Int)], .pointer (some ⟨b1, 0, none⟩), .pointer (some ⟨b2, 0, none⟩)] w (StepPost w b1 b2 base all u) := by
  have hb1 : b1 ≠ w.heap.size := Nat.ne_of_lt h.d.lt
  have hb2 : b2 ≠ w.heap.size := Nat.ne_of_lt h.r.lt
  have hnew := heap_new w (.cells #[.int .i64 (3), .bool sec, .int .u64 (n : Int)] 39)
  have c0 : (w.alloc (.cells #[.int .i64 (3), .bool sec, .int .u64 (n : Int)] 39)).cell? ⟨w.heap.size, 0, none⟩ = some (.int .i64 (3)) := cell_of hnew rfl
  have c2 : (w.alloc (.cells #[.int .i64 (3), .bool sec, .int .u64 (n : Int)] 39)).cell? ⟨w.heap.size, 2, none⟩ = some (.int .u64 (n : Int)) := cell_of hnew rfl
  have hb0 : Below w.heap.size w (w.alloc (.cells #[.int .i64 (3), .bool sec, .int .u64 (n : Int)] 39)) := (Below.refl _ _).alloc (Nat.le_refl _) _
  have HDP := hide (h.below hb0)
  have HB0 := hide (Bth.below (b1 := b1) (b2 := b2) hb0)
  have HS := hide hs; have HWS := hide hws; have HL := hide hl; have HU := hide hu
  clear hnew hb0 h hs hws hl hu
  have HFF := hide (fair_facts n (18446744073709551616 % n) all 128 u s HS.out)
  have HFP : Hid (∀ W, DiceIs W b1 (all.drop u) s u → Calls Try.prog 27 #[.pointer (some ⟨b1, 0, none⟩), .int .u64 (n : Int)] W _) := fun W hd => fair_any W b1 n (all.drop u) s u hd HS.out (HWS.out.drop u) (by omega) (by have := HU.out; omega) hn0 hn
  have HFR : Hid (∀ W, RefIs W base b2 all s u → Calls Try.prog 28 #[.pointer (some ⟨b2, 0, none⟩), .int .u64 (n : Int)] W _) := fun W hr => refFair_any W base b2 n all s u hr HS.out HWS.out HL.out (by have := HU.out; omega) hn0 hn
  generalize fair n (18446744073709551616 % n) 128 (all.drop u) s = F at HFF HFP HFR
  obtain ⟨F1, F2, F3, F4⟩ := F
  simp only at HFF HFP HFR
  clear hn hn0
  go_enter Try.func18, Try.ntmps18
  go_wp2_with fail
  generalize (w.alloc (.cells #[.int .i64 (3), .bool sec, .int .u64 (n : Int)] 39)) = w0 at c0 c2 HDP HB0 ⊢
  generalize w.heap.size = bx at c0 c2 hb1 hb2 ⊢
  go_wp2_with (first
    | (go_at_call 27; refine (HFP.out _ HDP.out.d).mono ?_; rintro e w1 ⟨rfl, hd1, k1⟩; have HD1 := hide hd1; have HK1 := hide k1; have c2' := but_cell k1 hb1 c2; clear hd1 k1 c0 c2)
    | (go_at_call 28; refine (HFR.out _ (HDP.out.r.ahead HK1.out HDP.out.lt)).mono ?_; rintro e w2 ⟨rfl, hr2, k2⟩; have HR2 := hide hr2; have HK2 := hide k2; clear hr2 k2)
    | (go_at_call 16; refine (no_any _ _).mono ?_; rintro e w3 ⟨rfl, rfl⟩)
    | fail)
  go_ret
  obtain ⟨q1, q2, q3⟩ := HFF.out
  refine ⟨rfl, F3, u + F4, q2, by omega, ?_⟩
  have hd := HD1.out
  rw [q1] at hd
  obtain ⟨p1, p2⟩ := HDP.out.both (u' := u + F4) hd HK1.out (fun _ => HR2.out) HK2.out
  exact ⟨p1, HB0.out.trans p2⟩
set_option maxRecDepth 100000 in
set_option maxHeartbeats 2000000 in
theorem step_4n (N4 : Int) (sec : Bool) (n : Nat) (hn : n < 18446744073709551616) (all : List Int) (hws : Words all) (hl : all.length ≤ 17592186044416) (w : World) (b1 b2 base : Nat) (s : St) (u : Nat) (h : DP w b1 b2 base all s u) (hs : s.Ok) (hu : u < 9223372036850581504) (HN4 : IntKind.i64.wrap (n : Int) = N4) (hc : N4 < 0) :
    Calls Try.prog 18 #[.agg #[.int .i64 (4), .bool sec, .int .u64 (n : Int)], .pointer (some ⟨b1, 0, none⟩), .pointer (some ⟨b2, 0, none⟩)] w (StepPost w b1 b2 base all u) := by
  have hb1 : b1 ≠ w.heap.size := Nat.ne_of_lt h.d.lt
  have hb2 : b2 ≠ w.heap.size := Nat.ne_of_lt h.r.lt
  have hnew := heap_new w (.cells #[.int .i64 (4), .bool sec, .int .u64 (n : Int)] 39)
  have c0 : (w.alloc (.cells #[.int .i64 (4), .bool sec, .int .u64 (n : Int)] 39)).cell? ⟨w.heap.size, 0, none⟩ = some (.int .i64 (4)) := cell_of hnew rfl
  have c2 : (w.alloc (.cells #[.int .i64 (4), .bool sec, .int .u64 (n : Int)] 39)).cell? ⟨w.heap.size, 2, none⟩ = some (.int .u64 (n : Int)) := cell_of hnew rfl
  have hb0 : Below w.heap.size w (w.alloc (.cells #[.int .i64 (4), .bool sec, .int .u64 (n : Int)] 39)) := (Below.refl _ _).alloc (Nat.le_refl _) _
  have HDP := hide (h.below hb0)
  have HB0 := hide (Bth.below (b1 := b1) (b2 := b2) hb0)
  have HS := hide hs; have HWS := hide hws; have HL := hide hl; have HU := hide hu
  clear hnew hb0 h hs hws hl hu
  have hni : IntKind.i64.wrap (n : Int) = N4 := HN4
  clear HN4
  go_enter Try.func18, Try.ntmps18
  go_wp2_with fail
  generalize (w.alloc (.cells #[.int .i64 (4), .bool sec, .int .u64 (n : Int)] 39)) = w0 at c0 c2 HDP HB0 ⊢
  generalize w.heap.size = bx at c0 c2 hb1 hb2 ⊢
  go_wp2_with (first
    | (go_at_call 29; refine (order_neg _ _ _ hc).mono ?_; rintro e w1 ⟨rfl, rfl⟩)
    | (go_at_call 30; refine (refOrder_neg _ _ _ hc).mono ?_; rintro e w2 ⟨rfl, rfl⟩)
    | (go_at_call 31; refine (same_any _ _ [] _ (RowAt.nil _ _) (RowAt.nil _ _)).mono ?_; rintro e w3 ⟨rfl, hb3⟩; have HB3 := hide hb3; clear hb3)
    | (go_at_call 16; refine (no_any _ _).mono ?_; rintro e w4 ⟨rfl, rfl⟩)
    | fail)
  go_ret
  exact ⟨rfl, s, u, HS.out, by omega, HDP.out.below HB3.out, HB0.out.trans (Bth.below HB3.out)⟩
set_option maxRecDepth 100000 in
set_option maxHeartbeats 2000000 in
theorem step_4g (N4 : Int) (sec : Bool) (n : Nat) (hn : n < 18446744073709551616) (all : List Int) (hws : Words all) (hl : all.length ≤ 17592186044416) (w : World) (b1 b2 base : Nat) (s : St) (u : Nat) (h : DP w b1 b2 base all s u) (hs : s.Ok) (hu : u < 9223372036850581504) (HN4 : IntKind.i64.wrap (n : Int) = N4) (hc : 1048576 < N4) :
    Calls Try.prog 18 #[.agg #[.int .i64 (4), .bool sec, .int .u64 (n : Int)], .pointer (some ⟨b1, 0, none⟩), .pointer (some ⟨b2, 0, none⟩)] w (StepPost w b1 b2 base all u) := by
  have hb1 : b1 ≠ w.heap.size := Nat.ne_of_lt h.d.lt
  have hb2 : b2 ≠ w.heap.size := Nat.ne_of_lt h.r.lt
  have hnew := heap_new w (.cells #[.int .i64 (4), .bool sec, .int .u64 (n : Int)] 39)
  have c0 : (w.alloc (.cells #[.int .i64 (4), .bool sec, .int .u64 (n : Int)] 39)).cell? ⟨w.heap.size, 0, none⟩ = some (.int .i64 (4)) := cell_of hnew rfl
  have c2 : (w.alloc (.cells #[.int .i64 (4), .bool sec, .int .u64 (n : Int)] 39)).cell? ⟨w.heap.size, 2, none⟩ = some (.int .u64 (n : Int)) := cell_of hnew rfl
  have hb0 : Below w.heap.size w (w.alloc (.cells #[.int .i64 (4), .bool sec, .int .u64 (n : Int)] 39)) := (Below.refl _ _).alloc (Nat.le_refl _) _
  have HDP := hide (h.below hb0)
  have HB0 := hide (Bth.below (b1 := b1) (b2 := b2) hb0)
  have HS := hide hs; have HWS := hide hws; have HL := hide hl; have HU := hide hu
  clear hnew hb0 h hs hws hl hu
  have hni : IntKind.i64.wrap (n : Int) = N4 := HN4
  clear HN4
  go_enter Try.func18, Try.ntmps18
  go_wp2_with fail
  generalize (w.alloc (.cells #[.int .i64 (4), .bool sec, .int .u64 (n : Int)] 39)) = w0 at c0 c2 HDP HB0 ⊢
  generalize w.heap.size = bx at c0 c2 hb1 hb2 ⊢
  go_wp2_with (first
    | (go_at_call 29; refine (order_great _ _ _ hc).mono ?_; rintro e w1 ⟨rfl, rfl⟩)
    | (go_at_call 30; refine (refOrder_great _ _ _ hc).mono ?_; rintro e w2 ⟨rfl, rfl⟩)
    | (go_at_call 31; refine (same_any _ _ [] _ (RowAt.nil _ _) (RowAt.nil _ _)).mono ?_; rintro e w3 ⟨rfl, hb3⟩; have HB3 := hide hb3; clear hb3)
    | (go_at_call 16; refine (no_any _ _).mono ?_; rintro e w4 ⟨rfl, rfl⟩)
    | fail)
  go_ret
  exact ⟨rfl, s, u, HS.out, by omega, HDP.out.below HB3.out, HB0.out.trans (Bth.below HB3.out)⟩
theorem row_shape {k : IntKind} {w : World} {v : Value} {xs : List Int} (h : RowAt k w v xs) : ∃ ao c, v = .slice ao xs.length c := by obtain ⟨ao, c, h, _⟩ := h; exact ⟨ao, c, h⟩
theorem shuf_len (m : Nat) (ws : List Int) (s : St) : (shuf (m - 1) ws s (iota m)).2.2.length = m := by
  have key : ∀ (i : Nat) (ws : List Int) (s : St) (l : List Int), (shuf i ws s l).2.2.length = l.length := by
    intro i
    induction i with
    | zero => intro ws s l; rfl
    | succ i ih => intro ws s l; simp only [shuf]; rw [ih]; exact swap_length _ _ _
  rw [key]; simp [iota]
theorem arr_but {w w' : World} {g b : Nat} {l : List Int} (h : Arr w g l) (k : But b w w') (hne : g ≠ b) : Arr w' g l := k.heap h hne
set_option maxRecDepth 100000 in
set_option maxHeartbeats 2000000 in
theorem step_4 (m : Nat) (sec : Bool) (n : Nat) (hn : n < 18446744073709551616) (all : List Int) (hws : Words all) (hl : all.length ≤ 17592186044416) (w : World) (b1 b2 base : Nat) (s : St) (u : Nat) (h : DP w b1 b2 base all s u) (hs : s.Ok) (hu : u < 9223372036850581504) (HN4 : IntKind.i64.wrap (n : Int) = (m : Int)) (hc : m ≤ 1048576) :
    Calls Try.prog 18 #[.agg #[.int .i64 (4), .bool sec, .int .u64 (n : Int)], .pointer (some ⟨b1, 0, none⟩), .pointer (some ⟨b2, 0, none⟩)] w (StepPost w b1 b2 base all u) := by
  have hb1 : b1 ≠ w.heap.size := Nat.ne_of_lt h.d.lt
  have hb2 : b2 ≠ w.heap.size := Nat.ne_of_lt h.r.lt
  have hnew := heap_new w (.cells #[.int .i64 (4), .bool sec, .int .u64 (n : Int)] 39)
  have c0 : (w.alloc (.cells #[.int .i64 (4), .bool sec, .int .u64 (n : Int)] 39)).cell? ⟨w.heap.size, 0, none⟩ = some (.int .i64 (4)) := cell_of hnew rfl
  have c2 : (w.alloc (.cells #[.int .i64 (4), .bool sec, .int .u64 (n : Int)] 39)).cell? ⟨w.heap.size, 2, none⟩ = some (.int .u64 (n : Int)) := cell_of hnew rfl
  have hb0 : Below w.heap.size w (w.alloc (.cells #[.int .i64 (4), .bool sec, .int .u64 (n : Int)] 39)) := (Below.refl _ _).alloc (Nat.le_refl _) _
  have HDP := hide (h.below hb0)
  have HB0 := hide (Bth.below (b1 := b1) (b2 := b2) hb0)
  have HS := hide hs; have HWS := hide hws; have HL := hide hl; have HU := hide hu
  clear hnew hb0 h hs hws hl hu
  have hni : IntKind.i64.wrap (n : Int) = (m : Int) := HN4
  clear HN4
  have HSF := hide (shuf_facts all (m - 1) u s (iota m) HS.out)
  have HOP : Hid (∀ W, DiceIs W b1 (all.drop u) s u → Calls Try.prog 29 #[.pointer (some ⟨b1, 0, none⟩), .int .i64 (m : Int)] W (OrderPost W b1 m (all.drop u) s u)) := fun W hd => order_any W b1 m (all.drop u) s u hd HS.out (HWS.out.drop u) (by omega) (by have := HU.out; omega) hc
  have HOR : Hid (∀ W, RefIs W base b2 all s u → Calls Try.prog 30 #[.pointer (some ⟨b2, 0, none⟩), .int .i64 (m : Int)] W (RefOrderPost W base b2 m all s u)) := fun W hr => refOrder_any W base b2 m all s u hr HS.out HWS.out HL.out (by have := HU.out; omega) hc
  have HLEN := hide (shuf_len m (all.drop u) s)
  unfold OrderPost at HOP
  unfold RefOrderPost at HOR
  generalize shuf (m - 1) (all.drop u) s (iota m) = F at HSF HOP HOR HLEN
  obtain ⟨F1, F2, F3⟩ := F
  simp only at HSF HOP HOR HLEN
  clear hn
  go_enter Try.func18, Try.ntmps18
  go_wp2_with fail
  generalize (w.alloc (.cells #[.int .i64 (4), .bool sec, .int .u64 (n : Int)] 39)) = w0 at c0 c2 HDP HB0 ⊢
  generalize w.heap.size = bx at c0 c2 hb1 hb2 ⊢
  go_wp2_with (first
    | (go_at_call 29; refine (HOP.out _ HDP.out.d).mono ?_; rintro e w1 ⟨g, rfl, hg, harr, hd1, k1⟩; have HD1 := hide hd1; have HK1 := hide k1; have HA1 := hide harr; have HG1 := hide hg; have c2' := but_cell k1 hb1 c2; clear hd1 k1 c0 c2 hg harr)
    | (go_at_call 30; refine (HOR.out _ (HDP.out.r.ahead HK1.out HDP.out.lt)).mono ?_; rintro e w2 ⟨v2, rfl, hv2, hrow, hr2, k2⟩; have HR2 := hide hr2; have HK2 := hide k2; have HV2 := hide hrow; have HA2 := hide (arr_but HA1.out k2 (show g ≠ b2 from fun e => absurd (HDP.out.r.lt) (by have := HG1.out; omega))); obtain ⟨a2, q2, rfl⟩ := row_shape hrow; clear hr2 k2 hrow hv2)
    | (go_at_call 31; refine (same_any _ _ F3 _ (HA2.out.row m HLEN.out (by omega)) HV2.out).mono ?_; rintro e w3 ⟨rfl, hb3⟩; have HB3 := hide hb3; clear hb3)
    | (go_at_call 16; refine (no_any _ _).mono ?_; rintro e w4 ⟨rfl, rfl⟩)
    | fail)
  go_ret
  obtain ⟨q1, q2'⟩ := HSF.out
  refine ⟨rfl, F2, u + (m - 1), q2', by omega, ?_⟩
  have hd := HD1.out
  rw [q1] at hd
  obtain ⟨p1, p2⟩ := HDP.out.both (u' := u + (m - 1)) hd HK1.out (fun _ => HR2.out) HK2.out
  exact ⟨p1.below HB3.out, (HB0.out.trans p2).trans (Bth.below HB3.out)⟩
set_option maxRecDepth 100000 in
set_option maxHeartbeats 2000000 in
theorem step_5 (sec : Bool) (n : Nat) (hn : n < 18446744073709551616) (all : List Int) (hws : Words all) (hl : all.length ≤ 17592186044416) (w : World) (b1 b2 base : Nat) (s : St) (u : Nat) (h : DP w b1 b2 base all s u) (hs : s.Ok) (hu : u < 9223372036850581504) :
    Calls Try.prog 18 #[.agg #[.int .i64 (5), .bool sec, .int .u64 (n : Int)], .pointer (some ⟨b1, 0, none⟩), .pointer (some ⟨b2, 0, none⟩)] w (StepPost w b1 b2 base all u) := by
  have hb1 : b1 ≠ w.heap.size := Nat.ne_of_lt h.d.lt
  have hb2 : b2 ≠ w.heap.size := Nat.ne_of_lt h.r.lt
  have hnew := heap_new w (.cells #[.int .i64 (5), .bool sec, .int .u64 (n : Int)] 39)
  have c0 : (w.alloc (.cells #[.int .i64 (5), .bool sec, .int .u64 (n : Int)] 39)).cell? ⟨w.heap.size, 0, none⟩ = some (.int .i64 (5)) := cell_of hnew rfl
  have c2 : (w.alloc (.cells #[.int .i64 (5), .bool sec, .int .u64 (n : Int)] 39)).cell? ⟨w.heap.size, 2, none⟩ = some (.int .u64 (n : Int)) := cell_of hnew rfl
  have hb0 : Below w.heap.size w (w.alloc (.cells #[.int .i64 (5), .bool sec, .int .u64 (n : Int)] 39)) := (Below.refl _ _).alloc (Nat.le_refl _) _
  have HDP := hide (h.below hb0)
  have HB0 := hide (Bth.below (b1 := b1) (b2 := b2) hb0)
  have HS := hide hs; have HWS := hide hws; have HL := hide hl; have HU := hide hu
  clear hnew hb0 h hs hws hl hu
  have HSP : Hid (∀ W, DiceIs W b1 (all.drop u) s u → Calls Try.prog 36 #[.pointer (some ⟨b1, 0, none⟩), .int .u64 (n : Int)] W _) := fun W hd => skip_any W b1 n (all.drop u) s u hd HS.out hn
  have HSR : Hid (∀ W, RefIs W base b2 all s u → Calls Try.prog 40 #[.pointer (some ⟨b2, 0, none⟩), .int .u64 (n : Int)] W _) := fun W hr => refSkip_any W base b2 n all s u hr HS.out hn
  have HOK := hide (Leap.it_ok HS.out n)
  generalize Leap.it n s = z at HSP HSR HOK
  clear hn
  go_enter Try.func18, Try.ntmps18
  go_wp2_with fail
  generalize (w.alloc (.cells #[.int .i64 (5), .bool sec, .int .u64 (n : Int)] 39)) = w0 at c0 c2 HDP HB0 ⊢
  generalize w.heap.size = bx at c0 c2 hb1 hb2 ⊢
  go_wp2_with (first
    | (go_at_call 36; refine (HSP.out _ HDP.out.d).mono ?_; rintro e w1 ⟨rfl, hd1, k1⟩; have HD1 := hide hd1; have HK1 := hide k1; have c2' := but_cell k1 hb1 c2; clear hd1 k1 c0 c2)
    | (go_at_call 40; refine (HSR.out _ (HDP.out.r.ahead HK1.out HDP.out.lt)).mono ?_; rintro e w2 ⟨rfl, hr2, k2⟩; have HR2 := hide hr2; have HK2 := hide k2; clear hr2 k2)
    | fail)
  go_ret
  obtain ⟨p1, p2⟩ := HDP.out.both (u' := u) HD1.out HK1.out (fun _ => HR2.out) HK2.out
  exact ⟨rfl, z, u, HOK.out, by omega, p1, HB0.out.trans p2⟩
set_option maxRecDepth 100000 in
set_option maxHeartbeats 2000000 in
theorem step_6 (sec : Bool) (n : Nat) (hn : n < 18446744073709551616) (all : List Int) (hws : Words all) (hl : all.length ≤ 17592186044416) (w : World) (b1 b2 base : Nat) (s : St) (u : Nat) (h : DP w b1 b2 base all s u) (hs : s.Ok) (hu : u < 9223372036850581504) :
    Calls Try.prog 18 #[.agg #[.int .i64 (6), .bool sec, .int .u64 (n : Int)], .pointer (some ⟨b1, 0, none⟩), .pointer (some ⟨b2, 0, none⟩)] w (StepPost w b1 b2 base all u) := by
  have hb1 : b1 ≠ w.heap.size := Nat.ne_of_lt h.d.lt
  have hb2 : b2 ≠ w.heap.size := Nat.ne_of_lt h.r.lt
  have hnew := heap_new w (.cells #[.int .i64 (6), .bool sec, .int .u64 (n : Int)] 39)
  have c0 : (w.alloc (.cells #[.int .i64 (6), .bool sec, .int .u64 (n : Int)] 39)).cell? ⟨w.heap.size, 0, none⟩ = some (.int .i64 (6)) := cell_of hnew rfl
  have c2 : (w.alloc (.cells #[.int .i64 (6), .bool sec, .int .u64 (n : Int)] 39)).cell? ⟨w.heap.size, 2, none⟩ = some (.int .u64 (n : Int)) := cell_of hnew rfl
  have hb0 : Below w.heap.size w (w.alloc (.cells #[.int .i64 (6), .bool sec, .int .u64 (n : Int)] 39)) := (Below.refl _ _).alloc (Nat.le_refl _) _
  have HDP := hide (h.below hb0)
  have HB0 := hide (Bth.below (b1 := b1) (b2 := b2) hb0)
  have HS := hide hs; have HWS := hide hws; have HL := hide hl; have HU := hide hu
  clear hnew hb0 h hs hws hl hu
  go_enter Try.func18, Try.ntmps18
  go_wp2_with fail
  generalize (w.alloc (.cells #[.int .i64 (6), .bool sec, .int .u64 (n : Int)] 39)) = w0 at c0 c2 HDP HB0 ⊢
  generalize w.heap.size = bx at c0 c2 hb1 hb2 ⊢
  go_wp2_with fail
  have x1 : ∀ x : GW w0, x.world.cell? ⟨b2, 1, none⟩ = some (.int .i64 (u : Int)) := fun x => by
    obtain ⟨_, v, hh, _⟩ := HDP.out.r.below x.bel
    exact cell_of hh rfl
  refine wp_region_gw (by kernel_rfl) (by kernel_rfl) ?_
  repeat (go_big_quiet_step (first
    | (go_at_call 20; exact gw_same (used_dice _ b1 _ _ _ (HDP.out.d.below (GW.bel _))))
    | rfl))
  refine wpQuiet_nil ?_
  intro _ hw'
  obtain ⟨x, hw''⟩ := hw'
  subst hw''
  go_wp2_with fail
  go_ret
  exact ⟨rfl, s, u, HS.out, by omega, HDP.out.below x.bel, HB0.out.trans (Bth.below x.bel)⟩
set_option maxRecDepth 100000 in
set_option maxHeartbeats 2000000 in
theorem step_7 (sec : Bool) (n : Nat) (hn : n < 18446744073709551616) (all : List Int) (hws : Words all) (hl : all.length ≤ 17592186044416) (w : World) (b1 b2 base : Nat) (s : St) (u : Nat) (h : DP w b1 b2 base all s u) (hs : s.Ok) (hu : u < 9223372036850581504) :
    Calls Try.prog 18 #[.agg #[.int .i64 (7), .bool sec, .int .u64 (n : Int)], .pointer (some ⟨b1, 0, none⟩), .pointer (some ⟨b2, 0, none⟩)] w (StepPost w b1 b2 base all u) := by
  have hb1 : b1 ≠ w.heap.size := Nat.ne_of_lt h.d.lt
  have hb2 : b2 ≠ w.heap.size := Nat.ne_of_lt h.r.lt
  have hnew := heap_new w (.cells #[.int .i64 (7), .bool sec, .int .u64 (n : Int)] 39)
  have c0 : (w.alloc (.cells #[.int .i64 (7), .bool sec, .int .u64 (n : Int)] 39)).cell? ⟨w.heap.size, 0, none⟩ = some (.int .i64 (7)) := cell_of hnew rfl
  have c2 : (w.alloc (.cells #[.int .i64 (7), .bool sec, .int .u64 (n : Int)] 39)).cell? ⟨w.heap.size, 2, none⟩ = some (.int .u64 (n : Int)) := cell_of hnew rfl
  have hb0 : Below w.heap.size w (w.alloc (.cells #[.int .i64 (7), .bool sec, .int .u64 (n : Int)] 39)) := (Below.refl _ _).alloc (Nat.le_refl _) _
  have HDP := hide (h.below hb0)
  have HB0 := hide (Bth.below (b1 := b1) (b2 := b2) hb0)
  have HS := hide hs; have HWS := hide hws; have HL := hide hl; have HU := hide hu
  clear hnew hb0 h hs hws hl hu
  have heq : ∀ W, (binOp .eql 41 (.agg #[.int .u64 s.a, .int .u64 s.b, .int .u64 s.c, .int .u64 s.d]) (.agg #[.int .u64 s.a, .int .u64 s.b, .int .u64 s.c, .int .u64 s.d])).run Try.prog W = .ok (.bool true) W := fun W => by
    rw [eql_arr]; simp
  go_enter Try.func18, Try.ntmps18
  go_wp2_with fail
  generalize (w.alloc (.cells #[.int .i64 (7), .bool sec, .int .u64 (n : Int)] 39)) = w0 at c0 c2 HDP HB0 ⊢
  generalize w.heap.size = bx at c0 c2 hb1 hb2 ⊢
  go_wp2_with fail
  have hcs : ∀ x : GW w0, ∃ v, x.world.heap[b2]? = some (RObj v u s) := fun x => by
    obtain ⟨_, v, hh, _⟩ := HDP.out.r.below x.bel
    exact ⟨v, hh⟩
  have x2 : ∀ x : GW w0, x.world.cell? ⟨b2, 2, none⟩ = some (.int .u64 s.a) := fun x => by obtain ⟨v, hh⟩ := hcs x; exact cell_of hh rfl
  have x3 : ∀ x : GW w0, x.world.cell? ⟨b2, 3, none⟩ = some (.int .u64 s.b) := fun x => by obtain ⟨v, hh⟩ := hcs x; exact cell_of hh rfl
  have x4 : ∀ x : GW w0, x.world.cell? ⟨b2, 4, none⟩ = some (.int .u64 s.c) := fun x => by obtain ⟨v, hh⟩ := hcs x; exact cell_of hh rfl
  have x5 : ∀ x : GW w0, x.world.cell? ⟨b2, 5, none⟩ = some (.int .u64 s.d) := fun x => by obtain ⟨v, hh⟩ := hcs x; exact cell_of hh rfl
  have HST : Hid (∀ x : GW w0, Calls Try.prog 19 #[.pointer (some ⟨b1, 0, none⟩)] x.world fun e w'' => e = .returned (.agg #[.int .u64 s.a, .int .u64 s.b, .int .u64 s.c, .int .u64 s.d]) ∧ ∃ y : GW w0, w'' = y.world) := fun x => gw_of (state_any x.world b1 _ s u (HDP.out.d.below x.bel))
  clear hcs
  refine wp_region_gw (by kernel_rfl) (by kernel_rfl) ?_
  repeat (go_big_quiet_step (first
    | (go_at_call 19; exact HST.out _)
    | rfl))
  refine wpQuiet_nil ?_
  intro _ hw'
  obtain ⟨x, hw''⟩ := hw'
  subst hw''
  go_wp2_with fail
  go_ret
  exact ⟨rfl, s, u, HS.out, by omega, HDP.out.below x.bel, HB0.out.trans (Bth.below x.bel)⟩
set_option maxRecDepth 100000 in
set_option maxHeartbeats 2000000 in
theorem step_0 (k : Int) (sec : Bool) (n : Nat) (hn : n < 18446744073709551616) (all : List Int) (hws : Words all) (hl : all.length ≤ 17592186044416) (w : World) (b1 b2 base : Nat) (s : St) (u : Nat) (h : DP w b1 b2 base all s u) (hs : s.Ok) (hu : u < 9223372036850581504) (hk : ¬ (1 ≤ k ∧ k ≤ 7)) :
    Calls Try.prog 18 #[.agg #[.int .i64 (k), .bool sec, .int .u64 (n : Int)], .pointer (some ⟨b1, 0, none⟩), .pointer (some ⟨b2, 0, none⟩)] w (StepPost w b1 b2 base all u) := by
  have hb1 : b1 ≠ w.heap.size := Nat.ne_of_lt h.d.lt
  have hb2 : b2 ≠ w.heap.size := Nat.ne_of_lt h.r.lt
  have hnew := heap_new w (.cells #[.int .i64 (k), .bool sec, .int .u64 (n : Int)] 39)
  have c0 : (w.alloc (.cells #[.int .i64 (k), .bool sec, .int .u64 (n : Int)] 39)).cell? ⟨w.heap.size, 0, none⟩ = some (.int .i64 (k)) := cell_of hnew rfl
  have c2 : (w.alloc (.cells #[.int .i64 (k), .bool sec, .int .u64 (n : Int)] 39)).cell? ⟨w.heap.size, 2, none⟩ = some (.int .u64 (n : Int)) := cell_of hnew rfl
  have hb0 : Below w.heap.size w (w.alloc (.cells #[.int .i64 (k), .bool sec, .int .u64 (n : Int)] 39)) := (Below.refl _ _).alloc (Nat.le_refl _) _
  have HDP := hide (h.below hb0)
  have HB0 := hide (Bth.below (b1 := b1) (b2 := b2) hb0)
  have HS := hide hs; have HWS := hide hws; have HL := hide hl; have HU := hide hu
  clear hnew hb0 h hs hws hl hu
  have e1 : (k == 1) = false := by simp; omega
  have e2 : (k == 2) = false := by simp; omega
  have e3 : (k == 3) = false := by simp; omega
  have e4 : (k == 4) = false := by simp; omega
  have e5 : (k == 5) = false := by simp; omega
  have e6 : (k == 6) = false := by simp; omega
  have e7 : (k == 7) = false := by simp; omega
  clear hk
  go_enter Try.func18, Try.ntmps18
  go_wp2_with fail
  generalize (w.alloc (.cells #[.int .i64 (k), .bool sec, .int .u64 (n : Int)] 39)) = w0 at c0 c2 HDP HB0 ⊢
  generalize w.heap.size = bx at c0 c2 hb1 hb2 ⊢
  go_wp2_with fail
  go_ret
  exact ⟨rfl, s, u, HS.out, by omega, HDP.out, HB0.out⟩
theorem step_any (k : Int) (sec : Bool) (n : Nat) (hn : n < 18446744073709551616) (all : List Int) (hws : Words all) (hl : all.length ≤ 17592186044416) (w : World) (b1 b2 base : Nat) (s : St) (u : Nat) (h : DP w b1 b2 base all s u) (hs : s.Ok) (hu : u < 9223372036850581504) :
    Calls Try.prog 18 #[.agg #[.int .i64 k, .bool sec, .int .u64 (n : Int)], .pointer (some ⟨b1, 0, none⟩), .pointer (some ⟨b2, 0, none⟩)] w (StepPost w b1 b2 base all u) := by
  by_cases hk : 1 ≤ k ∧ k ≤ 7
  · have hk2 : k = 1 ∨ k = 2 ∨ k = 3 ∨ k = 4 ∨ k = 5 ∨ k = 6 ∨ k = 7 := by omega
    rcases hk2 with rfl | rfl | rfl | rfl | rfl | rfl | rfl
    · exact step_1 sec n hn all hws hl w b1 b2 base s u h hs hu
    · by_cases h0 : n = 0
      · subst h0; exact step_2z sec all hws hl w b1 b2 base s u h hs hu
      · exact step_2 sec n hn all hws hl w b1 b2 base s u h hs hu (by omega)
    · by_cases h0 : n = 0
      · subst h0; exact step_3z sec all hws hl w b1 b2 base s u h hs hu
      · exact step_3 sec n hn all hws hl w b1 b2 base s u h hs hu (by omega)
    · rcases Int.lt_or_le (IntKind.i64.wrap (n : Int)) 0 with h1 | h1
      · exact step_4n _ sec n hn all hws hl w b1 b2 base s u h hs hu rfl h1
      · by_cases h2 : 1048576 < IntKind.i64.wrap (n : Int)
        · exact step_4g _ sec n hn all hws hl w b1 b2 base s u h hs hu rfl h2
        · exact step_4 (IntKind.i64.wrap (n : Int)).toNat sec n hn all hws hl w b1 b2 base s u h hs hu (by omega) (by omega)
    · exact step_5 sec n hn all hws hl w b1 b2 base s u h hs hu
    · exact step_6 sec n hn all hws hl w b1 b2 base s u h hs hu
    · exact step_7 sec n hn all hws hl w b1 b2 base s u h hs hu
  · exact step_0 k sec n hn all hws hl w b1 b2 base s u h hs hu hk
end Go.Proofs.Ytglgflibpgmilaa
