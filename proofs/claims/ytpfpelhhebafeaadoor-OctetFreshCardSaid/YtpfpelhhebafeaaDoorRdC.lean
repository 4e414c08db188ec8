/- reads: one call of both readers. -/
import Derived.Test.YtpfpelhhebafeaaDoorRdD
import Derived.BigQuiet
namespace Go.Proofs.YtpfpelhhebafeaaDoor
open Go.RowKit Go.Lib
set_option linter.unusedVariables false
set_option linter.unusedSimpArgs false
theorem RowAt.but {X X' : World} {r n c : Nat} {a : Option Addr} {z : Int} {t : TypeId} {fr : Nat × Nat} {v : Value} {bs : List Int} (h : RowAt .u8 X v bs) (hh : X.heap[r]? = some (.cells #[.slice a n c, .int .i64 z] t fr)) (hb : But r X X') : RowAt .u8 X' v bs := by
  by_cases hne : bs = []
  · subst hne
    obtain ⟨ao, c, rfl, h1, h2, h3, h4⟩ := h
    exact ⟨ao, c, rfl, h1, h2, h3, fun a ha i hi => absurd hi (Nat.not_lt_zero _)⟩
  · obtain ⟨g, o, c', rfl, h1, h2, h3⟩ := h.spot hne
    refine ⟨_, c', rfl, h1, h2, (fun e => by cases e), fun a' ha i hi => ?_⟩
    cases ha
    have h5 := h3 i hi
    have hg : g ≠ r := by
      intro e
      subst e
      simp only [World.cell?, hh] at h5
      match hq : o + i, h5 with
      | 0, h5 => simp at h5
      | 1, h5 => simp at h5
      | j + 2, h5 => simp at h5
    rw [Addr.add_lit]
    have hlt := block_of_cell h5
    simp only [World.cell?] at h5 ⊢
    rw [hb.block g hlt hg]
    simpa [List.getD] using h5
theorem RdIs.head {X : World} {p P : Nat} {bs : List Int} (h : RdIs X p bs P) : ∃ a n c, X.heap[p]? = some (.cells #[.slice a n c, .int .i64 (P : Int)] 71 (0, 0)) := by
  obtain ⟨a, c, hh, _⟩ := h; exact ⟨a, _, c, hh⟩
theorem RRd.head {X : World} {r P : Nat} {v : Value} {bs : List Int} (h : RRd X r v bs P) : ∃ a n c, X.heap[r]? = some (.cells #[.slice a n c, .int .i64 (P : Int)] 58 (0, 0)) := by
  obtain ⟨a, c, rfl⟩ := h.shape; exact ⟨a, _, c, h.hh⟩
/-- A block that is a reader's. -/
def Hd (X : World) (r : Nat) : Prop := ∃ a n c z t, X.heap[r]? = some (.cells #[.slice a n c, .int .i64 z] t (0, 0))
theorem RdIs.hd {X : World} {p P : Nat} {bs : List Int} (h : RdIs X p bs P) : Hd X p := by obtain ⟨a, n, c, hh⟩ := h.head; exact ⟨a, n, c, _, _, hh⟩
theorem RRd.hd {X : World} {r P : Nat} {v : Value} {bs : List Int} (h : RRd X r v bs P) : Hd X r := by obtain ⟨a, n, c, hh⟩ := h.head; exact ⟨a, n, c, _, _, hh⟩
theorem RowAt.but' {X X' : World} {r : Nat} {v : Value} {bs : List Int} (h : RowAt .u8 X v bs) (hh : Hd X r) (hb : But r X X') : RowAt .u8 X' v bs := by obtain ⟨a, n, c, z, t, hh⟩ := hh; exact h.but hh hb
theorem RdIs.but {X X' : World} {p r P : Nat} {bs : List Int} (h : RdIs X p bs P) (hh : Hd X r) (hb : But r X X') (hne : p ≠ r) : RdIs X' p bs P := by
  obtain ⟨a, c, h1, h2, h3⟩ := h
  exact ⟨a, c, hb.heap h1 hne, h2.but' hh hb, h3⟩
theorem RRd.but {X X' : World} {p r P : Nat} {v : Value} {bs : List Int} (h : RRd X r v bs P) (hh : Hd X p) (hb : But p X X') (hne : r ≠ p) : RRd X' r v bs P :=
  ⟨hb.heap h.hh hne, h.row.but' hh hb, h.far⟩
/-- Only the blocks p and r have turned. -/
structure But2 (p r : Nat) (w w' : World) : Prop where
  os : w'.os = w.os
  tape : w'.tape = w.tape
  output : w'.output = w.output
  size : w.heap.size ≤ w'.heap.size
  block : ∀ k, k < w.heap.size → k ≠ p → k ≠ r → w'.heap[k]? = w.heap[k]?
theorem But2.refl (p r : Nat) (w : World) : But2 p r w w := ⟨rfl, rfl, rfl, Nat.le_refl _, fun _ _ _ _ => rfl⟩
theorem But2.trans {p r : Nat} {x y z : World} (h : But2 p r x y) (k : But2 p r y z) : But2 p r x z :=
  ⟨k.os.trans h.os, k.tape.trans h.tape, k.output.trans h.output, Nat.le_trans h.size k.size, fun i hi h1 h2 => (k.block i (Nat.lt_of_lt_of_le hi h.size) h1 h2).trans (h.block i hi h1 h2)⟩
theorem But2.left {p r : Nat} {x y : World} (h : But p x y) : But2 p r x y := ⟨h.os, h.tape, h.output, h.size, fun k hk h1 _ => h.block k hk h1⟩
theorem But2.right {p r : Nat} {x y : World} (h : But r x y) : But2 p r x y := ⟨h.os, h.tape, h.output, h.size, fun k hk _ h2 => h.block k hk h2⟩
theorem But2.of_below {p r : Nat} {x y : World} (h : Below x.heap.size x y) : But2 p r x y := ⟨h.os, h.tape, h.output, h.size, fun k hk _ _ => h.block k hk⟩
/-- Two readers of the same bytes, at the same place. -/
structure Rp (X : World) (p r : Nat) (v : Value) (bs : List Int) (P : Nat) : Prop where
  a : RdIs X p bs P
  b : RRd X r v bs P
  ne : p ≠ r
  le : P ≤ bs.length
theorem Rp.below {X Y : World} {p r P : Nat} {v : Value} {bs : List Int} (h : Rp X p r v bs P) (hb : Below X.heap.size X Y) : Rp Y p r v bs P := ⟨h.a.below hb, h.b.below hb, h.ne, h.le⟩
/-- What reads has made. -/
def RP (X : World) (p r : Nat) (v : Value) (bs : List Int) (e : Ending) (X' : World) : Prop :=
  e = .returned (.bool true) ∧ ∃ P', Rp X' p r v bs P' ∧ But2 p r X X'
theorem rp_done {X X0 X1 X2 X3 : World} {p r P' : Nat} {v : Value} {bs : List Int} {a : RdIs X1 p bs P'} (h0 : Below X.heap.size X X0) (hp : Hd X0 p) (h1 : But p X0 X1) (hr : Hd X1 r) (h2 : But r X1 X2) (b : RRd X2 r v bs P') (h3 : Below X2.heap.size X2 X3) (hne : p ≠ r) (hle : P' ≤ bs.length) : RP X p r v bs (.returned (.bool true)) X3 :=
  ⟨rfl, P', ⟨(a.but hr h2 hne).below h3, b.below h3, hne, hle⟩, (((But2.of_below h0).trans (But2.left h1)).trans (But2.right h2)).trans (But2.of_below h3)⟩
/-- A world that has grown, with what it has grown of. -/
structure GW (w0 : World) where
  world : World
  bel : Below w0.heap.size w0 world
theorem wp_region_gw {P : Program} {id : Nat} {Q : Exit → Act → World → Prop} {a : Act} {w : World} {l : List Oper} (hm : P.follows .mixedOrders = true) (hB : Region.lexB .any l.toArray = true)
    (h : wpQuiet P l.toArray (fun w' => ∃ x : GW w, w' = x.world) (fun a' => ∀ w', (∃ x : GW w, w' = x.world) → Q .normal a' w') l a) : (Code.region id l.toArray true).wp P Q a w :=
  wp_region_quiet (C := fun w' => ∃ x : GW w, w' = x.world) hm hB ⟨⟨w.drew, (Below.refl _ _).drew⟩, rfl⟩ (by simpa using h)
theorem gw_of {w8 : World} {x : GW w8} {f : FuncId} {args : Array Value} {v : Value} (h : Calls Tryd.prog f args x.world fun e w' => e = .returned v ∧ Below x.world.heap.size x.world w') :
    Calls Tryd.prog f args x.world fun e w'' => e = .returned v ∧ ∃ y : GW w8, w'' = y.world :=
  h.mono fun _ w' ⟨he, hb⟩ => ⟨he, ⟨w', x.bel.trans (hb.mono x.bel.size)⟩, rfl⟩
theorem gw_same {w8 : World} {x : GW w8} {f : FuncId} {args : Array Value} {v : Value} (h : Calls Tryd.prog f args x.world fun e w' => e = .returned v ∧ w' = x.world) :
    Calls Tryd.prog f args x.world fun e w'' => e = .returned v ∧ ∃ y : GW w8, w'' = y.world :=
  h.mono fun _ w' ⟨he, hb⟩ => ⟨he, x, hb⟩
section
variable (X : World) (p r P : Nat) (v : Value) (bs : List Int) (kind : Int) (sec : Bool) (vv n : Int) (ba : Option Addr) (bl bc : Nat)
set_option maxRecDepth 100000 in
set_option maxHeartbeats 2000000 in
theorem reads_word (h : Rp X p r v bs P) (hby : Byt bs) (hbig : bs.length ≤ 140737488351232) :
    Calls Tryd.prog 32 #[.agg #[.int .i64 11, .bool sec, .int .u64 vv, .int .i64 n, .slice ba bl bc], .pointer (some ⟨p, 0, none⟩), .pointer (some ⟨r, 0, none⟩)] X (RP X p r v bs) := by
  have H := hide h
  have HPW : Hid (∀ W, RdIs W p bs P → Calls Tryd.prog 39 _ W _) := fun W hW => prd_word W p P n bs hW h.le hby (by omega)
  have HRW : Hid (∀ W, RRd W r v bs P → Calls Tryd.prog 46 _ W _) := fun W hW => rr_word W r P n v bs hW h.le hby (by omega)
  have HNO := hide no_any
  have HLE := hide (wordA_le (s := n) h.le)
  have HNE := hide h.ne
  generalize wordA bs P n = A at HPW HRW HLE
  obtain ⟨a1, a2, a3⟩ := A
  simp only at HPW HRW HLE
  have hb0 : Below X.heap.size X (X.alloc (.cells #[.int .i64 11, .bool sec, .int .u64 vv, .int .i64 n, .slice ba bl bc] 42)) := below_alloc' (Below.refl _ _) _
  have HB0 := hide hb0
  have hbx : (X.alloc (.cells #[.int .i64 11, .bool sec, .int .u64 vv, .int .i64 n, .slice ba bl bc] 42)).heap[X.heap.size]? = some (.cells #[.int .i64 11, .bool sec, .int .u64 vv, .int .i64 n, .slice ba bl bc] 42 (0, 0)) := heap_new _ _
  have HBX := hide hbx
  have hpX : p < X.heap.size := by obtain ⟨_, _, _, hh⟩ := h.a.head; exact lt_of_heap hh
  clear h hby hb0 hbx
  go_enter Tryd.func32, Tryd.ntmps32
  go_wp2_with (first
    | (go_at_call 39; refine (HPW.out _ (H.out.a.below HB0.out)).mono ?_; rintro e w1 ⟨rfl, hrd, hbut⟩; have HP1 := hide (And.intro hrd hbut); have hc3 := cell_of (hbut.heap HBX.out (by omega)) (i := 3) rfl; clear hrd hbut)
    | (go_at_call 46; refine (HRW.out _ ((H.out.b.below HB0.out).but (H.out.a.below HB0.out).hd HP1.out.2 HNE.out.symm)).mono ?_; rintro e w2 ⟨rfl, hrd, hbut⟩; have HP2 := hide (And.intro hrd hbut); clear hrd hbut)
    | (go_at_call 16; refine (HNO.out _ _).mono ?_; rintro e w3 ⟨rfl, rfl⟩)
    | fail)
  go_ret
  have hq := rp_done (a := HP1.out.1) HB0.out (H.out.a.below HB0.out).hd HP1.out.2 ((H.out.b.below HB0.out).but (H.out.a.below HB0.out).hd HP1.out.2 HNE.out.symm).hd HP2.out.2 HP2.out.1 (Below.refl _ _) HNE.out HLE.out
  simpa using hq
theorem below_alloc_on {a w w' : World} (h : Below a.heap.size a w) (k : Below w.heap.size w w') : Below a.heap.size a w' := h.trans (k.mono h.size)
set_option maxRecDepth 100000 in
set_option maxHeartbeats 2000000 in
theorem reads_var (h : Rp X p r v bs P) (hby : Byt bs) (hbig : bs.length ≤ 140737488351232) :
    Calls Tryd.prog 32 #[.agg #[.int .i64 12, .bool sec, .int .u64 vv, .int .i64 n, .slice ba bl bc], .pointer (some ⟨p, 0, none⟩), .pointer (some ⟨r, 0, none⟩)] X (RP X p r v bs) := by
  have H := hide h
  have HPW : Hid (∀ W, RdIs W p bs P → Calls Tryd.prog 41 _ W _) := fun W hW => prd_var W p P bs hW h.le hby (by omega)
  have HRW : Hid (∀ W, RRd W r v bs P → Calls Tryd.prog 47 _ W _) := fun W hW => rr_var W r P v bs hW h.le hby (by omega)
  have HNO := hide no_any
  have HLE := hide (varA_le h.le)
  have HNE := hide h.ne
  unfold VP at HPW
  unfold VQ at HRW
  generalize varA bs P = A at HPW HRW HLE
  obtain ⟨a1, a2, a3⟩ := A
  simp only at HPW HRW HLE
  have hb0 : Below X.heap.size X (X.alloc (.cells #[.int .i64 12, .bool sec, .int .u64 vv, .int .i64 n, .slice ba bl bc] 42)) := below_alloc' (Below.refl _ _) _
  have HB0 := hide hb0
  have hbx : (X.alloc (.cells #[.int .i64 12, .bool sec, .int .u64 vv, .int .i64 n, .slice ba bl bc] 42)).heap[X.heap.size]? = some (.cells #[.int .i64 12, .bool sec, .int .u64 vv, .int .i64 n, .slice ba bl bc] 42 (0, 0)) := heap_new _ _
  have HBX := hide hbx
  have hpX : p < X.heap.size := by obtain ⟨_, _, _, hh⟩ := h.a.head; exact lt_of_heap hh
  have hrX : r < X.heap.size := by obtain ⟨_, _, _, hh⟩ := h.b.head; exact lt_of_heap hh
  clear h hby hb0 hbx
  go_enter Tryd.func32, Tryd.ntmps32
  go_wp2_with (first
    | (go_at_call 41; refine (HPW.out _ (H.out.a.below HB0.out)).mono ?_; rintro e w1 ⟨rfl, hrd, hbut⟩; have HP1 := hide (And.intro hrd hbut); clear hrd hbut)
    | (go_at_call 47; refine (HRW.out _ ((H.out.b.below HB0.out).but (H.out.a.below HB0.out).hd HP1.out.2 HNE.out.symm)).mono ?_; rintro e w2 ⟨rfl, hrd, hbut⟩; have HP2 := hide (And.intro hrd hbut); clear hrd hbut)
    | (go_at_call 16; refine (HNO.out _ _).mono ?_; rintro e w3 ⟨rfl, rfl⟩)
    | fail)
  go_ret
  have hq := rp_done (a := HP1.out.1) HB0.out (H.out.a.below HB0.out).hd HP1.out.2 ((H.out.b.below HB0.out).but (H.out.a.below HB0.out).hd HP1.out.2 HNE.out.symm).hd HP2.out.2 HP2.out.1 (Below.refl _ _) HNE.out HLE.out
  simpa using hq
set_option maxRecDepth 100000 in
set_option maxHeartbeats 2000000 in
theorem reads_bytes (h : Rp X p r v bs P) (hby : Byt bs) (hbig : bs.length ≤ 140737488351232) :
    Calls Tryd.prog 32 #[.agg #[.int .i64 13, .bool sec, .int .u64 vv, .int .i64 n, .slice ba bl bc], .pointer (some ⟨p, 0, none⟩), .pointer (some ⟨r, 0, none⟩)] X (RP X p r v bs) := by
  have H := hide h
  have HPW : Hid (∀ W, RdIs W p bs P → Calls Tryd.prog 21 _ W _) := fun W hW => prd_bytes W p P n bs hW h.le (by omega)
  have HRW : Hid (∀ W, RRd W r v bs P → Calls Tryd.prog 48 _ W _) := fun W hW => rr_bytes W r P n v bs hW h.le (by omega)
  have HNO := hide no_any
  have HSA := hide same_any
  have HLE := hide (bytA_le (s := n) h.le)
  have HNE := hide h.ne
  generalize bytA bs P n = A at HPW HRW HLE
  obtain ⟨a1, a2, a3⟩ := A
  simp only at HPW HRW HLE
  have hb0 : Below X.heap.size X (X.alloc (.cells #[.int .i64 13, .bool sec, .int .u64 vv, .int .i64 n, .slice ba bl bc] 42)) := below_alloc' (Below.refl _ _) _
  have HB0 := hide hb0
  have hbx : (X.alloc (.cells #[.int .i64 13, .bool sec, .int .u64 vv, .int .i64 n, .slice ba bl bc] 42)).heap[X.heap.size]? = some (.cells #[.int .i64 13, .bool sec, .int .u64 vv, .int .i64 n, .slice ba bl bc] 42 (0, 0)) := heap_new _ _
  have HBX := hide hbx
  have hpX : p < X.heap.size := by obtain ⟨_, _, _, hh⟩ := h.a.head; exact lt_of_heap hh
  have hrX : r < X.heap.size := by obtain ⟨_, _, _, hh⟩ := h.b.head; exact lt_of_heap hh
  clear h hby hb0 hbx
  go_enter Tryd.func32, Tryd.ntmps32
  go_wp2_with (first
    | (go_at_call 21; refine (HPW.out _ (H.out.a.below HB0.out)).mono ?_; rintro e w1 ⟨l1, rfl, hrow, hrd, hbut⟩; have HP1 := hide (And.intro hrd hbut); have HR1 := hide hrow; have hc3 := cell_of (hbut.heap HBX.out (by omega)) (i := 3) rfl; clear hrd hbut hrow)
    | (go_at_call 48; refine (HRW.out _ ((H.out.b.below HB0.out).but (H.out.a.below HB0.out).hd HP1.out.2 HNE.out.symm)).mono ?_; rintro e w2 ⟨l2, rfl, hrow, hrd, hbut⟩; have HP2 := hide (And.intro hrd hbut); have HR2 := hide hrow; have HR12 := hide (HR1.out.but' ((H.out.b.below HB0.out).but (H.out.a.below HB0.out).hd HP1.out.2 HNE.out.symm).hd hbut); clear hrd hbut hrow)
    | (go_at_call 28; refine (HSA.out _ _ a1 _ HR12.out HR2.out).mono ?_; rintro e w3 ⟨rfl, hb3⟩; have HB3 := hide hb3; clear hb3)
    | (go_at_call 16; refine (HNO.out _ _).mono ?_; rintro e w4 ⟨rfl, rfl⟩)
    | fail)
  go_ret
  have hq := rp_done (a := HP1.out.1) HB0.out (H.out.a.below HB0.out).hd HP1.out.2 ((H.out.b.below HB0.out).but (H.out.a.below HB0.out).hd HP1.out.2 HNE.out.symm).hd HP2.out.2 HP2.out.1 HB3.out HNE.out HLE.out
  simpa using hq
set_option maxRecDepth 100000 in
set_option maxHeartbeats 2000000 in
theorem reads_sealed (h : Rp X p r v bs P) (hby : Byt bs) (hbig : bs.length ≤ 140737488351232) (hs : SumsAt X) (hp0 : 0 < p) :
    Calls Tryd.prog 32 #[.agg #[.int .i64 14, .bool sec, .int .u64 vv, .int .i64 n, .slice ba bl bc], .pointer (some ⟨p, 0, none⟩), .pointer (some ⟨r, 0, none⟩)] X (RP X p r v bs) := by
  have H := hide h
  have HPW : Hid (∀ W, RdIs W p bs P → SumsAt W → Calls Tryd.prog 19 _ W _) := fun W hW hS => prd_sealed W p P n bs hW h.le hby (by omega) hS hp0
  have HRW : Hid (∀ W, RRd W r v bs P → Calls Tryd.prog 49 _ W _) := fun W hW => rr_sealed W r P n v bs hW h.le hby (by omega)
  have HNO := hide no_any
  have HLE := hide (sealA_le (s := n) h.le)
  have HNE := hide h.ne
  generalize sealA bs P n = A at HPW HRW HLE
  obtain ⟨a2, a3⟩ := A
  simp only at HPW HRW HLE
  have hb0 : Below X.heap.size X (X.alloc (.cells #[.int .i64 14, .bool sec, .int .u64 vv, .int .i64 n, .slice ba bl bc] 42)) := below_alloc' (Below.refl _ _) _
  have HB0 := hide hb0
  have hbx : (X.alloc (.cells #[.int .i64 14, .bool sec, .int .u64 vv, .int .i64 n, .slice ba bl bc] 42)).heap[X.heap.size]? = some (.cells #[.int .i64 14, .bool sec, .int .u64 vv, .int .i64 n, .slice ba bl bc] 42 (0, 0)) := heap_new _ _
  have HBX := hide hbx
  have hpX : p < X.heap.size := by obtain ⟨_, _, _, hh⟩ := h.a.head; exact lt_of_heap hh
  have hrX : r < X.heap.size := by obtain ⟨_, _, _, hh⟩ := h.b.head; exact lt_of_heap hh
  have HS0 := hide (hs.below HB0.out)
  clear hs
  clear h hby hb0 hbx
  go_enter Tryd.func32, Tryd.ntmps32
  go_wp2_with (first
    | (go_at_call 19; refine (HPW.out _ (H.out.a.below HB0.out) (HS0.out)).mono ?_; rintro e w1 ⟨rfl, hrd, hbut⟩; have HP1 := hide (And.intro hrd hbut); have hc3 := cell_of (hbut.heap HBX.out (by omega)) (i := 3) rfl; have hr1 := ((H.out.b.below HB0.out).but (H.out.a.below HB0.out).hd hbut HNE.out.symm); have HR1 := hide hr1; have hbs := hbut.size; clear hrd hbut hr1)
    | fail)
  go_region_with ((first
    | (go_at_call 16; refine (HNO.out _ _).mono ?_; rintro e w3 ⟨rfl, rfl⟩)
    | (go_at_call 49; refine (HRW.out _ (HR1.out.below (Below.refl _ _).drew)).mono ?_; rintro e w2 ⟨rfl, hrd, hbut⟩; have HP2 := hide (And.intro hrd hbut); clear hrd hbut)))
  all_goals
    go_wp2
    go_ret
    have hq := rp_done (a := HP1.out.1) HB0.out (H.out.a.below HB0.out).hd HP1.out.2 HR1.out.hd ((But.of_below (Below.refl _ _).drew).trans HP2.out.2) HP2.out.1 (Below.refl _ _) HNE.out HLE.out
    first
      | exact hq
      | exact (show ∀ b : Bool, b = true → RP X p r v bs (.returned (.bool b)) w2 from fun b hb => by subst hb; exact hq) _ (by simp)
set_option maxRecDepth 100000 in
set_option maxHeartbeats 2000000 in
theorem reads_seek (h : Rp X p r v bs P) (hby : Byt bs) (hbig : bs.length ≤ 140737488351232) :
    Calls Tryd.prog 32 #[.agg #[.int .i64 16, .bool sec, .int .u64 vv, .int .i64 n, .slice ba bl bc], .pointer (some ⟨p, 0, none⟩), .pointer (some ⟨r, 0, none⟩)] X (RP X p r v bs) := by
  have H := hide h
  have HPW : Hid (∀ W, RdIs W p bs P → Calls Tryd.prog 18 _ W _) := fun W hW => prd_seek W p P n bs hW (by omega)
  have HRW : Hid (∀ W, RRd W r v bs P → Calls Tryd.prog 50 _ W _) := fun W hW => rr_seek W r P n v bs hW (by omega)
  have HNO := hide no_any
  have HLE := hide (seekA_le (s := n) h.le)
  have HNE := hide h.ne
  generalize seekA bs P n = A at HPW HRW HLE
  obtain ⟨a2, a3⟩ := A
  simp only at HPW HRW HLE
  have hb0 : Below X.heap.size X (X.alloc (.cells #[.int .i64 16, .bool sec, .int .u64 vv, .int .i64 n, .slice ba bl bc] 42)) := below_alloc' (Below.refl _ _) _
  have HB0 := hide hb0
  have hbx : (X.alloc (.cells #[.int .i64 16, .bool sec, .int .u64 vv, .int .i64 n, .slice ba bl bc] 42)).heap[X.heap.size]? = some (.cells #[.int .i64 16, .bool sec, .int .u64 vv, .int .i64 n, .slice ba bl bc] 42 (0, 0)) := heap_new _ _
  have HBX := hide hbx
  have hpX : p < X.heap.size := by obtain ⟨_, _, _, hh⟩ := h.a.head; exact lt_of_heap hh
  have hrX : r < X.heap.size := by obtain ⟨_, _, _, hh⟩ := h.b.head; exact lt_of_heap hh
  clear h hby hb0 hbx
  go_enter Tryd.func32, Tryd.ntmps32
  go_wp2_with (first
    | (go_at_call 18; refine (HPW.out _ (H.out.a.below HB0.out)).mono ?_; rintro e w1 ⟨rfl, hrd, hbut⟩; have HP1 := hide (And.intro hrd hbut); have hc3 := cell_of (hbut.heap HBX.out (by omega)) (i := 3) rfl; have hr1 := ((H.out.b.below HB0.out).but (H.out.a.below HB0.out).hd hbut HNE.out.symm); have HR1 := hide hr1; have hbs := hbut.size; clear hrd hbut hr1)
    | fail)
  go_region_with ((first
    | (go_at_call 16; refine (HNO.out _ _).mono ?_; rintro e w3 ⟨rfl, rfl⟩)
    | (go_at_call 50; refine (HRW.out _ (HR1.out.below (Below.refl _ _).drew)).mono ?_; rintro e w2 ⟨rfl, hrd, hbut⟩; have HP2 := hide (And.intro hrd hbut); clear hrd hbut)))
  all_goals
    go_wp2
    go_ret
    have hq := rp_done (a := HP1.out.1) HB0.out (H.out.a.below HB0.out).hd HP1.out.2 HR1.out.hd ((But.of_below (Below.refl _ _).drew).trans HP2.out.2) HP2.out.1 (Below.refl _ _) HNE.out HLE.out
    first
      | exact hq
      | exact (show ∀ b : Bool, b = true → RP X p r v bs (.returned (.bool b)) w2 from fun b hb => by subst hb; exact hq) _ (by simp)
set_option maxRecDepth 100000 in
set_option maxHeartbeats 2000000 in
theorem reads_at (h : Rp X p r v bs P) (hby : Byt bs) (hbig : bs.length ≤ 140737488351232) :
    Calls Tryd.prog 32 #[.agg #[.int .i64 15, .bool sec, .int .u64 vv, .int .i64 n, .slice ba bl bc], .pointer (some ⟨p, 0, none⟩), .pointer (some ⟨r, 0, none⟩)] X (RP X p r v bs) := by
  have H := hide h
  have HAT : Hid (∀ W, RdIs W p bs P → Calls Tryd.prog 20 _ W _) := fun W hW => at_any W p bs P hW
  have HPL : Hid (∀ W, RdIs W p bs P → Calls Tryd.prog 22 _ W _) := fun W hW => left_any W p bs P hW h.le (by omega)
  have HRL : Hid (∀ W, RRd W r v bs P → Calls Tryd.prog 33 _ W _) := fun W hW => rleft_any W r P v bs hW h.le (by omega)
  have hb0 : Below X.heap.size X (X.alloc (.cells #[.int .i64 15, .bool sec, .int .u64 vv, .int .i64 n, .slice ba bl bc] 42)) := below_alloc' (Below.refl _ _) _
  have HB0 := hide hb0
  have hbx : (X.alloc (.cells #[.int .i64 15, .bool sec, .int .u64 vv, .int .i64 n, .slice ba bl bc] 42)).heap[X.heap.size]? = some (.cells #[.int .i64 15, .bool sec, .int .u64 vv, .int .i64 n, .slice ba bl bc] 42 (0, 0)) := heap_new _ _
  have HBX := hide hbx
  have hpX : p < X.heap.size := by obtain ⟨_, _, _, hh⟩ := h.a.head; exact lt_of_heap hh
  have hrX : r < X.heap.size := by obtain ⟨_, _, _, hh⟩ := h.b.head; exact lt_of_heap hh
  have HY := hide (h.below hb0)
  obtain ⟨c0, c1, f1⟩ := (h.below hb0).b.cells
  have hc1 : ∀ x : GW (X.alloc (.cells #[.int .i64 15, .bool sec, .int .u64 vv, .int .i64 n, .slice ba bl bc] 42)), x.world.cell? ⟨r, 1, none⟩ = some (.int .i64 (P : Int)) := fun x => (below_cell x.bel (by simp; omega)).trans c1
  have HP := hide h.le
  clear h hby hb0 hbx hbig
  go_enter Tryd.func32, Tryd.ntmps32
  go_wp2_with fail
  refine wp_region_gw (by kernel_rfl) (by kernel_rfl) ?_
  repeat (go_big_quiet_step (first
    | (go_at_call 20; exact gw_same (HAT.out _ (HY.out.a.below (GW.bel _))))
    | (go_at_call 22; exact gw_of (HPL.out _ (HY.out.a.below (GW.bel _))))
    | (go_at_call 33; exact gw_of (HRL.out _ (HY.out.b.below (GW.bel _))))
    | rfl))
  refine wpQuiet_nil ?_
  intro _ hw'
  obtain ⟨x', hw''⟩ := hw'
  subst hw''
  have HZ := hide (HY.out.below x'.bel)
  have HBZ := hide (below_alloc_on HB0.out x'.bel)
  clear hc1 c0 c1
  generalize x'.world = w3 at HZ HBZ ⊢
  clear x'
  go_wp2
  go_ret
  have hq : RP X p r v bs (.returned (.bool true)) w3 := ⟨rfl, P, HZ.out, But2.of_below HBZ.out⟩
  first
    | exact hq
    | exact (show ∀ b : Bool, b = true → RP X p r v bs (.returned (.bool b)) w3 from fun b hb => by subst hb; exact hq) _ (by simp)
set_option maxRecDepth 100000 in
set_option maxHeartbeats 2000000 in
theorem reads_else (h : Rp X p r v bs P) (hby : Byt bs) (hbig : bs.length ≤ 140737488351232) (hk : ¬ (11 ≤ kind ∧ kind ≤ 16)) :
    Calls Tryd.prog 32 #[.agg #[.int .i64 kind, .bool sec, .int .u64 vv, .int .i64 n, .slice ba bl bc], .pointer (some ⟨p, 0, none⟩), .pointer (some ⟨r, 0, none⟩)] X (RP X p r v bs) := by
  have H := hide h
  have k1 : ¬ kind = 11 := by omega
  have k2 : ¬ kind = 12 := by omega
  have k3 : ¬ kind = 13 := by omega
  have k4 : ¬ kind = 14 := by omega
  have k5 : ¬ kind = 15 := by omega
  have k6 : ¬ kind = 16 := by omega
  clear h hby hk
  go_enter Tryd.func32, Tryd.ntmps32
  go_wp2
  go_ret
  exact ⟨rfl, P, H.out.below (below_alloc' (Below.refl _ _) _), But2.of_below (below_alloc' (Below.refl _ _) _)⟩
end
end Go.Proofs.YtpfpelhhebafeaaDoor
