/- writes: its kinds. -/
import Derived.Test.YtpfpelhhebafeaaDoorWxC
namespace Go.Proofs.YtpfpelhhebafeaaDoor
open Go.RowKit Go.Lib Go.Maps
set_option linter.unusedVariables false
set_option linter.unusedSimpArgs false
section
variable {w X Y Z : World} {f : Nat → WR} {p r : Nat} {bs : List Int}
theorem WS.prog (h : WS w X f) (t : Two f p r bs) : WX X 69 (f p).b (f p).v bs := by
  have := h.x p t.p4
  rw [t.tp, t.bp] at this
  exact this
theorem WS.ref (h : WS w X f) (t : Two f p r bs) : WX X 54 (f r).b (f r).v bs := by
  have := h.x r t.r4
  rw [t.tr, t.br] at this
  exact this
theorem WS.first {v' : Value} {bs' : List Int} (h : WS w X f) (t : Two f p r bs) (hx : WX Y 69 (f p).b v' bs') (hw : WT (f p).b (f p).v v' X Y) (hby : Byt bs') : WS w Y (wup f p ⟨69, (f p).b, v', bs'⟩) ∧ WX Y 54 (f r).b (f r).v bs := by
  have h1 := h.step t.p4 (v' := v') (bs' := bs') (by rw [t.tp]; exact hx) hw hby
  rw [t.tp] at h1
  refine ⟨h1, ?_⟩
  have h2 := h1.x r t.r4
  rw [wup_other (fun e => t.ne e.symm), t.tr, t.br] at h2
  exact h2
theorem WS.second {v1 v2 : Value} {bs' : List Int} (h : WS w Y (wup f p ⟨69, (f p).b, v1, bs'⟩)) (t : Two f p r bs) (hx : WX Z 54 (f r).b v2 bs') (hw : WT (f r).b (f r).v v2 Y Z) (hby : Byt bs') : WS w Z (wup (wup f p ⟨69, (f p).b, v1, bs'⟩) r ⟨54, (f r).b, v2, bs'⟩) := by
  have e : wup f p ⟨69, (f p).b, v1, bs'⟩ r = f r := wup_other (fun e => t.ne e.symm)
  have h1 := h.step t.r4 (v' := v2) (bs' := bs') (by rw [e, t.tr]; exact hx) (by rw [e]; exact hw) hby
  rw [e, t.tr] at h1
  exact h1
theorem box_keep {k a : Nat} {va va' : Value} {o : Obj} (hb : X.heap[k]? = some o) (hw : WT a va va' X Y) (h1 : k ≠ a) (h2 : va.ownBlock ≠ some k) : Y.heap[k]? = some o := (hw.blk k (lt_of_heap hb) h1 h2).trans hb
theorem own8_far {B g c a : Nat} {va va' : Value} {cs : List Int} (h : Own8 X B g c cs) (hw : WT a va va' X Y) (h1 : g ≠ a) (h2 : va.ownBlock ≠ some g) : Own8 Y B g c cs := by
  obtain ⟨h3, ⟨he, _⟩ | ⟨g', cap', cur', he, hg, hh, hr⟩⟩ := h.own
  · simp at he
  · simp only [Value.slice.injEq, Option.some.injEq, Addr.mk.injEq, true_and, and_true] at he
    obtain ⟨rfl, rfl⟩ := he
    exact ⟨h3, .inr ⟨g, c, cur', rfl, hg, box_keep hh hw h1 h2, hr⟩⟩
/-- Nothing has been written. -/
theorem ws_same (h : WS w X f) (t : Two f p r bs) : WS w X (wup (wup f p ⟨69, (f p).b, (f p).v, bs⟩) r ⟨54, (f r).b, (f r).v, bs⟩) := by
  have e1 : wup f p ⟨69, (f p).b, (f p).v, bs⟩ = f := by
    funext j
    by_cases e : j = p
    · subst e; rw [wup_same, ← t.tp, ← t.bp]
    · rw [wup_other e]
  rw [e1]
  have e2 : wup f r ⟨54, (f r).b, (f r).v, bs⟩ = f := by
    funext j
    by_cases e : j = r
    · subst e; rw [wup_same, ← t.tr, ← t.br]
    · rw [wup_other e]
  rw [e2]
  exact h
end
section
variable (w X : World) (f : Nat → WR) (p r : Nat) (bs : List Int) (kind : Int) (sec : Bool) (x : Nat) (n : Int) (bv : Value) (b : List Int)
set_option maxRecDepth 100000 in
set_option maxHeartbeats 2000000 in
theorem writes_word (h : WS w X f) (t : Two f p r bs) (hx : x < 18446744073709551616) (hb : RowAt .u8 w bv b) (hbb : Byt b) (hlen : bs.length + b.length ≤ 90000000000000) (hs : SumsAt w) :
    Calls Tryd.prog 30 #[.agg #[.int .i64 1, .bool sec, .int .u64 (x : Int), .int .i64 n, bv], .pointer (some ⟨(f p).b, 0, none⟩), .pointer (some ⟨(f r).b, 0, none⟩)] X (RW w X f p r bs (10 + b.length)) := by
  have T := hide t
  have HB0 : Hid (Below X.heap.size X (X.alloc (.cells #[.int .i64 1, .bool sec, .int .u64 (x : Int), .int .i64 n, bv] 42))) := below_alloc' (Below.refl _ _) _
  have HX0 := hide (h.below HB0.out)
  have HBX : Hid ((X.alloc (.cells #[.int .i64 1, .bool sec, .int .u64 (x : Int), .int .i64 n, bv] 42)).heap[X.heap.size]? = some (.cells #[.int .i64 1, .bool sec, .int .u64 (x : Int), .int .i64 n, bv] 42 (0, 0))) := heap_new _ _
  have hpX : (f p).b < X.heap.size := lt_of_heap (h.prog t).hb
  have hrX : (f r).b < X.heap.size := lt_of_heap (h.ref t).hb
  have HVP : Hid ((f p).v.ownBlock ≠ some X.heap.size) := fun e => by have := (h.prog t).lt _ e; omega
  have HVR : Hid ((f r).v.ownBlock ≠ some X.heap.size) := fun e => by have := (h.ref t).lt _ e; omega
  have HSU : Hid (SumsAt (X.alloc (.cells #[.int .i64 1, .bool sec, .int .u64 (x : Int), .int .i64 n, bv] 42))) := hs.below HX0.out.bel
  have HBY : Hid (Byt bs) := hide (by have := h.by' p t.p4; rw [t.bp] at this; exact this)
  have HBV := hide hb
  have HBB := hide hbb
  obtain ⟨ba, bc, rfl⟩ : ∃ ao c, bv = .slice ao b.length c := by obtain ⟨ao, c, h, _⟩ := hb; exact ⟨ao, c, h⟩
  have HPW : Hid (∀ W, WX W 69 (f p).b (f p).v bs → Calls Tryd.prog 24 _ W _) := fun W hW => pw_word W (f p).b (f p).v bs x n hW hx (by omega)
  have HRW : Hid (∀ W, WX W 54 (f r).b (f r).v bs → Calls Tryd.prog 42 _ W _) := fun W hW => pr_word W (f r).b (f r).v bs x n hW hx (by omega)
  have HNO := hide no_any
  have HSB := hide (wordS_by x n)
  unfold WP at HPW HRW
  generalize wordS x n = A at HPW HRW HSB
  obtain ⟨er, sg⟩ := A
  simp only at HPW HRW HSB
  have HLN : Hid ((bs ++ sg).length ≤ bs.length + (10 + b.length)) := hide (by rw [List.length_append]; have := HSB.out.2; omega)
  have HBS := hide (HBY.out.app HSB.out.1)
  obtain ⟨pb, hpb⟩ : ∃ pb, pb = (f p).b := ⟨_, rfl⟩
  obtain ⟨rb, hrb⟩ : ∃ rb, rb = (f r).b := ⟨_, rfl⟩
  have HPB := hide hpb
  have HRB := hide hrb
  rw [← hpb] at hpX HPW ⊢
  rw [← hrb] at hrX HRW ⊢
  clear h t hb hbb hpb hrb hs
  go_enter Tryd.func30, Tryd.ntmps30
  go_wp2_with (first
    | (go_at_call 24; refine (HPW.out _ (by rw [HPB.out]; exact HX0.out.prog T.out)).mono ?_; rintro e w1 ⟨rfl, v1, hx1, hw1⟩; have hbk := box_keep HBX.out hw1 (by omega) HVP.out; have c2 := cell_of hbk (i := 2) rfl; have c3 := cell_of hbk (i := 3) rfl; have HS1 := hide (HX0.out.first T.out (by rw [← HPB.out]; exact hx1) (by rw [← HPB.out]; exact hw1) HBS.out); clear hx1 hw1 hbk)
    | fail)
  go_region_with ((first
    | (go_at_call 16; refine (HNO.out _ _).mono ?_; rintro e w3 ⟨rfl, rfl⟩)
    | (go_at_call 42; refine (HRW.out _ (by rw [HRB.out]; exact HS1.out.2.below (Below.refl _ _).drew)).mono ?_; rintro e w2 ⟨rfl, v2, hx2, hw2⟩; have HS2 := hide (WS.second (HS1.out.1.below (Below.refl _ _).drew) T.out (by rw [← HRB.out]; exact hx2) (by rw [← HRB.out]; exact hw2) HBS.out); clear hx2 hw2)))
  all_goals
    go_wp2
    go_ret
    have hq : RW w X f p r bs (10 + b.length) (.returned (.bool true)) w2 := ⟨rfl, _, _, _, HS2.out, HLN.out⟩
    first
      | exact hq
      | exact (show ∀ q : Bool, q = true → RW w X f p r bs (10 + b.length) (.returned (.bool q)) w2 from fun q hq' => by subst hq'; exact hq) _ (by simp)
set_option maxRecDepth 100000 in
set_option maxHeartbeats 2000000 in
theorem writes_seal (h : WS w X f) (t : Two f p r bs) (hx : x < 18446744073709551616) (hb : RowAt .u8 w bv b) (hbb : Byt b) (hlen : bs.length + b.length ≤ 90000000000000) (hs : SumsAt w) :
    Calls Tryd.prog 30 #[.agg #[.int .i64 4, .bool sec, .int .u64 (x : Int), .int .i64 n, bv], .pointer (some ⟨(f p).b, 0, none⟩), .pointer (some ⟨(f r).b, 0, none⟩)] X (RW w X f p r bs (10 + b.length)) := by
  have T := hide t
  have HB0 : Hid (Below X.heap.size X (X.alloc (.cells #[.int .i64 4, .bool sec, .int .u64 (x : Int), .int .i64 n, bv] 42))) := below_alloc' (Below.refl _ _) _
  have HX0 := hide (h.below HB0.out)
  have HBX : Hid ((X.alloc (.cells #[.int .i64 4, .bool sec, .int .u64 (x : Int), .int .i64 n, bv] 42)).heap[X.heap.size]? = some (.cells #[.int .i64 4, .bool sec, .int .u64 (x : Int), .int .i64 n, bv] 42 (0, 0))) := heap_new _ _
  have hpX : (f p).b < X.heap.size := lt_of_heap (h.prog t).hb
  have hrX : (f r).b < X.heap.size := lt_of_heap (h.ref t).hb
  have HVP : Hid ((f p).v.ownBlock ≠ some X.heap.size) := fun e => by have := (h.prog t).lt _ e; omega
  have HVR : Hid ((f r).v.ownBlock ≠ some X.heap.size) := fun e => by have := (h.ref t).lt _ e; omega
  have HSU : Hid (SumsAt (X.alloc (.cells #[.int .i64 4, .bool sec, .int .u64 (x : Int), .int .i64 n, bv] 42))) := hs.below HX0.out.bel
  have HBY : Hid (Byt bs) := hide (by have := h.by' p t.p4; rw [t.bp] at this; exact this)
  have HBV := hide hb
  have HBB := hide hbb
  obtain ⟨ba, bc, rfl⟩ : ∃ ao c, bv = .slice ao b.length c := by obtain ⟨ao, c, h, _⟩ := hb; exact ⟨ao, c, h⟩
  have HPW : Hid (∀ W, WX W 69 (f p).b (f p).v bs → SumsAt W → Calls Tryd.prog 14 _ W _) := fun W hW hS => pw_seal W (f p).b (f p).v bs n hW HBY.out (by omega) hS
  have HRW : Hid (∀ W, WX W 54 (f r).b (f r).v bs → Calls Tryd.prog 45 _ W _) := fun W hW => pr_seal W (f r).b (f r).v bs n hW HBY.out (by omega)
  have HNO := hide no_any
  have HSB := hide (sealS_by bs n)
  unfold WP at HPW HRW
  generalize sealS bs n = A at HPW HRW HSB
  obtain ⟨er, sg⟩ := A
  simp only at HPW HRW HSB
  have HLN : Hid ((bs ++ sg).length ≤ bs.length + (10 + b.length)) := hide (by rw [List.length_append]; have := HSB.out.2; omega)
  have HBS := hide (HBY.out.app HSB.out.1)
  obtain ⟨pb, hpb⟩ : ∃ pb, pb = (f p).b := ⟨_, rfl⟩
  obtain ⟨rb, hrb⟩ : ∃ rb, rb = (f r).b := ⟨_, rfl⟩
  have HPB := hide hpb
  have HRB := hide hrb
  rw [← hpb] at hpX HPW ⊢
  rw [← hrb] at hrX HRW ⊢
  clear h t hb hbb hpb hrb hs
  go_enter Tryd.func30, Tryd.ntmps30
  go_wp2_with (first
    | (go_at_call 14; refine (HPW.out _ (by rw [HPB.out]; exact HX0.out.prog T.out) HSU.out).mono ?_; rintro e w1 ⟨rfl, v1, hx1, hw1⟩; have hbk := box_keep HBX.out hw1 (by omega) HVP.out; have c3 := cell_of hbk (i := 3) rfl; have HS1 := hide (HX0.out.first T.out (by rw [← HPB.out]; exact hx1) (by rw [← HPB.out]; exact hw1) HBS.out); clear hx1 hw1 hbk)
    | fail)
  go_region_with ((first
    | (go_at_call 16; refine (HNO.out _ _).mono ?_; rintro e w3 ⟨rfl, rfl⟩)
    | (go_at_call 45; refine (HRW.out _ (by rw [HRB.out]; exact HS1.out.2.below (Below.refl _ _).drew)).mono ?_; rintro e w2 ⟨rfl, v2, hx2, hw2⟩; have HS2 := hide (WS.second (HS1.out.1.below (Below.refl _ _).drew) T.out (by rw [← HRB.out]; exact hx2) (by rw [← HRB.out]; exact hw2) HBS.out); clear hx2 hw2)))
  all_goals
    go_wp2
    go_ret
    have hq : RW w X f p r bs (10 + b.length) (.returned (.bool true)) w2 := ⟨rfl, _, _, _, HS2.out, HLN.out⟩
    first
      | exact hq
      | exact (show ∀ q : Bool, q = true → RW w X f p r bs (10 + b.length) (.returned (.bool q)) w2 from fun q hq' => by subst hq'; exact hq) _ (by simp)
set_option maxRecDepth 100000 in
set_option maxHeartbeats 2000000 in
theorem writes_var (h : WS w X f) (t : Two f p r bs) (hx : x < 18446744073709551616) (hb : RowAt .u8 w bv b) (hbb : Byt b) (hlen : bs.length + b.length ≤ 90000000000000) (hs : SumsAt w) :
    Calls Tryd.prog 30 #[.agg #[.int .i64 2, .bool sec, .int .u64 (x : Int), .int .i64 n, bv], .pointer (some ⟨(f p).b, 0, none⟩), .pointer (some ⟨(f r).b, 0, none⟩)] X (RW w X f p r bs (10 + b.length)) := by
  have T := hide t
  have HB0 : Hid (Below X.heap.size X (X.alloc (.cells #[.int .i64 2, .bool sec, .int .u64 (x : Int), .int .i64 n, bv] 42))) := below_alloc' (Below.refl _ _) _
  have HX0 := hide (h.below HB0.out)
  have HBX : Hid ((X.alloc (.cells #[.int .i64 2, .bool sec, .int .u64 (x : Int), .int .i64 n, bv] 42)).heap[X.heap.size]? = some (.cells #[.int .i64 2, .bool sec, .int .u64 (x : Int), .int .i64 n, bv] 42 (0, 0))) := heap_new _ _
  have hpX : (f p).b < X.heap.size := lt_of_heap (h.prog t).hb
  have hrX : (f r).b < X.heap.size := lt_of_heap (h.ref t).hb
  have HVP : Hid ((f p).v.ownBlock ≠ some X.heap.size) := fun e => by have := (h.prog t).lt _ e; omega
  have HVR : Hid ((f r).v.ownBlock ≠ some X.heap.size) := fun e => by have := (h.ref t).lt _ e; omega
  have HSU : Hid (SumsAt (X.alloc (.cells #[.int .i64 2, .bool sec, .int .u64 (x : Int), .int .i64 n, bv] 42))) := hs.below HX0.out.bel
  have HBY : Hid (Byt bs) := hide (by have := h.by' p t.p4; rw [t.bp] at this; exact this)
  have HBV := hide hb
  have HBB := hide hbb
  obtain ⟨ba, bc, rfl⟩ : ∃ ao c, bv = .slice ao b.length c := by obtain ⟨ao, c, h, _⟩ := hb; exact ⟨ao, c, h⟩
  have HPW : Hid (∀ W, WX W 69 (f p).b (f p).v bs → Calls Tryd.prog 25 _ W _) := fun W hW => var_x W (f p).b (f p).v bs x hW hx (by omega)
  have HRW : Hid (∀ W, WX W 54 (f r).b (f r).v bs → Calls Tryd.prog 43 _ W _) := fun W hW => rvar_w W (f r).b (f r).v bs x hW hx (by omega)
  have HLN : Hid ((bs ++ enc x).length ≤ bs.length + (10 + b.length)) := hide (by rw [List.length_append]; have := (enc_ten hx).2; omega)
  have HBS : Hid (Byt (bs ++ enc x)) := hide (HBY.out.app (enc_bytes x))
  obtain ⟨pb, hpb⟩ : ∃ pb, pb = (f p).b := ⟨_, rfl⟩
  obtain ⟨rb, hrb⟩ : ∃ rb, rb = (f r).b := ⟨_, rfl⟩
  have HPB := hide hpb
  have HRB := hide hrb
  rw [← hpb] at hpX HPW ⊢
  rw [← hrb] at hrX HRW ⊢
  clear h t hb hbb hpb hrb hs
  go_enter Tryd.func30, Tryd.ntmps30
  go_wp2_with (first
    | (go_at_call 25; refine (HPW.out _ (by rw [HPB.out]; exact HX0.out.prog T.out)).mono ?_; rintro e w1 ⟨rfl, v1, hx1, hw1⟩; have hbk := box_keep HBX.out hw1 (by omega) HVP.out; have c2 := cell_of hbk (i := 2) rfl; have HS1 := hide (HX0.out.first T.out (by rw [← HPB.out]; exact hx1) (by rw [← HPB.out]; exact hw1) HBS.out); clear hx1 hw1 hbk)
    | (go_at_call 43; refine (HRW.out _ (by rw [HRB.out]; exact HS1.out.2)).mono ?_; rintro e w2 ⟨rfl, v2, hx2, hw2⟩; have HS2 := hide (WS.second HS1.out.1 T.out (by rw [← HRB.out]; exact hx2) (by rw [← HRB.out]; exact hw2) HBS.out); clear hx2 hw2)
    | fail)
  all_goals
    go_ret
    have hq : RW w X f p r bs (10 + b.length) (.returned (.bool true)) w2 := ⟨rfl, _, _, _, HS2.out, HLN.out⟩
    first
      | exact hq
      | exact (show ∀ q : Bool, q = true → RW w X f p r bs (10 + b.length) (.returned (.bool q)) w2 from fun q hq' => by subst hq'; exact hq) _ (by simp)
set_option maxRecDepth 100000 in
set_option maxHeartbeats 2000000 in
theorem writes_bytes (h : WS w X f) (t : Two f p r bs) (hx : x < 18446744073709551616) (hb : RowAt .u8 w bv b) (hbb : Byt b) (hlen : bs.length + b.length ≤ 90000000000000) (hs : SumsAt w) :
    Calls Tryd.prog 30 #[.agg #[.int .i64 3, .bool sec, .int .u64 (x : Int), .int .i64 n, bv], .pointer (some ⟨(f p).b, 0, none⟩), .pointer (some ⟨(f r).b, 0, none⟩)] X (RW w X f p r bs (10 + b.length)) := by
  have T := hide t
  have HB0 : Hid (Below X.heap.size X (X.alloc (.cells #[.int .i64 3, .bool sec, .int .u64 (x : Int), .int .i64 n, bv] 42))) := below_alloc' (Below.refl _ _) _
  have HX0 := hide (h.below HB0.out)
  have HBX : Hid ((X.alloc (.cells #[.int .i64 3, .bool sec, .int .u64 (x : Int), .int .i64 n, bv] 42)).heap[X.heap.size]? = some (.cells #[.int .i64 3, .bool sec, .int .u64 (x : Int), .int .i64 n, bv] 42 (0, 0))) := heap_new _ _
  have hpX : (f p).b < X.heap.size := lt_of_heap (h.prog t).hb
  have hrX : (f r).b < X.heap.size := lt_of_heap (h.ref t).hb
  have HVP : Hid ((f p).v.ownBlock ≠ some X.heap.size) := fun e => by have := (h.prog t).lt _ e; omega
  have HVR : Hid ((f r).v.ownBlock ≠ some X.heap.size) := fun e => by have := (h.ref t).lt _ e; omega
  have HSU : Hid (SumsAt (X.alloc (.cells #[.int .i64 3, .bool sec, .int .u64 (x : Int), .int .i64 n, bv] 42))) := hs.below HX0.out.bel
  have HBY : Hid (Byt bs) := hide (by have := h.by' p t.p4; rw [t.bp] at this; exact this)
  have HBV := hide hb
  have HBB := hide hbb
  obtain ⟨ba, bc, rfl⟩ : ∃ ao c, bv = .slice ao b.length c := by obtain ⟨ao, c, h, _⟩ := hb; exact ⟨ao, c, h⟩
  have HPW : Hid (∀ W xv, WX W 69 (f p).b (f p).v bs → RowAt .u8 W xv b → Calls Tryd.prog 13 _ W _) := fun W xv hW hr => wbytes_x W (f p).b (f p).v bs xv b hW hr (by omega)
  have HRW : Hid (∀ W, WX W 54 (f r).b (f r).v bs → RowAt .u8 W (.slice ba b.length bc) b → Calls Tryd.prog 44 _ W _) := fun W hW hr => rbytes_w W (f r).b (f r).v bs (.slice ba b.length bc) b hW hr (fun g o m c hne e => by
    obtain ⟨g', o', c', he, _, _, h3⟩ := HBV.out.spot hne
    rw [he] at e
    simp only [Value.slice.injEq, Option.some.injEq, Addr.mk.injEq] at e
    obtain ⟨⟨rfl, _⟩, _⟩ := e
    have h4 := block_of_cell (h3 0 (List.length_pos_iff.2 hne))
    simp only at h4
    have h5 := h.lo r t.r4
    exact ⟨by omega, fun e => by have := h5.2 _ e; omega⟩) (by omega)
  have HRO : Hid (∀ W, RowAt .u8 W (.slice ba b.length bc) b → Calls Tryd.prog 27 _ W _) := fun W hr => roomy_any (.slice ba b.length bc) b W hr (by omega)
  have HKP : Hid (∀ B g c W, Own8 W B g c (b ++ [201, 202]) → RowAt .u8 W (.slice ba b.length bc) b → Calls Tryd.prog 31 _ W _) := fun B g c W ho hr => kept_any B g c (.slice ba b.length bc) b W ho hr (by omega)
  have HSBR : Hid (∀ B g c W, Own8 W B g c (b ++ [201, 202]) → RowAt .u8 W (.slice (some ⟨g, 0, none⟩) b.length c) b ∧ b.length + 2 ≤ c) := fun B g c W h => by
    have hll : (b ++ [201, 202]).length = b.length + 2 := by rw [List.length_append]; rfl
    have hsub := sub_row (f := 0) (p := b.length) h.row (by omega) (by rw [hll]; omega)
    rw [List.drop_zero, List.take_left, Nat.sub_zero, Nat.sub_zero] at hsub
    have hcl := h.parts.2.1
    rw [hll] at hcl
    exact ⟨hsub, hcl⟩
  have HLN : Hid ((bs ++ b).length ≤ bs.length + (10 + b.length)) := hide (by rw [List.length_append]; omega)
  have HBS : Hid (Byt (bs ++ b)) := hide (HBY.out.app hbb)
  obtain ⟨pb, hpb⟩ : ∃ pb, pb = (f p).b := ⟨_, rfl⟩
  obtain ⟨rb, hrb⟩ : ∃ rb, rb = (f r).b := ⟨_, rfl⟩
  obtain ⟨bl, hbl⟩ : ∃ bl, bl = b.length := ⟨_, rfl⟩
  have HPB := hide hpb
  have HRB := hide hrb
  have HBL := hide hbl
  rw [← hpb] at hpX HPW ⊢
  rw [← hrb] at hrX HRW ⊢
  rw [← hbl] at HRW HRO HKP HSBR HBX HX0 HB0 HBV HSU HLN hlen ⊢
  clear h t hb hbb hpb hrb hbl hs
  go_enter Tryd.func30, Tryd.ntmps30
  go_wp2_with (first
    | (go_at_call 27; refine (HRO.out _ (HBV.out.below HX0.out.bel)).mono ?_; rintro e w0 ⟨gc, cc, rfl, hown, hb0⟩; have HO0 := hide hown; have hbk := (hb0.block _ (lt_of_heap HBX.out)).trans HBX.out; have c4 := cell_of hbk (i := 4) rfl; have HK0 := hide hbk; have HX1 := hide (HX0.out.below hb0); obtain ⟨sr, hcc⟩ := HSBR.out _ _ _ _ hown; have HSR := hide sr; have j1 : (bl : Int) ≤ (cc : Int) := (by omega); have hgs : X.heap.size < w0.heap.size := lt_of_heap hbk; have hg0 : X.heap.size + 1 ≤ gc := (by simpa using hown.parts.1); clear hown hb0 hbk sr)
    | (go_at_call 13; refine (HPW.out _ _ (by rw [HPB.out]; exact HX1.out.prog T.out) HSR.out).mono ?_; rintro e w1 ⟨rfl, v1, hx1, hw1⟩; have hbk := box_keep HK0.out hw1 (by omega) HVP.out; clear c4; have c4 := cell_of hbk (i := 4) rfl; have HK1 := hide hbk; have HO1 := hide (own8_far HO0.out hw1 (by omega) (fun e => by have h7 := (HX0.out.prog T.out).lt _ e; simp at h7; omega)); have HS1 := hide (HX1.out.first T.out (by rw [← HPB.out]; exact hx1) (by rw [← HPB.out]; exact hw1) HBS.out); clear hx1 hw1 hbk)
    | (go_at_call 44; refine (HRW.out _ (by rw [HRB.out]; exact HS1.out.2) (HBV.out.below HS1.out.1.bel)).mono ?_; rintro e w2 ⟨rfl, v2, hx2, hw2⟩; have hbk := box_keep HK1.out hw2 (by omega) HVR.out; clear c4; have c4 := cell_of hbk (i := 4) rfl; have HO2 := hide (own8_far HO1.out hw2 (by omega) (fun e => by have h7 := (HX0.out.ref T.out).lt _ e; simp at h7; omega)); have HS2' := hide (WS.second HS1.out.1 T.out (by rw [← HRB.out]; exact hx2) (by rw [← HRB.out]; exact hw2) HBS.out); clear hx2 hw2 hbk)
    | (go_at_call 31; refine (HKP.out _ _ _ _ HO2.out (HBV.out.below HS2'.out.bel)).mono ?_; rintro e w3 ⟨rfl, hb3⟩; have HS2 := hide (HS2'.out.below hb3); clear hb3)
    | fail)
  all_goals
    go_ret
    have hq : RW w X f p r bs (10 + bl) (.returned (.bool true)) w3 := ⟨rfl, _, _, _, HS2.out, HLN.out⟩
    first
      | exact hq
      | exact (show ∀ q : Bool, q = true → RW w X f p r bs (10 + bl) (.returned (.bool q)) w3 from fun q hq' => by subst hq'; exact hq) _ (by simp)
set_option maxRecDepth 100000 in
set_option maxHeartbeats 2000000 in
theorem writes_len (h : WS w X f) (t : Two f p r bs) (hx : x < 18446744073709551616) (hb : RowAt .u8 w bv b) (hbb : Byt b) (hlen : bs.length + b.length ≤ 90000000000000) (hs : SumsAt w) :
    Calls Tryd.prog 30 #[.agg #[.int .i64 5, .bool sec, .int .u64 (x : Int), .int .i64 n, bv], .pointer (some ⟨(f p).b, 0, none⟩), .pointer (some ⟨(f r).b, 0, none⟩)] X (RW w X f p r bs (10 + b.length)) := by
  have T := hide t
  have HB0 : Hid (Below X.heap.size X (X.alloc (.cells #[.int .i64 5, .bool sec, .int .u64 (x : Int), .int .i64 n, bv] 42))) := below_alloc' (Below.refl _ _) _
  have HX0 := hide (h.below HB0.out)
  have HBX : Hid ((X.alloc (.cells #[.int .i64 5, .bool sec, .int .u64 (x : Int), .int .i64 n, bv] 42)).heap[X.heap.size]? = some (.cells #[.int .i64 5, .bool sec, .int .u64 (x : Int), .int .i64 n, bv] 42 (0, 0))) := heap_new _ _
  have hpX : (f p).b < X.heap.size := lt_of_heap (h.prog t).hb
  have hrX : (f r).b < X.heap.size := lt_of_heap (h.ref t).hb
  have HVP : Hid ((f p).v.ownBlock ≠ some X.heap.size) := fun e => by have := (h.prog t).lt _ e; omega
  have HVR : Hid ((f r).v.ownBlock ≠ some X.heap.size) := fun e => by have := (h.ref t).lt _ e; omega
  have HSU : Hid (SumsAt (X.alloc (.cells #[.int .i64 5, .bool sec, .int .u64 (x : Int), .int .i64 n, bv] 42))) := hs.below HX0.out.bel
  have HBY : Hid (Byt bs) := hide (by have := h.by' p t.p4; rw [t.bp] at this; exact this)
  have HBV := hide hb
  have HBB := hide hbb
  obtain ⟨ba, bc, rfl⟩ : ∃ ao c, bv = .slice ao b.length c := by obtain ⟨ao, c, h, _⟩ := hb; exact ⟨ao, c, h⟩
  have HPW : Hid (∀ W, WX W 69 (f p).b (f p).v bs → Calls Tryd.prog 23 _ W _) := fun W hW => wlen_any W 0 (f p).b (f p).v bs hW.prog
  obtain ⟨pb, hpb⟩ : ∃ pb, pb = (f p).b := ⟨_, rfl⟩
  obtain ⟨rb, hrb⟩ : ∃ rb, rb = (f r).b := ⟨_, rfl⟩
  have HPB := hide hpb
  have HRB := hide hrb
  obtain ⟨ra, rc, hrv⟩ := own_shape (h.ref t).own
  have c0 := cell_of (HX0.out.ref t).hb (i := 0) rfl
  rw [hrv, ← hrb] at c0
  have HRV := hide hrv
  have HRR : Hid (∀ W, WX W 54 (f r).b (f r).v bs → RowAt .u8 W (.slice ra bs.length rc) bs) := fun W hW => by rw [← hrv]; exact RowAt.of_owns hW.own
  obtain ⟨L, hL⟩ : ∃ L, L = bs.length := ⟨_, rfl⟩
  have HL := hide hL
  rw [← hpb] at hpX HPW ⊢
  rw [← hrb] at hrX ⊢
  rw [← hL] at c0 HPW HRR
  clear h t hb hbb hpb hrb hs hrv hL
  go_enter Tryd.func30, Tryd.ntmps30
  go_wp2_with fail
  go_quiet ((go_at_call 23; refine Calls.quiet_of_same (HPW.out _ (by rw [HPB.out]; first | exact HX0.out.prog T.out | exact (HX0.out.prog T.out).below (below_drewN (Below.refl _ _) _)))))
  go_wp2
  go_ret
  have hq : RW w X f p r bs (10 + b.length) (.returned (.bool true)) ((X.alloc (.cells #[.int .i64 5, .bool sec, .int .u64 (x : Int), .int .i64 n, .slice ba b.length bc] 42)).drewN nq) := ⟨rfl, _, _, _, ws_same (HX0.out.below (below_drewN (Below.refl _ _) _)) T.out, by omega⟩
  first
    | exact hq
    | exact (show ∀ q : Bool, q = true → RW w X f p r bs (10 + b.length) (.returned (.bool q)) ((X.alloc (.cells #[.int .i64 5, .bool sec, .int .u64 (x : Int), .int .i64 n, .slice ba b.length bc] 42)).drewN nq) from fun q hq' => by subst hq'; exact hq) _ (by simp)
set_option maxRecDepth 100000 in
set_option maxHeartbeats 2000000 in
theorem writes_out (h : WS w X f) (t : Two f p r bs) (hx : x < 18446744073709551616) (hb : RowAt .u8 w bv b) (hbb : Byt b) (hlen : bs.length + b.length ≤ 90000000000000) (hs : SumsAt w) :
    Calls Tryd.prog 30 #[.agg #[.int .i64 6, .bool sec, .int .u64 (x : Int), .int .i64 n, bv], .pointer (some ⟨(f p).b, 0, none⟩), .pointer (some ⟨(f r).b, 0, none⟩)] X (RW w X f p r bs (10 + b.length)) := by
  have T := hide t
  have HB0 : Hid (Below X.heap.size X (X.alloc (.cells #[.int .i64 6, .bool sec, .int .u64 (x : Int), .int .i64 n, bv] 42))) := below_alloc' (Below.refl _ _) _
  have HX0 := hide (h.below HB0.out)
  have HBX : Hid ((X.alloc (.cells #[.int .i64 6, .bool sec, .int .u64 (x : Int), .int .i64 n, bv] 42)).heap[X.heap.size]? = some (.cells #[.int .i64 6, .bool sec, .int .u64 (x : Int), .int .i64 n, bv] 42 (0, 0))) := heap_new _ _
  have hpX : (f p).b < X.heap.size := lt_of_heap (h.prog t).hb
  have hrX : (f r).b < X.heap.size := lt_of_heap (h.ref t).hb
  have HVP : Hid ((f p).v.ownBlock ≠ some X.heap.size) := fun e => by have := (h.prog t).lt _ e; omega
  have HVR : Hid ((f r).v.ownBlock ≠ some X.heap.size) := fun e => by have := (h.ref t).lt _ e; omega
  have HSU : Hid (SumsAt (X.alloc (.cells #[.int .i64 6, .bool sec, .int .u64 (x : Int), .int .i64 n, bv] 42))) := hs.below HX0.out.bel
  have HBY : Hid (Byt bs) := hide (by have := h.by' p t.p4; rw [t.bp] at this; exact this)
  have HBV := hide hb
  have HBB := hide hbb
  obtain ⟨ba, bc, rfl⟩ : ∃ ao c, bv = .slice ao b.length c := by obtain ⟨ao, c, h, _⟩ := hb; exact ⟨ao, c, h⟩
  have HPW : Hid (∀ W, WX W 69 (f p).b (f p).v bs → Calls Tryd.prog 15 _ W _) := fun W hW => out_any W 0 (f p).b (f p).v bs hW.prog (by omega)
  have HSA : Hid (∀ v1 v2 W, RowAt .u8 W v1 bs → RowAt .u8 W v2 bs → Calls Tryd.prog 28 _ W _) := fun v1 v2 W h1 h2 => same_any v1 v2 bs W h1 h2
  obtain ⟨pb, hpb⟩ : ∃ pb, pb = (f p).b := ⟨_, rfl⟩
  obtain ⟨rb, hrb⟩ : ∃ rb, rb = (f r).b := ⟨_, rfl⟩
  have HPB := hide hpb
  have HRB := hide hrb
  obtain ⟨ra, rc, hrv⟩ := own_shape (h.ref t).own
  have c0 := cell_of (HX0.out.ref t).hb (i := 0) rfl
  rw [hrv, ← hrb] at c0
  have HRV := hide hrv
  have HRR : Hid (∀ W, WX W 54 (f r).b (f r).v bs → RowAt .u8 W (.slice ra bs.length rc) bs) := fun W hW => by rw [← hrv]; exact RowAt.of_owns hW.own
  obtain ⟨L, hL⟩ : ∃ L, L = bs.length := ⟨_, rfl⟩
  have HL := hide hL
  rw [← hpb] at hpX HPW ⊢
  rw [← hrb] at hrX ⊢
  rw [← hL] at c0 HPW HRR
  clear h t hb hbb hpb hrb hs hrv hL
  go_enter Tryd.func30, Tryd.ntmps30
  go_wp2_with fail
  go_region_held3 (fun Z => Z.cell? ⟨rb, 0, none⟩ = some (.slice ra L rc))
    (first | go_keep | exact QK2.out | exact QK.out)
    ((first
      | (go_at_call 15; refine (HPW.out _ (by rw [HPB.out]; exact (HX0.out.prog T.out).below (Below.refl _ _).drew)).mono ?_; rintro e w1 ⟨ao, c1, rfl, hrow, hb1⟩; have HX1 := hide ((HX0.out.below (Below.refl _ _).drew).below hb1); have HR1 := hide hrow; have QK : Hid (w1.cell? ⟨rb, 0, none⟩ = some (.slice ra L rc)) := hide (by have h9 := cell_of (HX1.out.ref T.out).hb (i := 0) rfl; rw [HRV.out, ← HL.out, ← HRB.out] at h9; exact h9); clear hrow hb1)
      | (go_at_call 28; refine (HSA.out _ _ _ HR1.out (HRR.out _ (HX1.out.ref T.out))).mono ?_; rintro e w2 ⟨rfl, hb2⟩; have HS2 := hide (ws_same (HX1.out.below hb2) T.out); have QK2 : Hid (w2.cell? ⟨rb, 0, none⟩ = some (.slice ra L rc)) := hide (by have h9 := cell_of ((HX1.out.below hb2).ref T.out).hb (i := 0) rfl; rw [HRV.out, ← HL.out, ← HRB.out] at h9; exact h9); clear hb2)))
  have HLN : Hid (bs.length ≤ bs.length + (10 + b.length)) := hide (by omega)
  all_goals
    go_wp2
    go_ret
    have hq : RW w X f p r bs (10 + b.length) (.returned (.bool true)) w2 := ⟨rfl, _, _, _, HS2.out, HLN.out⟩
    first
      | exact hq
      | exact (show ∀ q : Bool, q = true → RW w X f p r bs (10 + b.length) (.returned (.bool q)) w2 from fun q hq' => by subst hq'; exact hq) _ (by simp)
set_option maxRecDepth 100000 in
set_option maxHeartbeats 2000000 in
theorem writes_else (h : WS w X f) (t : Two f p r bs) (hx : x < 18446744073709551616) (hb : RowAt .u8 w bv b) (hbb : Byt b) (hlen : bs.length + b.length ≤ 90000000000000) (hs : SumsAt w) (hk : ¬ (1 ≤ kind ∧ kind ≤ 6)) :
    Calls Tryd.prog 30 #[.agg #[.int .i64 kind, .bool sec, .int .u64 (x : Int), .int .i64 n, bv], .pointer (some ⟨(f p).b, 0, none⟩), .pointer (some ⟨(f r).b, 0, none⟩)] X (RW w X f p r bs (10 + b.length)) := by
  have T := hide t
  have HB0 : Hid (Below X.heap.size X (X.alloc (.cells #[.int .i64 kind, .bool sec, .int .u64 (x : Int), .int .i64 n, bv] 42))) := below_alloc' (Below.refl _ _) _
  have HX0 := hide (h.below HB0.out)
  have HBX : Hid ((X.alloc (.cells #[.int .i64 kind, .bool sec, .int .u64 (x : Int), .int .i64 n, bv] 42)).heap[X.heap.size]? = some (.cells #[.int .i64 kind, .bool sec, .int .u64 (x : Int), .int .i64 n, bv] 42 (0, 0))) := heap_new _ _
  have hpX : (f p).b < X.heap.size := lt_of_heap (h.prog t).hb
  have hrX : (f r).b < X.heap.size := lt_of_heap (h.ref t).hb
  have HVP : Hid ((f p).v.ownBlock ≠ some X.heap.size) := fun e => by have := (h.prog t).lt _ e; omega
  have HVR : Hid ((f r).v.ownBlock ≠ some X.heap.size) := fun e => by have := (h.ref t).lt _ e; omega
  have HSU : Hid (SumsAt (X.alloc (.cells #[.int .i64 kind, .bool sec, .int .u64 (x : Int), .int .i64 n, bv] 42))) := hs.below HX0.out.bel
  have HBY : Hid (Byt bs) := hide (by have := h.by' p t.p4; rw [t.bp] at this; exact this)
  have HBV := hide hb
  have HBB := hide hbb
  obtain ⟨ba, bc, rfl⟩ : ∃ ao c, bv = .slice ao b.length c := by obtain ⟨ao, c, h, _⟩ := hb; exact ⟨ao, c, h⟩
  have k1 : ¬ kind = 1 := by omega
  have k2 : ¬ kind = 2 := by omega
  have k3 : ¬ kind = 3 := by omega
  have k4 : ¬ kind = 4 := by omega
  have k5 : ¬ kind = 5 := by omega
  have k6 : ¬ kind = 6 := by omega
  clear h t hb hbb hk hs
  go_enter Tryd.func30, Tryd.ntmps30
  go_wp2
  go_ret
  exact ⟨rfl, _, _, _, ws_same HX0.out T.out, by omega⟩
end
end Go.Proofs.YtpfpelhhebafeaaDoor
