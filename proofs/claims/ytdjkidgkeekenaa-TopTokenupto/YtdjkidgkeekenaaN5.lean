/- Over, Tell and Step of any node. -/
import Derived.Test.YtdjkidgkeekenaaN4
import Derived.Test.YtdjkidgkeekenaaK12
import Derived.Test.YtdjkidgkeekenaaMade
namespace Go.Proofs.Ytdjkidgkeekenaa
open Go.RowKit Go.Lib
set_option linter.unusedVariables false
set_option linter.unusedSimpArgs false
theorem nx_shape {ph : Nat} (h : ph ≤ 11) : (ph = 0 ∧ nxF ph = .nilFunc) ∨ (¬ ph = 0 ∧ ∃ k, nxF ph = .func (.func k) #[] #[]) := by
  rcases (show ph = 0 ∨ ph = 1 ∨ ph = 2 ∨ ph = 3 ∨ ph = 4 ∨ ph = 5 ∨ ph = 6 ∨ ph = 7 ∨ ph = 8 ∨ ph = 9 ∨ ph = 10 ∨ ph = 11 by omega) with rfl | rfl | rfl | rfl | rfl | rfl | rfl | rfl | rfl | rfl | rfl | rfl
  · exact .inl ⟨rfl, rfl⟩
  all_goals exact .inr ⟨by decide, _, rfl⟩
section
variable {w : World} {q p : Nat} {d : Nd} {sv : Value} {x : Int} {P : World → Prop}
set_option maxRecDepth 100000 in
theorem over_nd (h : w.heap[q]? = some (d.obj sv)) (hp : d.ph ≤ 11) : Calls Try.prog 35 #[.pointer (some ⟨q, 0, none⟩)] w fun e w' => e = .returned (.bool (decide (d.ph = 0))) ∧ w' = w := by
  have hpn : ∀ w, (binOp .eql 54 (.pointer (some ⟨q, 0, none⟩)) (.pointer none)).run Try.prog w = .ok (.bool false) w := fun w => rfl
  rcases nx_shape hp with ⟨h0, hn⟩ | ⟨h0, k, hn⟩
  · unfold Nd.obj NObj at h
    rw [hn] at h
    rw [show decide (d.ph = 0) = true by simpa using h0]
    have c9 : w.cell? ⟨q, 9, none⟩ = some .nilFunc := cell_of h rfl
    have hf : ∀ w, (binOp .eql 91 .nilFunc .nilFunc).run Try.prog w = .ok (.bool true) w := fun w => by kernel_rfl
    clear h hp h0 hn
    go_enter Try.func35, Try.ntmps35
    go_wp2
    go_ret
    exact ⟨rfl, rfl⟩
  · unfold Nd.obj NObj at h
    rw [hn] at h
    rw [show decide (d.ph = 0) = false by simpa using h0]
    have c9 : w.cell? ⟨q, 9, none⟩ = some (.func (.func k) #[] #[]) := cell_of h rfl
    have hf : ∀ w, (binOp .eql 91 (.func (.func k) #[] #[]) .nilFunc).run Try.prog w = .ok (.bool false) w := fun w => by kernel_rfl
    clear h hp h0 hn
    go_enter Try.func35, Try.ntmps35
    go_wp2
    go_ret
    exact ⟨rfl, rfl⟩
def Nd.told (d : Nd) : Value := .agg #[.int .i64 d.bal, .bool d.active, .bool d.black, .int .i64 d.sent, .bool (decide (d.ph = 0))]
theorem int_of_wr {x : Int} (h : -4611686018427387904 ≤ x ∧ x ≤ 4611686018427387904) : IntKind.i64.wrap (wr x) = x := by
  have e2 : wr x = x % 18446744073709551616 := rfl
  have e : ∀ m, IntKind.i64.wrap m = if m % 18446744073709551616 ≥ 9223372036854775808 then m % 18446744073709551616 - 18446744073709551616 else m % 18446744073709551616 := fun m => by
    simp [IntKind.wrap, IntKind.signed, IntKind.bits]
  rw [e, e2]
  split <;> omega
set_option maxRecDepth 100000 in
set_option maxHeartbeats 4000000 in
theorem tell_nd (h : w.heap[q]? = some (d.obj sv)) (hp : d.ph ≤ 11) (hb : -4611686018427387904 ≤ d.bal ∧ d.bal ≤ 4611686018427387904) : Calls Try.prog 18 #[.pointer (some ⟨q, 0, none⟩)] w fun e w' => e = .returned d.told ∧ Below w.heap.size w w' := by
  have hpn : ∀ w, (binOp .eql 54 (.pointer (some ⟨q, 0, none⟩)) (.pointer none)).run Try.prog w = .ok (.bool false) w := fun w => rfl
  obtain ⟨W, hW⟩ : ∃ W, W = w.alloc (.cells #[.int .i64 0, .bool false, .bool false, .int .i64 0, .bool false] 61) := ⟨_, rfl⟩
  have hbW : Below w.heap.size w W := by rw [hW]; exact below_alloc (Below.refl _ _) _
  have hz : W.heap[w.heap.size]? = some (.cells #[.int .i64 0, .bool false, .bool false, .int .i64 0, .bool false] 61 (0, 0)) := by rw [hW]; exact heap_new w _
  have hB := (hbW.block _ (lt_of_heap h)).trans h
  have hne : ¬ q = w.heap.size := by have := lt_of_heap h; omega
  have hne2 : ¬ w.heap.size = q := by omega
  have HO := hide (fun X (k : Below W.heap.size W X) => over_nd (q := q) ((k.block _ (lt_of_heap hB)).trans hB) hp)
  have hq := hB
  unfold Nd.obj NObj at hq
  have HBL := hide (int_of_wr hb)
  have hkp : ∀ X, Below W.heap.size W X → (X.cell? ⟨q, 3, none⟩ = some (.int .u64 (wr d.bal)) ∧ X.cell? ⟨q, 0, none⟩ = some (.bool d.active) ∧ X.cell? ⟨q, 4, none⟩ = some (.bool d.black) ∧ X.cell? ⟨q, 2, none⟩ = some (.int .i64 d.sent)) := fun X hX => by
    have q := (hX.block _ (lt_of_heap hq)).trans hq
    exact ⟨cell_of q rfl, cell_of q rfl, cell_of q rfl, cell_of q rfl⟩
  obtain ⟨c0, c2, c3, c4⟩ := hkp W (Below.refl _ _)
  have HBW := hide hbW
  have HZ := hide hz
  unfold Nd.told
  generalize decide (d.ph = 0) = over at HO ⊢
  generalize d.bal = bal at HBL c0 hkp ⊢
  generalize wr bal = wb at HBL c0 hkp
  have hcv := HBL.out
  have e0 := cell_of hz (i := 0) rfl; have e1 := cell_of hz (i := 1) rfl; have e2 := cell_of hz (i := 2) rfl; have e3 := cell_of hz (i := 3) rfl; have e4 := cell_of hz (i := 4) rfl
  have f0 := free_of hz 0; have f1 := free_of hz 1; have f2 := free_of hz 2; have f3 := free_of hz 3; have f4 := free_of hz 4
  clear hbW hz hB hq h hkp hp hb
  go_enter Try.func18, Try.ntmps18
  go_wp2_with fail
  rw [← hW]
  clear hW
  refine wp_region_noPanic ?_
  go_region_held3 (fun x => x.cell? ⟨q, 3, none⟩ = some (.int .u64 wb) ∧ x.cell? ⟨q, 0, none⟩ = some (.bool d.active) ∧ x.cell? ⟨q, 4, none⟩ = some (.bool d.black) ∧ x.cell? ⟨q, 2, none⟩ = some (.int .i64 d.sent)) (first | with_reducible exact ⟨c0, c2, c3, c4⟩ | go_keep)
    (first
      | (go_at_call 35; refine (HO.out _ (below_drew (Below.refl _ _))).mono ?_; rintro e w4 ⟨rfl, rfl⟩)
      | fail)
  all_goals
    refine NoPanic.normal ?_
    obtain ⟨hwf, hL⟩ := told_end (B := 0) HBW.out HZ.out (.int .i64 bal) (.bool d.active) (.bool d.black) (.int .i64 d.sent) (.bool over)
    have HWF := hide (show ((((((W.setCell ⟨w.heap.size, 0, none⟩ (.int .i64 bal)).setCell ⟨w.heap.size, 1, none⟩ (.bool d.active)).setCell ⟨w.heap.size, 2, none⟩ (.bool d.black)).setCell ⟨w.heap.size, 3, none⟩ (.int .i64 d.sent)).setCell ⟨w.heap.size, 4, none⟩ (.bool over)).drew).heap[w.heap.size]? = some (.cells #[.int .i64 bal, .bool d.active, .bool d.black, .int .i64 d.sent, .bool over] 61 (0, 0)) by rw [heap_drew]; exact hwf)
    have HLL := hide hL.drew
    generalize ((((((W.setCell ⟨w.heap.size, 0, none⟩ (.int .i64 bal)).setCell ⟨w.heap.size, 1, none⟩ (.bool d.active)).setCell ⟨w.heap.size, 2, none⟩ (.bool d.black)).setCell ⟨w.heap.size, 3, none⟩ (.int .i64 d.sent)).setCell ⟨w.heap.size, 4, none⟩ (.bool over)).drew) = wf at HWF HLL ⊢
    clear hL hwf
    go_wp2
    exact bodyPost_ret (results_cell_row Try.results18' _ wf w.heap.size 61 _ (0, 0) _ rfl HWF.out Try.underlying61 rfl (by kernel_rfl)) rfl ⟨rfl, HLL.out⟩
end
/-- Ready for a step. -/
structure NRdy (w : World) (Y b gc p : Nat) (lv : Value) (s : Ast) (q : Nat) (d : Nd) (sv : Value) (lo n K : Nat) : Prop where
  ar : AIs w Y b gc lv s
  po : w.heap[p]? = some (PObj b d.who true)
  pl : lv.ownBlock ≠ some p
  nd : w.heap[q]? = some (d.obj sv)
  ql : lv.ownBlock ≠ some q
  sd : Snd w lo sv d.sends
  sl : ∀ g, sv.ownBlock = some g → lv.ownBlock ≠ some g
  go : s.stopped = false
  len : s.cells.length = 4 + n
  c0 : 0 ≤ s.count
  c1 : s.count < 9223372036854775807
  big : (s.log.length + 1) * 64 ≤ 140737488355328
  wf : ∃ j, Wf n j K d
theorem ne_ty {w : World} {a c : Nat} {x y : Array Value} {s t : TypeId} (h : w.heap[a]? = some (.cells x s (0, 0))) (k : w.heap[c]? = some (.cells y t (0, 0))) (e : s ≠ t) : a ≠ c := by
  rintro rfl
  rw [h] at k
  exact e (Obj.cells.inj (Option.some.inj k)).2.1
theorem AccPost.under {w X w2 : World} {Y b gc p : Nat} {lv : Value} {s : Ast} {who : Int} {i : Nat} {m : Acc} (hb : Below w.heap.size w X) (h : AccPost X w2 Y b gc p lv s who i m) : AccPost w w2 Y b gc p lv s who i m := by
  obtain ⟨lv', h1, h2, h3, h4⟩ := h
  refine ⟨lv', h1, h2.imp id (fun ⟨g, e, hg⟩ => ⟨g, e, Nat.le_trans hb.size hg⟩), h3, (Chg.of_below hb).trans h4⟩
/-- What a step has made. -/
def NPost (w w' : World) (Y b gc p : Nat) (lv : Value) (s : Ast) (q : Nat) (d : Nd) (sv : Value) : Prop :=
  ∃ lv', AIs w' Y b gc lv' (s.made d.cell (d.acc (nth s.cells d.cell))) ∧ (lv'.ownBlock = lv.ownBlock ∨ ∃ g, lv'.ownBlock = some g ∧ w.heap.size ≤ g) ∧ w'.heap[p]? = some (PObj b d.who false) ∧ w'.heap[q]? = some ((d.next (nth s.cells d.cell)).obj sv) ∧ Chg (fun k => accSet b gc p lv k ∨ k = q) w w'
section
variable {w : World} {Y b gc p q lo n K : Nat} {lv sv : Value} {s : Ast} {d : Nd}
theorem NRdy.qne (h : NRdy w Y b gc p lv s q d sv lo n K) : q ≠ b ∧ q ≠ gc ∧ q ≠ p :=
  ⟨ne_ty h.nd h.ar.hb (by decide), ne_ty h.nd h.ar.hc (by decide), ne_ty h.nd h.po (by decide)⟩
theorem NRdy.ready (h : NRdy w Y b gc p lv s q d sv lo n K) {X : World} (hb : Below w.heap.size w X) : Ready X Y b gc p lv s d.who d.cell := by
  obtain ⟨j, hw⟩ := h.wf
  exact ⟨h.ar.below hb, (hb.block _ (lt_of_heap h.po)).trans h.po, ne_ty h.po h.ar.hb (by decide), ne_ty h.po h.ar.hc (by decide), h.pl, h.go, by rw [h.len]; exact hw.cell, h.c0, h.c1, h.big⟩
theorem NRdy.keepq (h : NRdy w Y b gc p lv s q d sv lo n K) {w2 : World} {i : Nat} {m : Acc} (hp : AccPost w w2 Y b gc p lv s d.who i m) : w2.heap[q]? = some (d.obj sv) := by
  obtain ⟨lv', h1, h2, h3, h4⟩ := hp
  obtain ⟨e1, e2, e3⟩ := h.qne
  exact h4.heap h.nd (fun hS => by
    rcases hS with e | e | e | e
    · exact e1 e
    · exact e2 e
    · exact e3 e
    · exact h.ql e)
theorem NRdy.keeps (h : NRdy w Y b gc p lv s q d sv lo n K) {w2 : World} {i : Nat} {m : Acc} (hp : AccPost w w2 Y b gc p lv s d.who i m) : RowAt .i64 w2 sv d.sends := by
  obtain ⟨lv', h1, h2, h3, h4⟩ := hp
  refine (h.sd.stay fun g hg => ?_).row
  obtain ⟨cs, ht⟩ := h.sd.typ hg
  refine h4.block g (lt_of_heap ht) (fun hS => ?_)
  rcases hS with e | e | e | e
  · exact ne_ty ht h.ar.hb (by decide) e
  · exact ne_ty ht h.ar.hc (by decide) e
  · exact ne_ty ht h.po (by decide) e
  · exact h.sl g hg e
theorem StN.post {w' : World} {m : Acc} (hm : m = d.acc (nth s.cells d.cell)) (h : StN (fun w2 => AccPost w w2 Y b gc p lv s d.who d.cell m) q ((d.next (nth s.cells d.cell)).obj sv) w') (hr : NRdy w Y b gc p lv s q d sv lo n K) : NPost w w' Y b gc p lv s q d sv := by
  subst hm
  obtain ⟨w2, ⟨lv', h1, h2, h3, h4⟩, h5, h6⟩ := h
  obtain ⟨e1, e2, e3⟩ := hr.qne
  refine ⟨lv', h1.kept h6 (fun e => e1 e.symm) (fun e => e2 e.symm) (fun k hk e => ?_), h2, h6.heap h3 (fun e => e3 e.symm), h5, (h4.mono fun k hk => .inl hk).trans (h6.mono fun k hk => .inr hk)⟩
  rcases h2 with g | ⟨g, hg, hl⟩
  · exact hr.ql (by rw [← g, hk, e])
  · rw [hg] at hk
    cases hk
    have := lt_of_heap hr.nd
    omega
set_option maxRecDepth 100000 in
theorem step_by50 {Q : World → Prop} (c9 : w.cell? ⟨q, 9, none⟩ = some (.func (.func 31) #[] #[])) (HOV : Hid (Calls Try.prog 35 #[.pointer (some ⟨q, 0, none⟩)] w fun e w' => e = .returned (.bool false) ∧ w' = w))
    (HC : Hid (Calls Try.prog 31 #[.pointer (some ⟨q, 0, none⟩), .pointer (some ⟨p, 0, none⟩)] w fun e w' => e = .returned (.tuple #[]) ∧ Q w')) : Calls Try.prog 97 #[.pointer (some ⟨q, 0, none⟩), .pointer (some ⟨p, 0, none⟩)] w fun e w' => e = .returned (.tuple #[]) ∧ Q w' := by
  go_enter Try.func97, Try.ntmps97
  go_wp2_with fail
  refine HOV.out.mono ?_
  rintro e w1 ⟨rfl, rfl⟩
  go_wp2_with fail
  refine HC.out.mono ?_
  rintro e w2 ⟨rfl, hp⟩
  have HP := hide hp
  clear hp
  go_wp2_with fail
  first | go_end0 | refine bodyPost_ret (results_none rfl _ _ _) rfl ?_
  exact ⟨rfl, HP.out⟩
set_option maxRecDepth 100000 in
theorem step_by59 {Q : World → Prop} (c9 : w.cell? ⟨q, 9, none⟩ = some (.func (.func 45) #[] #[])) (HOV : Hid (Calls Try.prog 35 #[.pointer (some ⟨q, 0, none⟩)] w fun e w' => e = .returned (.bool false) ∧ w' = w))
    (HC : Hid (Calls Try.prog 45 #[.pointer (some ⟨q, 0, none⟩), .pointer (some ⟨p, 0, none⟩)] w fun e w' => e = .returned (.tuple #[]) ∧ Q w')) : Calls Try.prog 97 #[.pointer (some ⟨q, 0, none⟩), .pointer (some ⟨p, 0, none⟩)] w fun e w' => e = .returned (.tuple #[]) ∧ Q w' := by
  go_enter Try.func97, Try.ntmps97
  go_wp2_with fail
  refine HOV.out.mono ?_
  rintro e w1 ⟨rfl, rfl⟩
  go_wp2_with fail
  refine HC.out.mono ?_
  rintro e w2 ⟨rfl, hp⟩
  have HP := hide hp
  clear hp
  go_wp2_with fail
  first | go_end0 | refine bodyPost_ret (results_none rfl _ _ _) rfl ?_
  exact ⟨rfl, HP.out⟩
set_option maxRecDepth 100000 in
theorem step_by60 {Q : World → Prop} (c9 : w.cell? ⟨q, 9, none⟩ = some (.func (.func 46) #[] #[])) (HOV : Hid (Calls Try.prog 35 #[.pointer (some ⟨q, 0, none⟩)] w fun e w' => e = .returned (.bool false) ∧ w' = w))
    (HC : Hid (Calls Try.prog 46 #[.pointer (some ⟨q, 0, none⟩), .pointer (some ⟨p, 0, none⟩)] w fun e w' => e = .returned (.tuple #[]) ∧ Q w')) : Calls Try.prog 97 #[.pointer (some ⟨q, 0, none⟩), .pointer (some ⟨p, 0, none⟩)] w fun e w' => e = .returned (.tuple #[]) ∧ Q w' := by
  go_enter Try.func97, Try.ntmps97
  go_wp2_with fail
  refine HOV.out.mono ?_
  rintro e w1 ⟨rfl, rfl⟩
  go_wp2_with fail
  refine HC.out.mono ?_
  rintro e w2 ⟨rfl, hp⟩
  have HP := hide hp
  clear hp
  go_wp2_with fail
  first | go_end0 | refine bodyPost_ret (results_none rfl _ _ _) rfl ?_
  exact ⟨rfl, HP.out⟩
set_option maxRecDepth 100000 in
theorem step_by74 {Q : World → Prop} (c9 : w.cell? ⟨q, 9, none⟩ = some (.func (.func 62) #[] #[])) (HOV : Hid (Calls Try.prog 35 #[.pointer (some ⟨q, 0, none⟩)] w fun e w' => e = .returned (.bool false) ∧ w' = w))
    (HC : Hid (Calls Try.prog 62 #[.pointer (some ⟨q, 0, none⟩), .pointer (some ⟨p, 0, none⟩)] w fun e w' => e = .returned (.tuple #[]) ∧ Q w')) : Calls Try.prog 97 #[.pointer (some ⟨q, 0, none⟩), .pointer (some ⟨p, 0, none⟩)] w fun e w' => e = .returned (.tuple #[]) ∧ Q w' := by
  go_enter Try.func97, Try.ntmps97
  go_wp2_with fail
  refine HOV.out.mono ?_
  rintro e w1 ⟨rfl, rfl⟩
  go_wp2_with fail
  refine HC.out.mono ?_
  rintro e w2 ⟨rfl, hp⟩
  have HP := hide hp
  clear hp
  go_wp2_with fail
  first | go_end0 | refine bodyPost_ret (results_none rfl _ _ _) rfl ?_
  exact ⟨rfl, HP.out⟩
set_option maxRecDepth 100000 in
theorem step_by73 {Q : World → Prop} (c9 : w.cell? ⟨q, 9, none⟩ = some (.func (.func 61) #[] #[])) (HOV : Hid (Calls Try.prog 35 #[.pointer (some ⟨q, 0, none⟩)] w fun e w' => e = .returned (.bool false) ∧ w' = w))
    (HC : Hid (Calls Try.prog 61 #[.pointer (some ⟨q, 0, none⟩), .pointer (some ⟨p, 0, none⟩)] w fun e w' => e = .returned (.tuple #[]) ∧ Q w')) : Calls Try.prog 97 #[.pointer (some ⟨q, 0, none⟩), .pointer (some ⟨p, 0, none⟩)] w fun e w' => e = .returned (.tuple #[]) ∧ Q w' := by
  go_enter Try.func97, Try.ntmps97
  go_wp2_with fail
  refine HOV.out.mono ?_
  rintro e w1 ⟨rfl, rfl⟩
  go_wp2_with fail
  refine HC.out.mono ?_
  rintro e w2 ⟨rfl, hp⟩
  have HP := hide hp
  clear hp
  go_wp2_with fail
  first | go_end0 | refine bodyPost_ret (results_none rfl _ _ _) rfl ?_
  exact ⟨rfl, HP.out⟩
set_option maxRecDepth 100000 in
theorem step_by84 {Q : World → Prop} (c9 : w.cell? ⟨q, 9, none⟩ = some (.func (.func 72) #[] #[])) (HOV : Hid (Calls Try.prog 35 #[.pointer (some ⟨q, 0, none⟩)] w fun e w' => e = .returned (.bool false) ∧ w' = w))
    (HC : Hid (Calls Try.prog 72 #[.pointer (some ⟨q, 0, none⟩), .pointer (some ⟨p, 0, none⟩)] w fun e w' => e = .returned (.tuple #[]) ∧ Q w')) : Calls Try.prog 97 #[.pointer (some ⟨q, 0, none⟩), .pointer (some ⟨p, 0, none⟩)] w fun e w' => e = .returned (.tuple #[]) ∧ Q w' := by
  go_enter Try.func97, Try.ntmps97
  go_wp2_with fail
  refine HOV.out.mono ?_
  rintro e w1 ⟨rfl, rfl⟩
  go_wp2_with fail
  refine HC.out.mono ?_
  rintro e w2 ⟨rfl, hp⟩
  have HP := hide hp
  clear hp
  go_wp2_with fail
  first | go_end0 | refine bodyPost_ret (results_none rfl _ _ _) rfl ?_
  exact ⟨rfl, HP.out⟩
set_option maxRecDepth 100000 in
theorem step_by87 {Q : World → Prop} (c9 : w.cell? ⟨q, 9, none⟩ = some (.func (.func 74) #[] #[])) (HOV : Hid (Calls Try.prog 35 #[.pointer (some ⟨q, 0, none⟩)] w fun e w' => e = .returned (.bool false) ∧ w' = w))
    (HC : Hid (Calls Try.prog 74 #[.pointer (some ⟨q, 0, none⟩), .pointer (some ⟨p, 0, none⟩)] w fun e w' => e = .returned (.tuple #[]) ∧ Q w')) : Calls Try.prog 97 #[.pointer (some ⟨q, 0, none⟩), .pointer (some ⟨p, 0, none⟩)] w fun e w' => e = .returned (.tuple #[]) ∧ Q w' := by
  go_enter Try.func97, Try.ntmps97
  go_wp2_with fail
  refine HOV.out.mono ?_
  rintro e w1 ⟨rfl, rfl⟩
  go_wp2_with fail
  refine HC.out.mono ?_
  rintro e w2 ⟨rfl, hp⟩
  have HP := hide hp
  clear hp
  go_wp2_with fail
  first | go_end0 | refine bodyPost_ret (results_none rfl _ _ _) rfl ?_
  exact ⟨rfl, HP.out⟩
set_option maxRecDepth 100000 in
theorem step_by91 {Q : World → Prop} (c9 : w.cell? ⟨q, 9, none⟩ = some (.func (.func 78) #[] #[])) (HOV : Hid (Calls Try.prog 35 #[.pointer (some ⟨q, 0, none⟩)] w fun e w' => e = .returned (.bool false) ∧ w' = w))
    (HC : Hid (Calls Try.prog 78 #[.pointer (some ⟨q, 0, none⟩), .pointer (some ⟨p, 0, none⟩)] w fun e w' => e = .returned (.tuple #[]) ∧ Q w')) : Calls Try.prog 97 #[.pointer (some ⟨q, 0, none⟩), .pointer (some ⟨p, 0, none⟩)] w fun e w' => e = .returned (.tuple #[]) ∧ Q w' := by
  go_enter Try.func97, Try.ntmps97
  go_wp2_with fail
  refine HOV.out.mono ?_
  rintro e w1 ⟨rfl, rfl⟩
  go_wp2_with fail
  refine HC.out.mono ?_
  rintro e w2 ⟨rfl, hp⟩
  have HP := hide hp
  clear hp
  go_wp2_with fail
  first | go_end0 | refine bodyPost_ret (results_none rfl _ _ _) rfl ?_
  exact ⟨rfl, HP.out⟩
set_option maxRecDepth 100000 in
theorem step_by93 {Q : World → Prop} (c9 : w.cell? ⟨q, 9, none⟩ = some (.func (.func 80) #[] #[])) (HOV : Hid (Calls Try.prog 35 #[.pointer (some ⟨q, 0, none⟩)] w fun e w' => e = .returned (.bool false) ∧ w' = w))
    (HC : Hid (Calls Try.prog 80 #[.pointer (some ⟨q, 0, none⟩), .pointer (some ⟨p, 0, none⟩)] w fun e w' => e = .returned (.tuple #[]) ∧ Q w')) : Calls Try.prog 97 #[.pointer (some ⟨q, 0, none⟩), .pointer (some ⟨p, 0, none⟩)] w fun e w' => e = .returned (.tuple #[]) ∧ Q w' := by
  go_enter Try.func97, Try.ntmps97
  go_wp2_with fail
  refine HOV.out.mono ?_
  rintro e w1 ⟨rfl, rfl⟩
  go_wp2_with fail
  refine HC.out.mono ?_
  rintro e w2 ⟨rfl, hp⟩
  have HP := hide hp
  clear hp
  go_wp2_with fail
  first | go_end0 | refine bodyPost_ret (results_none rfl _ _ _) rfl ?_
  exact ⟨rfl, HP.out⟩
set_option maxRecDepth 100000 in
theorem step_by94 {Q : World → Prop} (c9 : w.cell? ⟨q, 9, none⟩ = some (.func (.func 81) #[] #[])) (HOV : Hid (Calls Try.prog 35 #[.pointer (some ⟨q, 0, none⟩)] w fun e w' => e = .returned (.bool false) ∧ w' = w))
    (HC : Hid (Calls Try.prog 81 #[.pointer (some ⟨q, 0, none⟩), .pointer (some ⟨p, 0, none⟩)] w fun e w' => e = .returned (.tuple #[]) ∧ Q w')) : Calls Try.prog 97 #[.pointer (some ⟨q, 0, none⟩), .pointer (some ⟨p, 0, none⟩)] w fun e w' => e = .returned (.tuple #[]) ∧ Q w' := by
  go_enter Try.func97, Try.ntmps97
  go_wp2_with fail
  refine HOV.out.mono ?_
  rintro e w1 ⟨rfl, rfl⟩
  go_wp2_with fail
  refine HC.out.mono ?_
  rintro e w2 ⟨rfl, hp⟩
  have HP := hide hp
  clear hp
  go_wp2_with fail
  first | go_end0 | refine bodyPost_ret (results_none rfl _ _ _) rfl ?_
  exact ⟨rfl, HP.out⟩
set_option maxRecDepth 100000 in
theorem step_by90 {Q : World → Prop} (c9 : w.cell? ⟨q, 9, none⟩ = some (.func (.func 77) #[] #[])) (HOV : Hid (Calls Try.prog 35 #[.pointer (some ⟨q, 0, none⟩)] w fun e w' => e = .returned (.bool false) ∧ w' = w))
    (HC : Hid (Calls Try.prog 77 #[.pointer (some ⟨q, 0, none⟩), .pointer (some ⟨p, 0, none⟩)] w fun e w' => e = .returned (.tuple #[]) ∧ Q w')) : Calls Try.prog 97 #[.pointer (some ⟨q, 0, none⟩), .pointer (some ⟨p, 0, none⟩)] w fun e w' => e = .returned (.tuple #[]) ∧ Q w' := by
  go_enter Try.func97, Try.ntmps97
  go_wp2_with fail
  refine HOV.out.mono ?_
  rintro e w1 ⟨rfl, rfl⟩
  go_wp2_with fail
  refine HC.out.mono ?_
  rintro e w2 ⟨rfl, hp⟩
  have HP := hide hp
  clear hp
  go_wp2_with fail
  first | go_end0 | refine bodyPost_ret (results_none rfl _ _ _) rfl ?_
  exact ⟨rfl, HP.out⟩
set_option maxRecDepth 100000 in
theorem step_go (h : NRdy w Y b gc p lv s q d sv lo n K) (h0 : d.ph ≠ 0) : Calls Try.prog 97 #[.pointer (some ⟨q, 0, none⟩), .pointer (some ⟨p, 0, none⟩)] w fun e w' => e = .returned (.tuple #[]) ∧ NPost w w' Y b gc p lv s q d sv := by
  obtain ⟨j, hw⟩ := h.wf
  have hlen := hw.len
  have HOV := hide (over_nd (w := w) (q := q) (d := d) (sv := sv) h.nd hw.ph)
  rw [show decide (d.ph = 0) = false by simpa using h0] at HOV
  obtain ⟨so, sc, hsv⟩ := h.sd.row.shape
  have c9 : ∀ f, nxF d.ph = f → w.cell? ⟨q, 9, none⟩ = some f := fun f hf => by
    have hq := h.nd
    unfold Nd.obj NObj at hq
    rw [hf] at hq
    exact cell_of hq rfl
  have rd := fun X (k : Below w.heap.size w X) => h.ready k
  have FIN : ∀ (m : Acc), m = d.acc (nth s.cells d.cell) → ∀ e w', e = Ending.returned (.tuple #[]) ∧ StN (fun w2 => AccPost w w2 Y b gc p lv s d.who d.cell m) q ((d.next (nth s.cells d.cell)).obj sv) w' → e = .returned (.tuple #[]) ∧ NPost w w' Y b gc p lv s q d sv := fun m hm e w' hh => ⟨hh.1, hh.2.post hm h⟩
  have hp := hw.ph
  have hwl := hw.lt
  have hww := hw.who
  have hn64 := hw.n64
  rcases (show d.ph = 1 ∨ d.ph = 2 ∨ d.ph = 3 ∨ d.ph = 4 ∨ d.ph = 5 ∨ d.ph = 6 ∨ d.ph = 7 ∨ d.ph = 8 ∨ d.ph = 9 ∨ d.ph = 10 ∨ d.ph = 11 by omega) with e | e | e | e | e | e | e | e | e | e | e
  · refine step_by50 (c9 _ (by rw [e]; rfl)) HOV (hide ((ph1N so _ sc hsv rfl (by omega) hw.se.1 (by have := hw.se; omega) (hd := e) (HA := fun X k => ?_) (hP := fun w2 hp => h.keepq hp)).mono (FIN _ rfl)))
    have hc : d.cell = 0 := by simp only [Nd.cell, e]
    have r := rd X k
    rw [hc] at r ⊢
    simp only [Nd.acc, e]
    exact (load_made r).mono fun e w' hh => ⟨hh.1, hh.2.under k⟩
  · refine step_by59 (c9 _ (by rw [e]; rfl)) HOV (hide ((ph2N (y := .int .u64 (nth s.cells d.cell)) so _ sc hsv rfl (by omega) hw.se.1 (hw.p2 e).1 ⟨(hw.p2 e).2, by have := hw.le; omega⟩ (by have := hw.tg d.sent.toNat (by have := hw.se; have := hw.p2 e; omega); omega) h.sd.row (fun w2 hp => h.keeps hp) h.nd (hd := e) (HA := fun X k => ?_) (hP := fun w2 hp => h.keepq hp)).mono (FIN _ rfl)))
    have hc : d.cell = d.tgt := by simp only [Nd.cell, e]
    have r := rd X k
    rw [hc] at r ⊢
    simp only [Nd.acc, e]
    have hct : ((d.tgt : Nat) : Int) = 4 + at_ d.sends d.sent.toNat := by
      have := hw.tg d.sent.toNat (by have := hw.se; have := hw.p2 e; omega)
      unfold Nd.tgt; omega
    rw [← hct]
    exact (add_made 1 r).mono fun e w' hh => ⟨hh.1, hh.2.under k⟩
  · refine step_by60 (c9 _ (by rw [e]; rfl)) HOV (hide ((ph3N (by omega) h.nd (hd := e) (HA := fun X k => ?_) (hP := fun w2 hp => h.keepq hp)).mono (FIN _ rfl)))
    have hc : d.cell = 4 + d.who := by simp only [Nd.cell, e]
    have r := rd X k
    rw [hc] at r ⊢
    simp only [Nd.acc, e]
    have hct : (((4 + d.who : Nat)) : Int) = 4 + (d.who : Int) := by omega
    rw [← hct]
    exact (load_made r).mono fun e w' hh => ⟨hh.1, hh.2.under k⟩
  · refine step_by74 (c9 _ (by rw [e]; rfl)) HOV (hide ((ph4N so _ sc hsv rfl (by omega) (by omega) ⟨hw.p4 e, hw.m.2⟩ hw.le hw.bu h.nd (hd := e) (HA := fun X k => ?_) (hP := fun w2 hp => h.keepq hp)).mono (FIN _ rfl)))
    have hc : d.cell = 4 + d.who := by simp only [Nd.cell, e]
    have r := rd X k
    rw [hc] at r ⊢
    simp only [Nd.acc, e]
    have hct : (((4 + d.who : Nat)) : Int) = 4 + (d.who : Int) := by omega
    rw [← hct]
    exact (cas_made d.m (d.m - 1) r).mono fun e w' hh => ⟨hh.1, hh.2.under k⟩
  · refine step_by73 (c9 _ (by rw [e]; rfl)) HOV (hide ((ph5N (by omega) h.nd (hd := e) (HA := fun X k => ?_) (hP := fun w2 hp => h.keepq hp)).mono (FIN _ rfl)))
    have hc : d.cell = 1 := by simp only [Nd.cell, e]
    have r := rd X k
    rw [hc] at r ⊢
    simp only [Nd.acc, e]
    exact (load_made r).mono fun e w' hh => ⟨hh.1, hh.2.under k⟩
  · refine step_by84 (c9 _ (by rw [e]; rfl)) HOV (hide ((ph6N (hd := e) (HA := fun X k => ?_) (hP := fun w2 hp => h.keepq hp)).mono (FIN _ rfl)))
    have hc : d.cell = 2 := by simp only [Nd.cell, e]
    have r := rd X k
    rw [hc] at r ⊢
    simp only [Nd.acc, e]
    exact (load_made r).mono fun e w' hh => ⟨hh.1, hh.2.under k⟩
  · refine step_by87 (c9 _ (by rw [e]; rfl)) HOV (hide ((ph7N (hw.p3 (by omega)) (hd := e) (HA := fun X k => ?_) (hP := fun w2 hp => h.keepq hp)).mono (FIN _ rfl)))
    have hc : d.cell = 3 := by simp only [Nd.cell, e]
    have r := rd X k
    rw [hc] at r ⊢
    simp only [Nd.acc, e]
    exact (load_made r).mono fun e w' hh => ⟨hh.1, hh.2.under k⟩
  · refine step_by91 (c9 _ (by rw [e]; rfl)) HOV (hide ((ph8N h.nd (hd := e) (HA := fun X k => ?_) (hP := fun w2 hp => h.keepq hp)).mono (FIN _ rfl)))
    have hc : d.cell = 2 := by simp only [Nd.cell, e]
    have r := rd X k
    rw [hc] at r ⊢
    simp only [Nd.acc, e]
    exact (store_made d.put8 r).mono fun e w' hh => ⟨hh.1, hh.2.under k⟩
  · refine step_by93 (c9 _ (by rw [e]; rfl)) HOV (hide ((ph9N h.nd (hd := e) (HA := fun X k => ?_) (hP := fun w2 hp => h.keepq hp)).mono (FIN _ rfl)))
    have hc : d.cell = 3 := by simp only [Nd.cell, e]
    have r := rd X k
    rw [hc] at r ⊢
    simp only [Nd.acc, e]
    exact (store_made d.put9 r).mono fun e w' hh => ⟨hh.1, hh.2.under k⟩
  · refine step_by94 (c9 _ (by rw [e]; rfl)) HOV (hide ((ph10N (by omega) (by have := hw.nn; omega) h.nd (hd := e) (HA := fun X k => ?_) (hP := fun w2 hp => h.keepq hp)).mono (FIN _ rfl)))
    have hc : d.cell = 1 := by simp only [Nd.cell, e]
    have r := rd X k
    rw [hc] at r ⊢
    simp only [Nd.acc, e]
    exact (store_made d.put10 r).mono fun e w' hh => ⟨hh.1, hh.2.under k⟩
  · refine step_by90 (c9 _ (by rw [e]; rfl)) HOV (hide ((ph11N (hd := e) (HA := fun X k => ?_) (hP := fun w2 hp => h.keepq hp)).mono (FIN _ rfl)))
    have hc : d.cell = 0 := by simp only [Nd.cell, e]
    have r := rd X k
    rw [hc] at r ⊢
    simp only [Nd.acc, e]
    exact (store_made 1 r).mono fun e w' hh => ⟨hh.1, hh.2.under k⟩
end
end Go.Proofs.Ytdjkidgkeekenaa
