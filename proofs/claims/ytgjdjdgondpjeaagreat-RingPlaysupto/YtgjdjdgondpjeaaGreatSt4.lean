/- Step of any handle whose access is made. -/
import Derived.Test.YtgjdjdgondpjeaaGreatSt2
import Derived.Test.YtgjdjdgondpjeaaGreatSt3
namespace Go.Proofs.YtgjdjdgondpjeaaGreat
open Go.RowKit Go.Lib
set_option linter.unusedVariables false
set_option linter.unusedSimpArgs false
def Hs.acc (b C : Nat) (who : Int) (d : Hs) (x : Int) : Acc :=
  let c : Int := d.cell b C
  match d.ph with
  | 3 => ⟨who, 3, c, d.place, uw (d.place + 1), x, if x = d.place then uw (d.place + 1) else x, decide (x = d.place)⟩
  | 4 => ⟨who, 2, c, 0, d.t.1, x, d.t.1, true⟩
  | 5 => ⟨who, 2, c, 0, d.t.2, x, d.t.2, true⟩
  | 6 => ⟨who, 2, c, 0, uw (d.place + 1), x, uw (d.place + 1), true⟩
  | 9 => ⟨who, 3, c, d.place, uw (d.place + 1), x, if x = d.place then uw (d.place + 1) else x, decide (x = d.place)⟩
  | 12 => ⟨who, 2, c, 0, uw (d.place + C), x, uw (d.place + C), true⟩
  | _ => ⟨who, 1, c, 0, 0, x, x, true⟩
theorem Hs.acc_left (b C : Nat) (who : Int) (d : Hs) (x : Int) : (d.acc b C who x).left = d.left C x := by
  unfold Hs.acc Hs.left
  split <;> simp_all
theorem ne_ty {w : World} {a c : Nat} {x y : Array Value} {s t : TypeId} (h : w.heap[a]? = some (.cells x s (0, 0))) (k : w.heap[c]? = some (.cells y t (0, 0))) (e : s ≠ t) : a ≠ c := by
  rintro rfl
  rw [h] at k
  exact e (Obj.cells.inj (Option.some.inj k)).2.1
theorem ty_of {w : World} {j : Nat} {cs cs' : Array Value} {s t : TypeId} {fr : Nat × Nat} (h : w.heap[j]? = some (.cells cs s (0, 0))) (k : w.heap[j]? = some (.cells cs' t fr)) : t = s := by
  rw [h] at k
  exact (Obj.cells.inj (Option.some.inj k)).2.1.symm
theorem AccPost.under {w X w2 : World} {Y b gc p : Nat} {lv : Value} {s : Ast} {who : Int} {i : Nat} {m : Acc} (hb : Below w.heap.size w X) (h : AccPost X w2 Y b gc p lv s who i m) : AccPost w w2 Y b gc p lv s who i m := by
  obtain ⟨lv', h1, h2, h3, h4⟩ := h
  refine ⟨lv', h1, h2.imp id (fun ⟨g, e, hg⟩ => ⟨g, e, Nat.le_trans hb.size hg⟩), h3, (Chg.of_below hb).trans h4⟩
/-- Ready for a step that makes an access. -/
structure HRdy (w : World) (Y ab gc p : Nat) (lv : Value) (s : Ast) (who : Int) (q b C : Nat) (d : Hs) (v : Value) : Prop where
  ar : AIs w Y ab gc lv s
  po : w.heap[p]? = some (PObj ab who true)
  pl : lv.ownBlock ≠ some p
  nd : w.heap[q]? = some (HObj b C d v)
  ql : lv.ownBlock ≠ some q
  go : s.stopped = false
  len : b + 2 + 3 * C ≤ s.cells.length
  c0 : 0 ≤ s.count
  c1 : s.count < 9223372036854775807
  big : (s.log.length + 1) * 64 ≤ 140737488355328
  hC1 : 2 ≤ C
  hC2 : C ≤ 65536
  place : 0 ≤ d.place ∧ d.place < 18446744073709551616
  ph0 : d.ph ≠ 0
  ph : d.ph ≤ 12
def HPost (w w' : World) (Y ab gc p : Nat) (lv : Value) (s : Ast) (who : Int) (q b C : Nat) (d : Hs) (v : Value) : Prop :=
  ∃ lv' v', AIs w' Y ab gc lv' (s.made (d.cell b C) (d.acc b C who (nth s.cells (d.cell b C)))) ∧ (lv'.ownBlock = lv.ownBlock ∨ ∃ g, lv'.ownBlock = some g ∧ w.heap.size ≤ g) ∧ w'.heap[p]? = some (PObj ab who false) ∧ w'.heap[q]? = some (HObj b C (d.next C (nth s.cells (d.cell b C))) v') ∧
    (v' = v ∧ (d.next C (nth s.cells (d.cell b C))).out = d.out ∨ TOwn w' w.heap.size v' (d.next C (nth s.cells (d.cell b C))).out) ∧ Chg (fun k => accSet ab gc p lv k ∨ k = q) w w'
section
variable {w : World} {Y ab gc p q b C : Nat} {lv v : Value} {s : Ast} {who : Int} {d : Hs}
theorem HRdy.qne (h : HRdy w Y ab gc p lv s who q b C d v) : q ≠ ab ∧ q ≠ gc ∧ q ≠ p :=
  ⟨ne_ty h.nd h.ar.hb (by decide), ne_ty h.nd h.ar.hc (by decide), ne_ty h.nd h.po (by decide)⟩
theorem Hs.cell_lt (d : Hs) (b C : Nat) (hC : 2 ≤ C) : d.cell b C < b + 2 + 3 * C := by
  have := (slotN_lt (C := C) d.place hC).1
  unfold Hs.cell turnN
  split <;> omega
theorem HRdy.ready (h : HRdy w Y ab gc p lv s who q b C d v) {X : World} (hb : Below w.heap.size w X) : Ready X Y ab gc p lv s who (d.cell b C) :=
  ⟨h.ar.below hb, (hb.block _ (lt_of_heap h.po)).trans h.po, ne_ty h.po h.ar.hb (by decide), ne_ty h.po h.ar.hc (by decide), h.pl, h.go, by have := d.cell_lt b C h.hC1; have := h.len; omega, h.c0, h.c1, h.big⟩
theorem HRdy.keepq (h : HRdy w Y ab gc p lv s who q b C d v) {w2 : World} {i : Nat} {m : Acc} (hp : AccPost w w2 Y ab gc p lv s who i m) : w2.heap[q]? = some (HObj b C d v) := by
  obtain ⟨lv', h1, h2, h3, h4⟩ := hp
  obtain ⟨e1, e2, e3⟩ := h.qne
  exact h4.heap h.nd (fun hS => by
    rcases hS with e | e | e | e
    · exact e1 e
    · exact e2 e
    · exact e3 e
    · exact h.ql e)
theorem StH.post {w' : World} {x : Int} (hx : x = nth s.cells (d.cell b C)) {m : Acc} (hm : m = d.acc b C who x) (h : StH (fun w2 => AccPost w w2 Y ab gc p lv s who (d.cell b C) m) q b C d (d.next C x) v w') (hr : HRdy w Y ab gc p lv s who q b C d v) : HPost w w' Y ab gc p lv s who q b C d v := by
  subst hx hm
  obtain ⟨w2, v', ⟨lv', h1, h2, h3, h4⟩, h5, h7, h6⟩ := h
  obtain ⟨e1, e2, e3⟩ := hr.qne
  refine ⟨lv', v', h1.kept h6 (fun e => e1 e.symm) (fun e => e2 e.symm) (fun k hk e => ?_), h2, h6.heap h3 (fun e => e3 e.symm), h5, h7.imp id (fun t => ⟨t.1, t.2.imp id fun ⟨g, cap, cur, he, hg, r⟩ => ⟨g, cap, cur, he, Nat.le_trans h4.size hg, r⟩⟩), (h4.mono fun k hk => .inl hk).trans (h6.mono fun k hk => .inr hk)⟩
  rcases h2 with g | ⟨g, hg, hl⟩
  · exact hr.ql (by rw [← g, hk, e])
  · rw [hg] at hk
    cases hk
    have := lt_of_heap hr.nd
    omega
theorem turn_cast (hC : 2 ≤ C) : ((turnN b C d.place : Nat) : Int) = (b : Int) + 2 + 3 * (d.place % (C : Int)) := by
  have := (slotN_lt (C := C) d.place hC).2
  unfold turnN
  omega
theorem step_go (h : HRdy w Y ab gc p lv s who q b C d v) : Calls Tryz.prog 46 #[.pointer (some ⟨q, 0, none⟩), .pointer (some ⟨p, 0, none⟩)] w fun e w' => e = .returned (.tuple #[]) ∧ HPost w w' Y ab gc p lv s who q b C d v := by
  have hlen := h.ar.len
  have hl2 := h.len
  have hb : b ≤ 16777216 := by omega
  have hC1 := h.hC1
  obtain ⟨x, hx⟩ : ∃ x, x = nth s.cells (d.cell b C) := ⟨_, rfl⟩
  have rd := fun X (k : Below w.heap.size w X) => h.ready k
  have FIN : ∀ e w', e = Ending.returned (.tuple #[]) ∧ StH (fun w2 => AccPost w w2 Y ab gc p lv s who (d.cell b C) (d.acc b C who x)) q b C d (d.next C x) v w' → e = .returned (.tuple #[]) ∧ HPost w w' Y ab gc p lv s who q b C d v := fun e w' hh => ⟨hh.1, hh.2.post hx rfl h⟩
  have hp := h.ph
  have hp0 := h.ph0
  have tc := turn_cast (b := b) (d := d) hC1
  rcases (show d.ph = 1 ∨ d.ph = 2 ∨ d.ph = 3 ∨ d.ph = 4 ∨ d.ph = 5 ∨ d.ph = 6 ∨ d.ph = 7 ∨ d.ph = 8 ∨ d.ph = 9 ∨ d.ph = 10 ∨ d.ph = 11 ∨ d.ph = 12 by omega) with e | e | e | e | e | e | e | e | e | e | e | e
  · have hc : d.cell b C = b := by unfold Hs.cell; simp only [e]
    refine (ph1 (x := x) (p := p) (P := fun w2 => AccPost w w2 Y ab gc p lv s who (d.cell b C) (d.acc b C who x)) h.nd hb hC1 h.hC2 h.place e (fun X k => ?_) (fun w2 hp => h.keepq hp)).mono (FIN)
    have r := rd X k
    have ha : ((d.cell b C : Nat) : Int) = (b : Int) := by rw [hc] <;> omega
    rw [← ha]
    rw [show d.acc b C who x = _ by unfold Hs.acc; simp only [e]; exact rfl, hx]
    exact (load_made r).mono fun e w' hh => ⟨hh.1, hh.2.under k⟩
  · have hc : d.cell b C = turnN b C d.place := by unfold Hs.cell; simp only [e]
    refine (ph2 (x := x) (p := p) (P := fun w2 => AccPost w w2 Y ab gc p lv s who (d.cell b C) (d.acc b C who x)) h.nd hb hC1 h.hC2 h.place e (fun X k => ?_) (fun w2 hp => h.keepq hp)).mono (FIN)
    have r := rd X k
    have ha : ((d.cell b C : Nat) : Int) = (b : Int) + 2 + 3 * (d.place % (C : Int)) := by rw [hc] <;> omega
    rw [← ha]
    rw [show d.acc b C who x = _ by unfold Hs.acc; simp only [e]; exact rfl, hx]
    exact (load_made r).mono fun e w' hh => ⟨hh.1, hh.2.under k⟩
  · have hc : d.cell b C = b := by unfold Hs.cell; simp only [e]
    refine (ph3 (x := x) (p := p) (P := fun w2 => AccPost w w2 Y ab gc p lv s who (d.cell b C) (d.acc b C who x)) (bb := decide (x = d.place)) rfl h.nd hb hC1 h.hC2 h.place e (fun X k => ?_) (fun w2 hp => h.keepq hp)).mono (FIN)
    have r := rd X k
    have ha : ((d.cell b C : Nat) : Int) = (b : Int) := by rw [hc] <;> omega
    rw [← ha]
    rw [show d.acc b C who x = _ by unfold Hs.acc; simp only [e]; exact rfl, hx]
    exact (cas_made d.place (uw (d.place + 1)) r).mono fun e w' hh => ⟨hh.1, hh.2.under k⟩
  · have hc : d.cell b C = turnN b C d.place + 1 := by unfold Hs.cell; simp only [e]
    refine (ph4 (x := x) (p := p) (P := fun w2 => AccPost w w2 Y ab gc p lv s who (d.cell b C) (d.acc b C who x)) h.nd hb hC1 h.hC2 h.place e (fun X k => ?_) (fun w2 hp => h.keepq hp)).mono (FIN)
    have r := rd X k
    have ha : ((d.cell b C : Nat) : Int) = (b : Int) + 2 + 3 * (d.place % (C : Int)) + 1 := by rw [hc] <;> omega
    rw [← ha]
    rw [show d.acc b C who x = _ by unfold Hs.acc; simp only [e]; exact rfl, hx]
    exact (store_made d.t.1 r).mono fun e w' hh => ⟨hh.1, hh.2.under k⟩
  · have hc : d.cell b C = turnN b C d.place + 2 := by unfold Hs.cell; simp only [e]
    refine (ph5 (x := x) (p := p) (P := fun w2 => AccPost w w2 Y ab gc p lv s who (d.cell b C) (d.acc b C who x)) h.nd hb hC1 h.hC2 h.place e (fun X k => ?_) (fun w2 hp => h.keepq hp)).mono (FIN)
    have r := rd X k
    have ha : ((d.cell b C : Nat) : Int) = (b : Int) + 2 + 3 * (d.place % (C : Int)) + 2 := by rw [hc] <;> omega
    rw [← ha]
    rw [show d.acc b C who x = _ by unfold Hs.acc; simp only [e]; exact rfl, hx]
    exact (store_made d.t.2 r).mono fun e w' hh => ⟨hh.1, hh.2.under k⟩
  · have hc : d.cell b C = turnN b C d.place := by unfold Hs.cell; simp only [e]
    refine (ph6 (x := x) (p := p) (P := fun w2 => AccPost w w2 Y ab gc p lv s who (d.cell b C) (d.acc b C who x)) h.nd hb hC1 h.hC2 h.place e (fun X k => ?_) (fun w2 hp => h.keepq hp)).mono (FIN)
    have r := rd X k
    have ha : ((d.cell b C : Nat) : Int) = (b : Int) + 2 + 3 * (d.place % (C : Int)) := by rw [hc] <;> omega
    rw [← ha]
    rw [show d.acc b C who x = _ by unfold Hs.acc; simp only [e]; exact rfl, hx]
    exact (store_made (uw (d.place + 1)) r).mono fun e w' hh => ⟨hh.1, hh.2.under k⟩
  · have hc : d.cell b C = b + 1 := by unfold Hs.cell; simp only [e]
    refine (ph7 (x := x) (p := p) (P := fun w2 => AccPost w w2 Y ab gc p lv s who (d.cell b C) (d.acc b C who x)) h.nd hb hC1 h.hC2 h.place e (fun X k => ?_) (fun w2 hp => h.keepq hp)).mono (FIN)
    have r := rd X k
    have ha : ((d.cell b C : Nat) : Int) = (b : Int) + 1 := by rw [hc] <;> omega
    rw [← ha]
    rw [show d.acc b C who x = _ by unfold Hs.acc; simp only [e]; exact rfl, hx]
    exact (load_made r).mono fun e w' hh => ⟨hh.1, hh.2.under k⟩
  · have hc : d.cell b C = turnN b C d.place := by unfold Hs.cell; simp only [e]
    refine (ph8 (x := x) (p := p) (P := fun w2 => AccPost w w2 Y ab gc p lv s who (d.cell b C) (d.acc b C who x)) h.nd hb hC1 h.hC2 h.place e (fun X k => ?_) (fun w2 hp => h.keepq hp)).mono (FIN)
    have r := rd X k
    have ha : ((d.cell b C : Nat) : Int) = (b : Int) + 2 + 3 * (d.place % (C : Int)) := by rw [hc] <;> omega
    rw [← ha]
    rw [show d.acc b C who x = _ by unfold Hs.acc; simp only [e]; exact rfl, hx]
    exact (load_made r).mono fun e w' hh => ⟨hh.1, hh.2.under k⟩
  · have hc : d.cell b C = b + 1 := by unfold Hs.cell; simp only [e]
    refine (ph9 (x := x) (p := p) (P := fun w2 => AccPost w w2 Y ab gc p lv s who (d.cell b C) (d.acc b C who x)) (bb := decide (x = d.place)) rfl h.nd hb hC1 h.hC2 h.place e (fun X k => ?_) (fun w2 hp => h.keepq hp)).mono (FIN)
    have r := rd X k
    have ha : ((d.cell b C : Nat) : Int) = (b : Int) + 1 := by rw [hc] <;> omega
    rw [← ha]
    rw [show d.acc b C who x = _ by unfold Hs.acc; simp only [e]; exact rfl, hx]
    exact (cas_made d.place (uw (d.place + 1)) r).mono fun e w' hh => ⟨hh.1, hh.2.under k⟩
  · have hc : d.cell b C = turnN b C d.place + 1 := by unfold Hs.cell; simp only [e]
    refine (ph10 (x := x) (p := p) (P := fun w2 => AccPost w w2 Y ab gc p lv s who (d.cell b C) (d.acc b C who x)) h.nd hb hC1 h.hC2 h.place e (fun X k => ?_) (fun w2 hp => h.keepq hp)).mono (FIN)
    have r := rd X k
    have ha : ((d.cell b C : Nat) : Int) = (b : Int) + 2 + 3 * (d.place % (C : Int)) + 1 := by rw [hc] <;> omega
    rw [← ha]
    rw [show d.acc b C who x = _ by unfold Hs.acc; simp only [e]; exact rfl, hx]
    exact (load_made r).mono fun e w' hh => ⟨hh.1, hh.2.under k⟩
  · have hc : d.cell b C = turnN b C d.place + 2 := by unfold Hs.cell; simp only [e]
    refine (ph11 (x := x) (p := p) (P := fun w2 => AccPost w w2 Y ab gc p lv s who (d.cell b C) (d.acc b C who x)) h.nd hb hC1 h.hC2 h.place e (fun X k => ?_) (fun w2 hp => h.keepq hp)).mono (FIN)
    have r := rd X k
    have ha : ((d.cell b C : Nat) : Int) = (b : Int) + 2 + 3 * (d.place % (C : Int)) + 2 := by rw [hc] <;> omega
    rw [← ha]
    rw [show d.acc b C who x = _ by unfold Hs.acc; simp only [e]; exact rfl, hx]
    exact (load_made r).mono fun e w' hh => ⟨hh.1, hh.2.under k⟩
  · have hc : d.cell b C = turnN b C d.place := by unfold Hs.cell; simp only [e]
    refine (ph12 (x := x) (p := p) (P := fun w2 => AccPost w w2 Y ab gc p lv s who (d.cell b C) (d.acc b C who x)) h.nd hb hC1 h.hC2 h.place e (fun X k => ?_) (fun w2 hp => h.keepq hp)).mono (FIN)
    have r := rd X k
    have ha : ((d.cell b C : Nat) : Int) = (b : Int) + 2 + 3 * (d.place % (C : Int)) := by rw [hc] <;> omega
    rw [← ha]
    rw [show d.acc b C who x = _ by unfold Hs.acc; simp only [e]; exact rfl, hx]
    exact (store_made (uw (d.place + C)) r).mono fun e w' hh => ⟨hh.1, hh.2.under k⟩
end
end Go.Proofs.YtgjdjdgondpjeaaGreat
