/- OctetFresh: a writer and a reader that lie below the lists. -/
import Derived.Test.YtpfpelhhebafeaaDoorFrD
namespace Go.Proofs.YtpfpelhhebafeaaDoor
open Go.RowKit Go.Lib
set_option linter.unusedVariables false
set_option linter.unusedSimpArgs false
theorem Own8.stay {X Y : World} {B g c : Nat} {cs : List Int} (h : Own8 X B g c cs) (hk : Y.heap[g]? = X.heap[g]?) : Own8 Y B g c cs :=
  ⟨own_stayB h.own fun g' e _ => by have h5 : g = g' := Option.some.inj e; rw [← h5]; exact hk⟩
theorem WOwn.stay {X Y : World} {B a : Nat} {v : Value} {bs : List Int} (h : WOwn X B a v bs) (h1 : Y.heap[a]? = X.heap[a]?) (h2 : ∀ g, v.ownBlock = some g → g < X.heap.size → Y.heap[g]? = X.heap[g]?) : WOwn Y B a v bs :=
  ⟨h1.trans h.hb, own_stayB h.own h2, h.lo⟩
theorem row_stay {X Y : World} {ao : Option Addr} {n c : Nat} {bs : List Int} (h : RowAt .u8 X (.slice ao n c) bs) (hn : ao = none ∨ ∃ g, ao = some ⟨g, 0, none⟩) (hk : ∀ g, ao = some ⟨g, 0, none⟩ → bs ≠ [] → g < X.heap.size → Y.heap[g]? = X.heap[g]?) : RowAt .u8 Y (.slice ao n c) bs := by
  obtain ⟨ao', c', he, h1, h2, h3, h4⟩ := h
  simp only [Value.slice.injEq] at he
  obtain ⟨rfl, rfl, rfl⟩ := he
  refine ⟨ao, c, rfl, h1, h2, h3, fun a ha j hj => ?_⟩
  have h5 := h4 a ha j hj
  rcases hn with rfl | ⟨g, rfl⟩
  · cases ha
  · cases ha
    rw [Addr.add_lit] at h5 ⊢
    have h6 := block_of_cell h5
    have h7 := hk g rfl (fun e => by rw [e] at hj; simp at hj) h6
    unfold World.cell? at h5 ⊢
    rw [h7]
    exact h5
theorem RdX.stay {X Y : World} {r q : Nat} {ao : Option Addr} {c : Nat} {bs : List Int} (h : RdX X r ao c bs q) (h1 : Y.heap[r]? = X.heap[r]?) (h2 : ∀ g, ao = some ⟨g, 0, none⟩ → bs ≠ [] → g < X.heap.size → Y.heap[g]? = X.heap[g]?) : RdX Y r ao c bs q :=
  ⟨h1.trans h.1, row_stay h.2.1 (h.2.2.imp id fun ⟨g, e, _⟩ => ⟨g, e⟩) h2, h.2.2⟩
/-- The writer and the reader, all below F. -/
structure WP (w : World) (F a : Nat) (v : Value) (p : Nat) (ao : Option Addr) (c : Nat) (b : List Int) (q : Nat) (X : World) : Prop where
  wr : WOwn X 0 a v b
  rd : RdX X p ao c b q
  bel : Below w.heap.size w X
  lo : w.heap.size ≤ a ∧ a < p ∧ p < F ∧ F ≤ X.heap.size
  vb : ∀ g, v.ownBlock = some g → g < F ∧ g ≠ p
  rb : ∀ g, ao = some ⟨g, 0, none⟩ → b ≠ [] → g < F
section
variable {w X Y : World} {F a : Nat} {v : Value} {p : Nat} {ao : Option Addr} {c : Nat} {b : List Int} {q q' : Nat}
theorem WP.but (h : WP w F a v p ao c b q X) (hr : RdX Y p ao c b q') (k : But p X Y) : WP w F a v p ao c b q' Y := by
  obtain ⟨l1, l2, l3, l4⟩ := h.lo
  refine ⟨h.wr.stay (k.block a (by omega) (by omega)) (fun g e hg => k.block g hg (h.vb g e).2), hr, h.bel.trans ⟨k.os, k.tape, k.output, k.size, fun i hi => k.block i (by omega) (by omega)⟩, ⟨l1, l2, l3, Nat.le_trans l4 k.size⟩, h.vb, h.rb⟩
theorem WP.below (h : WP w F a v p ao c b q X) (k : Below X.heap.size X Y) : WP w F a v p ao c b q Y := by
  obtain ⟨l1, l2, l3, l4⟩ := h.lo
  exact ⟨h.wr.stay (k.block a (by omega)) (fun g e hg => k.block g hg), h.rd.below k, below_on h.bel k, ⟨l1, l2, l3, Nat.le_trans l4 k.size⟩, h.vb, h.rb⟩
theorem WP.lk {B : Nat} {S T : Nat → Nat} (h : WP w F a v p ao c b q X) (k : LK B S T X Y) (hS : ∀ i, i < 4 → F ≤ S i) (hB : F ≤ B) : WP w F a v p ao c b q Y := by
  obtain ⟨l1, l2, l3, l4⟩ := h.lo
  have hk : ∀ j, j < F → Y.heap[j]? = X.heap[j]? := fun j hj => k.same j (by omega) (by omega) (fun i hi => .inl (Nat.lt_of_lt_of_le hj (hS i hi)))
  exact ⟨h.wr.stay (hk a (by omega)) (fun g e _ => hk g (h.vb g e).1), h.rd.stay (hk p l3) (fun g e hne _ => hk g (h.rb g e hne)), h.bel.trans ⟨k.os, k.tape, k.output, k.size, fun i hi => hk i (by omega)⟩, ⟨l1, l2, l3, Nat.le_trans l4 k.size⟩, h.vb, h.rb⟩
end
theorem wp_start {w w5 X : World} {B a gc : Nat} {v : Value} {p : Nat} {b : List Int} {F4 : Nat} (hw : WOwn w5 B a v b) (hr : RdF w5 p b F4) (hbel : Below w.heap.size w w5) (k : But gc w5 X) (hgc : w.heap.size ≤ gc) (hB : gc < B) (hap : a < F4) (hv : ∀ g, v.ownBlock = some g → g < F4) (hp : F4 ≤ p) (hBF : B ≤ F4) (hwB : w.heap.size ≤ B) :
    ∃ ao c, WP w w5.heap.size a v p ao c b 0 X := by
  obtain ⟨ao, c, h1, h2, h3⟩ := hr
  have hpl := lt_of_heap h1
  have hal := lt_of_heap hw.hb
  have hlo := hw.lo
  have hrd : RdX w5 p ao c b 0 := ⟨h1, h2, h3.imp id fun ⟨g, e, _, hg⟩ => ⟨g, e, hg⟩⟩
  have hfar : ∀ g, ao = some ⟨g, 0, none⟩ → F4 ≤ g := fun g e => by
    rcases h3 with rfl | ⟨g', e', hg, _⟩
    · cases e
    · rw [e'] at e; cases e; exact hg
  refine ⟨ao, c, ⟨⟨(k.block a hal (by omega)).trans hw.hb, ?_, Nat.zero_le _⟩, hrd.stay (k.block p hpl (by omega)) (fun g e _ hg => k.block g hg (by have := hfar g e; omega)), hbel.trans ⟨k.os, k.tape, k.output, k.size, fun i hi => k.block i (by have := hbel.size; omega) (by omega)⟩, ⟨by omega, by omega, hpl, k.size⟩, fun g e => ⟨by have := hv g e; omega, by have := hv g e; omega⟩, fun g e hne => ?_⟩⟩
  · have h9 := own_stayB (Y := X) hw.own (fun g e hg => k.block g hg (by have := (hw.own.lt g e).1; omega))
    exact own_lower h9 (Nat.zero_le _)
  · obtain ⟨g', o', c', he, _, _, h6⟩ := h2.spot hne
    simp only [Value.slice.injEq] at he
    rw [e] at he
    simp only [Option.some.injEq, Addr.mk.injEq] at he
    obtain ⟨⟨rfl, _⟩, _⟩ := he
    exact block_of_cell (h6 0 (List.length_pos_iff.2 hne))
end Go.Proofs.YtpfpelhhebafeaaDoor
