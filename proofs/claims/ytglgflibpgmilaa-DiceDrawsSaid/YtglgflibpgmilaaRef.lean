/- The reference: Mix, the generator, Next. -/
import Derived.Test.YtglgflibpgmilaaFrom
import Derived.Test.YtglgflibpgmilaaSame
namespace Go.Proofs.Ytglgflibpgmilaa
open Go.RowKit Go.Lib

/-! The document's own answer (package wayfareref02). -/
theorem refMix_any (a : Nat) (w : World) (h1 : a < 18446744073709551616) :
    Calls Try.prog 24 #[.int .u64 a] w fun e w' => e = .returned (.int .u64 (Scat.mix a : Nat)) ∧ w' = w := by
  go_enter Try.func24, Try.ntmps24
  go_wp2
  go_ret
  exact ⟨ret_int (mix_int a h1), rfl⟩
theorem turned7 (x : Nat) (w : World) (hx : x < 18446744073709551616) :
    Calls Try.prog 50 #[.int .u64 x, .int .u64 7] w fun e w' => e = .returned (.int .u64 (rot x 7 : Nat)) ∧ w' = w := by
  go_enter Try.func50, Try.ntmps50
  go_wp2
  go_ret
  exact ⟨ret_int (rot_int7 x hx), rfl⟩
theorem turned45 (x : Nat) (w : World) (hx : x < 18446744073709551616) :
    Calls Try.prog 50 #[.int .u64 x, .int .u64 45] w fun e w' => e = .returned (.int .u64 (rot x 45 : Nat)) ∧ w' = w := by
  go_enter Try.func50, Try.ntmps50
  go_wp2
  go_ret
  exact ⟨ret_int (rot_int45 x hx), rfl⟩

set_option maxRecDepth 100000 in
theorem refWord_any (s : St) (w : World) :
    Calls Try.prog 42 #[stAgg s] w fun e w' => e = .returned (.int .u64 (stWord s : Nat)) ∧ Below w.heap.size w w' := by
  have h5 : IntKind.u64.wrap ((s.b : Int) * 5) = ((s.b * 5 % 18446744073709551616 : Nat) : Int) := by rw [IntKind.wrap_u64]; omega
  have H5 := hide h5
  clear h5
  unfold stAgg
  go_enter Try.func42, Try.ntmps42
  go_wp2_with fail
  rw [H5.out]
  refine (turned7 _ _ (Nat.mod_lt _ (by decide))).mono ?_
  rintro e w1 ⟨rfl, rfl⟩
  go_wp2_with fail
  go_ret
  refine ⟨ret_int ?_, (Below.refl _ _).alloc (Nat.le_refl _) _⟩
  rw [IntKind.wrap_u64]
  unfold stWord
  omega

set_option maxRecDepth 100000 in
theorem refBehind_any (s : St) (h : s.Ok) (w : World) :
    Calls Try.prog 43 #[stAgg s] w fun e w' => e = .returned (stAgg (stNext s)) ∧ Below w.heap.size w w' := by
  have e1 : bits .xor .u64 (s.c : Int) (s.a : Int) = ((s.c ^^^ s.a : Nat) : Int) := u64_xor_nat _ _ h.c h.a
  have e2 : bits .xor .u64 (s.d : Int) (s.b : Int) = ((s.d ^^^ s.b : Nat) : Int) := u64_xor_nat _ _ h.d h.b
  have e3 : bits .xor .u64 (s.b : Int) ((s.c ^^^ s.a : Nat) : Int) = ((s.b ^^^ (s.c ^^^ s.a) : Nat) : Int) := u64_xor_nat _ _ h.b (xor_lt h.c h.a)
  have e4 : bits .xor .u64 (s.a : Int) ((s.d ^^^ s.b : Nat) : Int) = ((s.a ^^^ (s.d ^^^ s.b) : Nat) : Int) := u64_xor_nat _ _ h.a (xor_lt h.d h.b)
  have e5 : IntKind.u64.wrap ((s.b : Int) * 131072) = ((s.b * 131072 % 18446744073709551616 : Nat) : Int) := by rw [IntKind.wrap_u64]; omega
  have e6 : bits .xor .u64 ((s.c ^^^ s.a : Nat) : Int) ((s.b * 131072 % 18446744073709551616 : Nat) : Int) = (((s.c ^^^ s.a) ^^^ (s.b * 131072 % 18446744073709551616) : Nat) : Int) := u64_xor_nat _ _ (xor_lt h.c h.a) (Nat.mod_lt _ (by decide))
  have E : Hid (_ ∧ _ ∧ _ ∧ _ ∧ _ ∧ _) := ⟨e1, e2, e3, e4, e5, e6⟩
  clear e1 e2 e3 e4 e5 e6
  have hdb := xor_lt h.d h.b
  unfold stAgg
  go_enter Try.func43, Try.ntmps43
  go_wp2_with fail
  obtain ⟨e1, e2, e3, e4, e5, e6⟩ := E.out
  rw [e2]
  refine (turned45 _ _ hdb).mono ?_
  clear e1 e2 e3 e4 e5 e6
  rintro e w1 ⟨rfl, rfl⟩
  go_wp2_with fail
  obtain ⟨e1, e2, e3, e4, e5, e6⟩ := E.out
  simp only [e1, e3, e4, e5, e6]
  exact bodyPost_ret (v := stAgg (stNext s)) (by simp [results, Try.results43, go_sem, stAgg, stNext]) rfl ⟨rfl, ((Below.refl _ _).alloc (Nat.le_refl _) _).alloc (by simp) _⟩

/-- The reference's dice: all given words, how many were drawn, the state. -/
def RObj (v : Value) (u : Int) (s : St) : Obj := .cells #[v, .int .i64 u, .int .u64 s.a, .int .u64 s.b, .int .u64 s.c, .int .u64 s.d] 46 (0, 0)
def RefIs (w : World) (base b : Nat) (all : List Int) (s : St) (u : Nat) : Prop :=
  base ≤ b ∧ ∃ v, w.heap[b]? = some (RObj v u s) ∧ ((v = .slice none 0 0 ∧ all = []) ∨ ∃ g c, v = .slice (some ⟨g, 0, none⟩) all.length c ∧ base ≤ g ∧ g ≠ b ∧ W22 w g ∧ all.length ≤ c ∧ c ≤ 9223372036854775807 ∧
    ∀ i, i < all.length → w.cell? ⟨g, i, none⟩ = some (.int .u64 (all[i]?.getD 0)))
theorem RefIs.lt {w : World} {base b : Nat} {all : List Int} {s : St} {u : Nat} (h : RefIs w base b all s u) : b < w.heap.size := by
  obtain ⟨_, v, hh, _⟩ := h; exact lt_of_heap hh
theorem RefIs.below {w w' : World} {base b : Nat} {all : List Int} {s : St} {u : Nat} (h : RefIs w base b all s u) (k : Below w.heap.size w w') : RefIs w' base b all s u := by
  obtain ⟨hb, v, hh, hv⟩ := h
  refine ⟨hb, v, (k.block b (lt_of_heap hh)).trans hh, ?_⟩
  rcases hv with hv | ⟨g, c, rfl, h1, h2, h3, h4, h5, h6⟩
  · exact .inl hv
  · exact .inr ⟨g, c, rfl, h1, h2, h3.below k, h4, h5, fun i hi => (k.cell (p := ⟨g, i, none⟩) h3.lt).trans (h6 i hi)⟩
/-- What turns a block below the base leaves it alone. -/
theorem RefIs.ahead {w w' : World} {base b c : Nat} {all : List Int} {s : St} {u : Nat} (h : RefIs w base b all s u) (k : But c w w') (hc : c < base) : RefIs w' base b all s u := by
  obtain ⟨hb, v, hh, hv⟩ := h
  refine ⟨hb, v, k.heap hh (by omega), ?_⟩
  rcases hv with hv | ⟨g, q, rfl, h1, h2, h3, h4, h5, h6⟩
  · exact .inl hv
  · refine .inr ⟨g, q, rfl, h1, h2, h3.but k (by omega), h4, h5, fun i hi => ?_⟩
    rw [World.cell?_of_block (w := w) (k.block g h3.lt (by omega))]
    exact h6 i hi
theorem RefIs.other {w w' : World} {base b c : Nat} {all : List Int} {s : St} {u : Nat} (h : RefIs w base b all s u) (k : But c w w') (hne : b ≠ c) (hc : ∃ cs t fr, w.heap[c]? = some (.cells cs t fr) ∧ t ≠ 22) : RefIs w' base b all s u := by
  obtain ⟨hb, v, hh, hv⟩ := h
  refine ⟨hb, v, k.heap hh hne, ?_⟩
  rcases hv with hv | ⟨g, q, rfl, h1, h2, h3, h4, h5, h6⟩
  · exact .inl hv
  · have hgc : g ≠ c := by
      rintro rfl
      obtain ⟨cs, t, fr, e1, e2⟩ := hc
      obtain ⟨cs', fr', e3⟩ := h3.row
      rw [e1] at e3
      simp at e3
      exact e2 e3.2.1
    refine .inr ⟨g, q, rfl, h1, h2, h3.but k hgc, h4, h5, fun i hi => ?_⟩
    rw [World.cell?_of_block (w := w) (k.block g h3.lt hgc)]
    exact h6 i hi
theorem RefIs.own {w w' : World} {base b : Nat} {all : List Int} {s s' : St} {u u' : Nat} {v : Value} (h : RefIs w base b all s u) (k : But b w w') (hv : ∃ v0, w.heap[b]? = some (RObj v0 u s) ∧ v0 = v) (hh' : w'.heap[b]? = some (RObj v u' s')) : RefIs w' base b all s' u' := by
  obtain ⟨hb, v1, hh, hw⟩ := h
  obtain ⟨v0, h0, rfl⟩ := hv
  have : v1 = v0 := by
    rw [hh] at h0
    simp [RObj] at h0
    exact h0
  subst this
  refine ⟨hb, v1, hh', ?_⟩
  rcases hw with hw | ⟨g, q, rfl, h1, h2, h3, h4, h5, h6⟩
  · exact .inl hw
  · refine .inr ⟨g, q, rfl, h1, h2, h3.but k h2, h4, h5, fun i hi => ?_⟩
    rw [World.cell?_of_block (w := w) (k.block g h3.lt h2)]
    exact h6 i hi

set_option maxRecDepth 100000 in
theorem refNext_given (w : World) (base b : Nat) (all : List Int) (s : St) (u : Nat) (hd : RefIs w base b all s u) (hu : u < all.length) (hl : all.length ≤ 17592186044416) :
    Calls Try.prog 26 #[.pointer (some ⟨b, 0, none⟩)] w fun e w' => e = .returned (.int .u64 (all[u]?.getD 0)) ∧ RefIs w' base b all s (u + 1) ∧ But b w w' := by
  have HD := hide hd
  obtain ⟨hb, v, hh, hv⟩ := hd
  rcases hv with ⟨_, rfl⟩ | ⟨g, c, rfl, h1, h2, h3, h4, h5, h6⟩
  · simp at hu
  have c0 : w.cell? ⟨b, 0, none⟩ = some (.slice (some ⟨g, 0, none⟩) all.length c) := cell_of hh rfl
  have c1 : w.cell? ⟨b, 1, none⟩ = some (.int .i64 (u : Int)) := cell_of hh rfl
  have f1 := free_of hh 1
  have cu := h6 u hu
  have HH := hide hh
  clear hh h6 h1 h3
  go_enter Try.func26, Try.ntmps26
  go_wp2_with fail
  go_ret
  have hbut := But.setCell w ⟨b, 1, none⟩ (.int .i64 ((u : Int) + 1))
  refine ⟨ret_int (by rw [List.getElem?_eq_getElem hu]; rfl), HD.out.own hbut ⟨_, HH.out, rfl⟩ ?_, hbut⟩
  have := heap_set (i := 1) HH.out (.int .i64 ((u : Int) + 1))
  rw [this]
  simp [RObj]

set_option maxRecDepth 100000 in
theorem refNext_gen (w : World) (base b : Nat) (all : List Int) (s : St) (u : Nat) (hd : RefIs w base b all s u) (hs : s.Ok) (hu : all.length ≤ u) (hl : u < 9223372036854775000) :
    Calls Try.prog 26 #[.pointer (some ⟨b, 0, none⟩)] w fun e w' => e = .returned (.int .u64 (stWord s : Nat)) ∧ RefIs w' base b all (stNext s) (u + 1) ∧ But b w w' := by
  have HD := hide hd
  obtain ⟨hb, v, hh, hv⟩ := hd
  obtain ⟨ao, c, rfl⟩ : ∃ ao c, v = .slice ao all.length c := by
    rcases hv with ⟨rfl, rfl⟩ | ⟨g, c, rfl, _⟩
    · exact ⟨none, 0, rfl⟩
    · exact ⟨_, _, rfl⟩
  have hbl : b < w.heap.size := lt_of_heap hh
  have c0 : w.cell? ⟨b, 0, none⟩ = some (.slice ao all.length c) := cell_of hh rfl
  have c1 : w.cell? ⟨b, 1, none⟩ = some (.int .i64 (u : Int)) := cell_of hh rfl
  have c2 : w.cell? ⟨b, 2, none⟩ = some (.int .u64 s.a) := cell_of hh rfl
  have c3 : w.cell? ⟨b, 3, none⟩ = some (.int .u64 s.b) := cell_of hh rfl
  have c4 : w.cell? ⟨b, 4, none⟩ = some (.int .u64 s.c) := cell_of hh rfl
  have c5 : w.cell? ⟨b, 5, none⟩ = some (.int .u64 s.d) := cell_of hh rfl
  have f1 := free_of hh 1
  have HH := hide hh
  clear hh hv
  go_enter Try.func26, Try.ntmps26
  go_wp2_with fail
  have hw0 := refWord_any s (w.setCell ⟨b, 1, none⟩ (.int .i64 ((u : Int) + 1)))
  refine hw0.mono ?_
  clear hw0
  rintro e w1 ⟨rfl, hb1⟩
  have hh1 : w1.heap[b]? = some (RObj (.slice ao all.length c) (u + 1 : Nat) s) := by
    rw [hb1.block b (by simpa [World.setCell] using hbl), heap_set HH.out]
    simp [RObj]
  have hbut1 : But b w w1 := (But.setCell w ⟨b, 1, none⟩ (.int .i64 ((u : Int) + 1))).trans (But.of_below hb1)
  have d2 : w1.cell? ⟨b, 2, none⟩ = some (.int .u64 s.a) := cell_of hh1 rfl
  have d3 : w1.cell? ⟨b, 3, none⟩ = some (.int .u64 s.b) := cell_of hh1 rfl
  have d4 : w1.cell? ⟨b, 4, none⟩ = some (.int .u64 s.c) := cell_of hh1 rfl
  have d5 : w1.cell? ⟨b, 5, none⟩ = some (.int .u64 s.d) := cell_of hh1 rfl
  have HH1 := hide hh1; have HU1 := hide hbut1
  clear hh1 hbut1 hb1 c0 c1 c2 c3 c4 c5 f1
  go_wp2_with fail
  refine (refBehind_any s hs _).mono ?_
  rintro e w2 ⟨rfl, hb2⟩
  have hh2 : w2.heap[b]? = some (RObj (.slice ao all.length c) (u + 1 : Nat) s) := (hb2.block b (lt_of_heap HH1.out)).trans HH1.out
  have g2 : w2.cell? ⟨b, 2, none⟩ = some (.int .u64 s.a) := cell_of hh2 rfl
  have g3 : w2.cell? ⟨b, 3, none⟩ = some (.int .u64 s.b) := cell_of hh2 rfl
  have g4 : w2.cell? ⟨b, 4, none⟩ = some (.int .u64 s.c) := cell_of hh2 rfl
  have g5 : w2.cell? ⟨b, 5, none⟩ = some (.int .u64 s.d) := cell_of hh2 rfl
  have f2 := free_of hh2 2; have f3 := free_of hh2 3; have f4 := free_of hh2 4; have f5 := free_of hh2 5
  have HH2 := hide hh2; have HU2 := hide (HU1.out.trans (But.of_below hb2))
  clear hh2 hb2 d2 d3 d4 d5
  generalize hT : stNext s = t
  have HT := hide hT
  clear hT
  unfold stAgg
  go_wp2_with fail
  go_ret
  have hbut : But b w ((((w2.setCell ⟨b, 2, none⟩ (.int .u64 t.a)).setCell ⟨b, 3, none⟩ (.int .u64 t.b)).setCell ⟨b, 4, none⟩ (.int .u64 t.c)).setCell ⟨b, 5, none⟩ (.int .u64 t.d)) :=
    (((HU2.out.trans (But.setCell _ ⟨b, 2, none⟩ _)).trans (But.setCell _ ⟨b, 3, none⟩ _)).trans (But.setCell _ ⟨b, 4, none⟩ _)).trans (But.setCell _ ⟨b, 5, none⟩ _)
  refine ⟨rfl, ?_, hbut⟩
  rw [HT.out]
  exact HD.out.own hbut ⟨_, HH.out, rfl⟩ (heap_set (heap_set (heap_set (heap_set HH2.out _) _) _) _)

/-- Next, whatever is left. -/
theorem refNext_any (w : World) (base b : Nat) (all : List Int) (s : St) (u : Nat) (hd : RefIs w base b all s u) (hs : s.Ok) (hl : all.length ≤ 17592186044416) (hu : u < 9223372036854775000) :
    Calls Try.prog 26 #[.pointer (some ⟨b, 0, none⟩)] w fun e w' => e = .returned (.int .u64 (drawn (all.drop u) s)) ∧ RefIs w' base b all (stLeft (all.drop u) s) (u + 1) ∧ But b w w' := by
  by_cases h : u < all.length
  · have e := List.drop_eq_getElem_cons h
    rw [e]
    have h1 := refNext_given w base b all s u hd h hl
    rw [List.getElem?_eq_getElem h] at h1
    exact h1
  · rw [List.drop_eq_nil_of_le (by omega)]
    exact refNext_gen w base b all s u hd hs (by omega) hu
end Go.Proofs.Ytglgflibpgmilaa
