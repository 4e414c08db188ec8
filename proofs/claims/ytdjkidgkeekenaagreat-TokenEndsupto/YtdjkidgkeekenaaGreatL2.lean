import Derived.Test.YtdjkidgkeekenaaGreatN5
import Derived.Test.YtdjkidgkeekenaaGreatK14
/- spoil: what was handed in is written over. -/
namespace Go.Proofs.YtdjkidgkeekenaaGreat
open Go.RowKit Go.Lib
set_option linter.unusedVariables false
set_option linter.unusedSimpArgs false
/-- A block of ints below Z. -/
def I3 (w : World) (Z : Nat × Nat) (n g : Nat) : Prop := (Z.1 ≤ g ∧ g < Z.2) ∧ ∃ cur : Array Value, w.heap[g]? = some (.cells cur 3 (0, 0)) ∧ n ≤ cur.size
structure SpM (w : World) (Z : Nat × Nat) (G g : Nat) (ls : List (List Int)) (m : Nat) : Prop where
  ty : ∃ cs, w.heap[G]? = some (.cells cs 23 (0, 0))
  row : ∀ i, i < ls.length → ∃ g c, w.cell? ⟨G, i, none⟩ = some (.slice (some ⟨g, 0, none⟩) (rowL ls i).length c) ∧ I3 w Z (rowL ls i).length g
  aw : I3 w Z m g
theorem I3.put {w : World} {Z : Nat × Nat} {n g h k : Nat} (hi : I3 w Z n g) (u : Value) : I3 (w.setCell ⟨h, k, none⟩ u) Z n g := by
  obtain ⟨hz, cur, h1, h2⟩ := hi
  refine ⟨hz, ?_⟩
  by_cases e : g = h
  · subst e
    exact ⟨_, heap_set h1 u, by simpa using h2⟩
  · exact ⟨cur, (Below.heap_setCell _ _ _ _ e).trans h1, h2⟩
theorem SpM.put {w : World} {Z : Nat × Nat} {G g h k n : Nat} {ls : List (List Int)} {m : Nat} (s : SpM w Z G g ls m) (hh : I3 w Z n h) (u : Value) : SpM (w.setCell ⟨h, k, none⟩ u) Z G g ls m := by
  obtain ⟨hz, cur, h1, h2⟩ := hh
  obtain ⟨cs, ht⟩ := s.ty
  have hne : G ≠ h := ne_ty ht h1 (by decide)
  refine ⟨⟨cs, (Below.heap_setCell _ _ _ _ hne).trans ht⟩, fun i hi => ?_, s.aw.put u⟩
  obtain ⟨g', c, a, b⟩ := s.row i hi
  refine ⟨g', c, ?_, b.put u⟩
  have := a
  simp only [World.cell?] at this ⊢
  rw [Below.heap_setCell _ _ _ _ hne]
  exact this
theorem SpM.below {w w' : World} {Z : Nat × Nat} {G g : Nat} {ls : List (List Int)} {m : Nat} (s : SpM w Z G g ls m) (hb : Below w.heap.size w w') : SpM w' Z G g ls m := by
  obtain ⟨cs, ht⟩ := s.ty
  have st : ∀ {n g}, I3 w Z n g → I3 w' Z n g := fun ⟨hz, cur, h1, h2⟩ => ⟨hz, cur, (hb.block _ (lt_of_heap h1)).trans h1, h2⟩
  refine ⟨⟨cs, (hb.block _ (lt_of_heap ht)).trans ht⟩, fun i hi => ?_, st s.aw⟩
  obtain ⟨g', c, a, b⟩ := s.row i hi
  exact ⟨g', c, (below_cell hb (lt_of_heap ht)).trans a, st b⟩
/-- What spoil turns. -/
def Sp3 (w : World) (Z : Nat × Nat) (k : Nat) : Prop := (Z.1 ≤ k ∧ k < Z.2) ∧ ∃ cs, w.heap[k]? = some (.cells cs 3 (0, 0))
theorem sp_put {w wr : World} {Z : Nat × Nat} {n h k : Nat} (c : Chg (Sp3 w Z) w wr) (hZ : Z.2 ≤ w.heap.size) (hh : I3 wr Z n h) (u : Value) : Chg (Sp3 w Z) w (wr.setCell ⟨h, k, none⟩ u) := by
  obtain ⟨hz, cur, h1, h2⟩ := hh
  refine c.setCell (p := ⟨h, k, none⟩) ⟨hz, ?_⟩ u
  by_cases e : Sp3 w Z h
  · exact e.2
  · have := c.block h (by omega) e
    rw [this] at h1
    exact ⟨_, h1⟩
theorem I3.cell {w : World} {Z : Nat × Nat} {n g : Nat} (h : I3 w Z n g) (i : Nat) (hi : i < n) : ∃ v, w.cell? ⟨g, i, none⟩ = some v ∧ w.frozen? ⟨g, i, none⟩ = false := by
  obtain ⟨hz, cur, h1, h2⟩ := h
  exact ⟨_, cell_of h1 (Array.getElem?_eq_getElem (show i < cur.size by omega)), free_of h1 i⟩
set_option maxRecDepth 100000 in
set_option maxHeartbeats 4000000 in
theorem spoil_any (Z : Nat × Nat) (G C g c m : Nat) (b : Int) (ls : List (List Int)) (w : World) (hZ : Z.2 ≤ w.heap.size) (hs : SpM w Z G g ls m) (hn : ls.length ≤ 64) (hlb : ∀ i, (rowL ls i).length ≤ 17592186043904) (hmb : m ≤ 17592186043904) :
    Calls Tryz.prog 39 #[.agg #[.slice (some ⟨G, 0, none⟩) ls.length C, .slice (some ⟨g, 0, none⟩) m c, .int .i64 b]] w fun e w' => e = .returned (.tuple #[]) ∧ Chg (Sp3 w Z) w w' := by
  have HLB := hide hlb
  clear hlb
  obtain ⟨n, hne⟩ : ∃ n, n = ls.length := ⟨_, rfl⟩
  have HN := hide hne
  rw [← hne] at hn ⊢
  obtain ⟨X, hX⟩ : ∃ X, X = w.alloc (.cells #[.slice (some ⟨G, 0, none⟩) n C, .slice (some ⟨g, 0, none⟩) m c, .int .i64 b] 25) := ⟨_, rfl⟩
  have hbX : Below w.heap.size w X := by rw [hX]; exact below_alloc (Below.refl _ _) _
  have HA := hide (show X.heap[w.heap.size]? = some (.cells #[.slice (some ⟨G, 0, none⟩) n C, .slice (some ⟨g, 0, none⟩) m c, .int .i64 b] 25 (0, 0)) by rw [hX]; exact heap_new _ _)
  have HS := hide (hs.below hbX)
  have HC := hide (Chg.of_below (S := Sp3 w Z) hbX)
  have HZ := hide hZ
  -- the box stays
  have HBX : Hid (∀ wr, Chg (Sp3 w Z) w wr → X.heap[w.heap.size]? = wr.heap[w.heap.size]? → wr.heap[w.heap.size]? = some (.cells #[.slice (some ⟨G, 0, none⟩) n C, .slice (some ⟨g, 0, none⟩) m c, .int .i64 b] 25 (0, 0))) := hide (fun wr _ e => e ▸ HA.out)
  clear hbX hZ hs hne
  go_enter Tryz.func39, Tryz.ntmps39
  go_wp2_with fail
  rw [← hX]
  clear hX
  go_loopw [2] (fun t wr => ∃ i : Nat, i ≤ n ∧ t = .int .i64 (i : Int) ∧ SpM wr Z G g ls m ∧ Chg (Sp3 w Z) w wr ∧ wr.heap[w.heap.size]? = some (.cells #[.slice (some ⟨G, 0, none⟩) n C, .slice (some ⟨g, 0, none⟩) m c, .int .i64 b] 25 (0, 0))) (fun t _ => n - (RowKit.intOf t).toNat)
  case atStart => exact ⟨0, Nat.zero_le _, rfl, HS.out, HC.out, HA.out⟩
  case round =>
    obtain ⟨i, hin, rfl, hs, hc, ha⟩ := hrel
    have HS1 := hide hs; have HC1 := hide hc; have HA1 := hide ha
    have z0 := cell_of ha (i := 0) rfl; have z1 := cell_of ha (i := 1) rfl
    clear HS HC HA HBX hs hc ha
    by_cases hlt : i < n
    · have hli : (i : Int) < (n : Int) := by omega
      obtain ⟨g1, c1, d1, hI⟩ := HS1.out.row i (by rw [← HN.out]; exact hlt)
      obtain ⟨l, hl⟩ : ∃ l, l = (rowL ls i).length := ⟨_, rfl⟩
      have HLE := hide hl
      have hl2 : l ≤ 17592186043904 := by rw [hl]; exact HLB.out i
      rw [← hl] at d1 hI
      have HI := hide hI
      clear hl hI
      go_wp2_with fail
      go_loopw [3] (fun t wr2 => ∃ k : Nat, k ≤ l ∧ t = .int .i64 (k : Int) ∧ SpM wr2 Z G g ls m ∧ Chg (Sp3 w Z) w wr2 ∧ wr2.heap[w.heap.size]? = some (.cells #[.slice (some ⟨G, 0, none⟩) n C, .slice (some ⟨g, 0, none⟩) m c, .int .i64 b] 25 (0, 0)) ∧ wr2.cell? ⟨G, i, none⟩ = some (.slice (some ⟨g1, 0, none⟩) l c1) ∧ I3 wr2 Z l g1) (fun t _ => l - (RowKit.intOf t).toNat)
      case atStart => exact ⟨0, Nat.zero_le _, rfl, HS1.out, HC1.out, HA1.out, d1, HI.out⟩
      case round =>
        obtain ⟨k, hkl, rfl, hs, hc, ha, d2, hI⟩ := hrel
        have HS2 := hide hs; have HC2 := hide hc; have HA2 := hide ha; have HI2 := hide hI; have HD2 := hide d2
        have y0 := cell_of ha (i := 0) rfl
        clear HS1 HC1 HA1 HI z0 z1 d1 hs hc ha hI
        by_cases hk : k < l
        · have hki : (k : Int) < (l : Int) := by omega
          obtain ⟨v, e1, e2⟩ := HI2.out.cell k hk
          have HSP := hide (HS2.out.put (k := k) HI2.out (.int .i64 (-9)))
          have HCP := hide (sp_put (k := k) HC2.out HZ.out HI2.out (.int .i64 (-9)))
          have hIo := HI2.out
          obtain ⟨hz1, cur, hcur, _⟩ := hIo
          have HAP := hide ((Below.heap_setCell wr ⟨g1, k, none⟩ (.int .i64 (-9)) w.heap.size (ne_ty HA2.out hcur (by decide))).trans HA2.out)
          obtain ⟨cs, hty⟩ := HS2.out.ty
          have HDP : Hid ((wr.setCell ⟨g1, k, none⟩ (.int .i64 (-9))).cell? ⟨G, i, none⟩ = some (.slice (some ⟨g1, 0, none⟩) l c1)) := by
            have := HD2.out
            simp only [World.cell?] at this
            unfold Hid
            simp only [World.cell?]
            rw [Below.heap_setCell _ _ _ _ (ne_ty hty hcur (by decide))]
            exact this
          have HIP := hide (HI2.out.put (h := g1) (k := k) (.int .i64 (-9)))
          clear hz1 hcur hty
          go_wp2_with fail
          exact ⟨⟨k + 1, hk, by simp, HSP.out, HCP.out, HAP.out, HDP.out, HIP.out⟩, mdecR hk⟩
        · obtain rfl : k = l := by omega
          go_wp2_with fail
          exact ⟨⟨i + 1, hlt, by simp, HS2.out, HC2.out, HA2.out⟩, mdecR hlt⟩
    · obtain rfl : i = n := by omega
      go_wp2_with fail
      clear z0 z1
      go_loopw [4] (fun t wr2 => ∃ k : Nat, k ≤ m ∧ t = .int .i64 (k : Int) ∧ Chg (Sp3 w Z) w wr2 ∧ wr2.heap[w.heap.size]? = some (.cells #[.slice (some ⟨G, 0, none⟩) i C, .slice (some ⟨g, 0, none⟩) m c, .int .i64 b] 25 (0, 0)) ∧ I3 wr2 Z m g) (fun t _ => m - (RowKit.intOf t).toNat)
      case atStart => exact ⟨0, Nat.zero_le _, rfl, HC1.out, HA1.out, HS1.out.aw⟩
      case round =>
        obtain ⟨k, hkl, rfl, hc, ha, hI⟩ := hrel
        have HC2 := hide hc; have HA2 := hide ha; have HI2 := hide hI
        have y1 := cell_of ha (i := 1) rfl
        clear HS1 HC1 HA1 hc ha hI
        by_cases hk : k < m
        · have hki : (k : Int) < (m : Int) := by omega
          obtain ⟨v, e1, e2⟩ := HI2.out.cell k hk
          have HCP := hide (sp_put (k := k) HC2.out HZ.out HI2.out (.int .i64 (-9)))
          have hIo := HI2.out
          obtain ⟨hz1, cur, hcur, _⟩ := hIo
          have HAP := hide ((Below.heap_setCell wr ⟨g, k, none⟩ (.int .i64 (-9)) w.heap.size (ne_ty HA2.out hcur (by decide))).trans HA2.out)
          have HIP := hide (HI2.out.put (h := g) (k := k) (.int .i64 (-9)))
          clear hz1 hcur
          go_wp2_with fail
          exact ⟨⟨k + 1, hk, by simp, HCP.out, HAP.out, HIP.out⟩, mdecR hk⟩
        · obtain rfl : k = m := by omega
          go_wp2_with fail
          first | go_end0 | refine bodyPost_ret (results_none rfl _ _ _) rfl ?_
          exact ⟨rfl, HC2.out⟩
end Go.Proofs.YtdjkidgkeekenaaGreat

/- What lay keeps in memory. -/
namespace Go.Proofs.YtdjkidgkeekenaaGreat
open Go.RowKit Go.Lib
set_option linter.unusedVariables false
set_option linter.unusedSimpArgs false
set_option maxRecDepth 100000 in
theorem refPoke_in (Y b gc : Nat) (lv : Value) (s : Ast) (i : Nat) (x : Int) (w : World) (h : RIs w Y b gc lv s) (hi : i < s.cells.length) :
    Calls Tryz.prog 37 #[.pointer (some ⟨b, 0, none⟩), .int .i64 i, .int .u64 x] w fun r w' => r = .returned (.int .i64 0) ∧ RIs w' Y b gc lv { s with cells := s.cells.set i x } ∧ Chg (fun k => k = gc) w w' := by
  have c0 : w.cell? ⟨b, 0, none⟩ = some (.slice (some ⟨gc, 0, none⟩) s.cells.length s.cells.length) := cell_of h.hb rfl
  have e1 := words_cell h.hc i hi
  have fe := free_of h.hc i
  have h1 : (i : Int) < s.cells.length := by omega
  have H := hide h
  have hbg : ¬ b = gc := h.ne
  clear h
  go_enter Tryz.func37, Tryz.ntmps37
  go_wp2_with fail
  go_ret
  have k : Chg (fun k => k = gc) w (w.setCell ⟨gc, i, none⟩ (.int .u64 x)) := (Chg.refl (fun k => k = gc) w).setCell (p := ⟨gc, i, none⟩) rfl _
  have h := H.out
  refine ⟨rfl, ⟨?_, words_set h.hc i x, ownsRow_block h.hl (fun j hj => k.block j (owns_lt h.hl hj).2 (h.own_ne hj).2.1), h.bY, h.gY, h.ne, by simpa using h.len, Nat.le_trans h.yw k.size⟩, k⟩
  have hb := k.heap h.hb h.ne
  unfold RObj at hb ⊢
  simp only [List.length_set]
  exact hb
/-- The circuit that came in, in its box; its twin in another. -/
structure TZ (w wr : World) (T : Nat) (v0 v1 : Value) (G C g c : Nat) (ls : List (List Int)) (aw : List Int) (b : Int) : Prop where
  bel : Below w.heap.size w wr
  a : wr.heap[w.heap.size]? = some (.cells #[v0, v1, .int .i64 b] 25 (0, 0))
  t : wr.heap[T]? = some (.cells #[.slice (some ⟨G, 0, none⟩) ls.length C, .slice (some ⟨g, 0, none⟩) aw.length c, .int .i64 b] 25 (0, 0))
  ty : ∃ cs, wr.heap[G]? = some (.cells cs 23 (0, 0))
  row : ∀ i, i < ls.length → ∃ g c, wr.cell? ⟨G, i, none⟩ = some (.slice (some ⟨g, 0, none⟩) (rowL ls i).length c) ∧ M3 wr g c (rowL ls i)
  cap : ls.length + 1 ≤ C ∧ C ≤ 9223372036854775807
  aw : M3 wr g c aw
  lm : LoM wr G w.heap.size ls ∧ w.heap.size ≤ g
section
variable {w wr wr' : World} {T G C g c : Nat} {v0 v1 : Value} {ls : List (List Int)} {aw : List Int} {b : Int}
theorem TK.tz (h : TK w wr T v0 v1 G C g c ls aw b) (hl : LoM wr G w.heap.size ls ∧ w.heap.size ≤ g) : TZ w wr T v0 v1 G C g c ls aw b := ⟨h.bel, h.a, h.t, h.m.f.ty, h.m.f.row, h.m.f.cap, h.m.a, hl⟩
/-- Blocks of other kinds may turn. -/
theorem TZ.far {S : Nat → Prop} (h : TZ w wr T v0 v1 G C g c ls aw b) (k : Chg S wr wr') (hS : ∀ j, S j → w.heap.size ≤ j ∧ ∀ cs t, wr.heap[j]? = some (.cells cs t (0, 0)) → t ≠ 25 ∧ t ≠ 23 ∧ t ≠ 3) : TZ w wr' T v0 v1 G C g c ls aw b := by
  obtain ⟨cs, ht⟩ := h.ty
  have hG : ¬ S G := fun e => ((hS _ e).2 _ _ ht).2.1 rfl
  have m3 : ∀ {g c l}, M3 wr g c l → M3 wr' g c l := fun m => by
    obtain ⟨cs, hm⟩ := m.typ
    exact m.stay (k.block _ (lt_of_heap hm) (fun e => ((hS _ e).2 _ _ hm).2.2 rfl))
  refine ⟨Chg.below h.bel k (fun j hj => (hS j hj).1) h.bel.size, k.heap h.a (fun e => ((hS _ e).2 _ _ h.a).1 rfl), k.heap h.t (fun e => ((hS _ e).2 _ _ h.t).1 rfl), ⟨cs, k.heap ht hG⟩, fun i hi => ?_, h.cap, m3 h.aw, h.lm.1.stay (k.block G (lt_of_heap ht) hG), h.lm.2⟩
  obtain ⟨g', c', e1, e2⟩ := h.row i hi
  refine ⟨g', c', ?_, m3 e2⟩
  simp only [World.cell?] at e1 ⊢
  rw [k.block G (lt_of_heap ht) hG]
  exact e1
theorem TZ.below (h : TZ w wr T v0 v1 G C g c ls aw b) (hb : Below wr.heap.size wr wr') : TZ w wr' T v0 v1 G C g c ls aw b :=
  h.far (S := fun _ => False) (Chg.of_below hb) (fun j hj => hj.elim)
theorem TZ.inc (h : TZ w wr T v0 v1 G C g c ls aw b) : RwsI wr (.slice (some ⟨G, 0, none⟩) ls.length C) ls := by
  obtain ⟨cs, ht⟩ := h.ty
  refine ⟨_, C, rfl, by have := h.cap.1; omega, h.cap.2, fun i hi => ?_⟩
  obtain ⟨g, c, e1, e2⟩ := h.row i hi
  exact ⟨G, 0, _, rfl, lt_of_heap ht, by rw [Nat.zero_add]; exact e1, e2.row⟩
theorem TZ.sp (h : TZ w wr T v0 v1 G C g c ls aw b) : SpM wr (w.heap.size, wr.heap.size) G g ls aw.length := by
  have i3 : ∀ {g c l}, M3 wr g c l → w.heap.size ≤ g → I3 wr (w.heap.size, wr.heap.size) l.length g := fun {g c l} m hz => by
    obtain ⟨cs, hm⟩ := m.typ
    refine ⟨⟨hz, lt_of_heap hm⟩, cs, hm, ?_⟩
    rcases Nat.eq_zero_or_pos l.length with e | e
    · omega
    · have hlt : l.length - 1 < l.length + 3 := by omega
      have := m.at (l.length - 1) hlt
      simp only [World.cell?, hm] at this
      have := (Array.getElem?_eq_some_iff.1 this).1
      omega
  refine ⟨h.ty, fun i hi => ?_, i3 h.aw h.lm.2⟩
  obtain ⟨g', c', e1, e2⟩ := h.row i hi
  obtain ⟨g2, c2, e3, e4⟩ := h.lm.1 i hi
  rw [e1] at e3
  simp only [Option.some.injEq, Value.slice.injEq, Addr.mk.injEq, true_and, and_true] at e3
  exact ⟨g', c', e1, i3 e2 (by rw [e3.1]; exact e4)⟩
end
/-- The circle while it is laid. -/
structure LM (w wr : World) (T : Nat) (v0 v1 : Value) (G C g c : Nat) (ls : List (List Int)) (aw : List Int) (bu : Int) (X b gc rb rc Y Y2 : Nat) (s sr : Ast) (vP vN vG : Value) : Prop where
  tz : TZ w wr T v0 v1 G C g c ls aw bu
  x : wr.heap[X]? = some (.cells #[.pointer (some ⟨b, 0, none⟩), vP, vN, .pointer (some ⟨rb, 0, none⟩), vG] 45 (0, 0))
  ar : AIs wr Y b gc (.slice none 0 0) s
  rr : RIs wr Y2 rb rc (.slice none 0 0) sr
  gr : gc ≠ rc
  low : w.heap.size ≤ X ∧ w.heap.size ≤ b ∧ w.heap.size ≤ gc ∧ w.heap.size ≤ rb ∧ w.heap.size ≤ rc
section
variable {w wr wr' : World} {T G C g c X b gc rb rc Y Y2 : Nat} {v0 v1 vP vN vG : Value} {ls : List (List Int)} {aw : List Int} {bu : Int} {s s' sr : Ast}
theorem LM.below (h : LM w wr T v0 v1 G C g c ls aw bu X b gc rb rc Y Y2 s sr vP vN vG) (hb : Below wr.heap.size wr wr') : LM w wr' T v0 v1 G C g c ls aw bu X b gc rb rc Y Y2 s sr vP vN vG :=
  ⟨h.tz.below hb, (hb.block _ (lt_of_heap h.x)).trans h.x, h.ar.below hb, h.rr.below hb, h.gr, h.low⟩
theorem ty_of {w : World} {j : Nat} {cs cs' : Array Value} {s t : TypeId} {fr : Nat × Nat} (h : w.heap[j]? = some (.cells cs s (0, 0))) (k : w.heap[j]? = some (.cells cs' t fr)) : t = s := by
  rw [h] at k
  exact (Obj.cells.inj (Option.some.inj k)).2.1.symm
theorem LM.pokeA (h : LM w wr T v0 v1 G C g c ls aw bu X b gc rb rc Y Y2 s sr vP vN vG) (ha : AIs wr' Y b gc (.slice none 0 0) s') (k : Chg (fun k => k = b ∨ k = gc) wr wr') : LM w wr' T v0 v1 G C g c ls aw bu X b gc rb rc Y Y2 s' sr vP vN vG := by
  refine ⟨h.tz.far k (fun j hj => ?_), k.heap h.x (fun e => ?_), ha, h.rr.kept k (fun e => ?_) (fun e => ?_) (fun i hi => by cases hi), h.gr, h.low⟩
  · rcases hj with rfl | rfl
    · exact ⟨h.low.2.1, fun cs t ht => by rw [ty_of h.ar.hb ht]; decide⟩
    · exact ⟨h.low.2.2.1, fun cs t ht => by rw [ty_of h.ar.hc ht]; decide⟩
  · rcases e with e | e
    · exact ne_ty h.x h.ar.hb (by decide) e
    · exact ne_ty h.x h.ar.hc (by decide) e
  · rcases e with e | e
    · exact ne_ty h.rr.hb h.ar.hb (by decide) e
    · exact ne_ty h.rr.hb h.ar.hc (by decide) e
  · rcases e with e | e
    · exact ne_ty h.rr.hc h.ar.hb (by decide) e
    · exact h.gr e.symm
theorem LM.pokeR {sr' : Ast} (h : LM w wr T v0 v1 G C g c ls aw bu X b gc rb rc Y Y2 s sr vP vN vG) (ha : RIs wr' Y2 rb rc (.slice none 0 0) sr') (k : Chg (fun k => k = rc) wr wr') : LM w wr' T v0 v1 G C g c ls aw bu X b gc rb rc Y Y2 s sr' vP vN vG := by
  refine ⟨h.tz.far k (fun j hj => ?_), k.heap h.x (fun e => ?_), h.ar.kept k (fun e => ?_) (fun e => h.gr e) (fun i hi => by cases hi), ha, h.gr, h.low⟩
  · subst hj
    exact ⟨h.low.2.2.2.2, fun cs t ht => by rw [ty_of h.rr.hc ht]; decide⟩
  · exact ne_ty h.x h.rr.hc (by decide) e
  · exact ne_ty h.ar.hb h.rr.hc (by decide) e
end
def pk (L : List Int) (i : Nat) : List Int := tab L.length (fun t => if t < i then at_ L t else 0)
theorem pk_set (L : List Int) (i : Nat) (hi : i < L.length) : (pk L i).set i (at_ L i) = pk L (i + 1) := by
  unfold pk
  rw [tab_set]
  refine tab_congr fun v hv => ?_
  by_cases e : v = i
  · subst e; simp
  · rw [if_neg e]
    by_cases e2 : v < i
    · rw [if_pos e2, if_pos (by omega)]
    · rw [if_neg e2, if_neg (by omega)]
theorem pk_full (L : List Int) : pk L L.length = L := by
  unfold pk
  apply List.ext_getElem
  · simp [tab]
  · intro i h1 h2
    simp [tab, at_, h2]
theorem pk_zero (L : List Int) : pk L 0 = List.replicate L.length 0 := by
  unfold pk
  apply List.ext_getElem
  · simp [tab]
  · intro i h1 h2
    simp [tab]
theorem pk_len (L : List Int) (i : Nat) : (pk L i).length = L.length := tab_length _ _
end Go.Proofs.YtdjkidgkeekenaaGreat
