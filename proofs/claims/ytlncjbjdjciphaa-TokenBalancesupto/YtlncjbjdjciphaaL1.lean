/- spoil: what was handed in is written over. -/
import Derived.Test.YtlncjbjdjciphaaN5
import Derived.Test.YtlncjbjdjciphaaK14
namespace Go.Proofs.Ytlncjbjdjciphaa
open Go.RowKit Go.Lib
set_option linter.unusedVariables false
set_option linter.unusedSimpArgs false
/-- A block of ints below Z. -/
def I3 (w : World) (Z : Nat × Nat) (n g : Nat) : Prop := (Z.1 ≤ g ∧ g < Z.2) ∧ ∃ cur : Array Value, w.heap[g]? = some (.cells cur 3 (0, 0)) ∧ n ≤ cur.size
structure SpM (w : World) (Z : Nat × Nat) (G g : Nat) (ls : List (List Int)) (m : Nat) : Prop where
  ty : ∃ cs, w.heap[G]? = some (.cells cs 23 (0, 0))
  row : ∀ i, i < ls.length → ∃ g c, w.cell? ⟨G, i, none⟩ = some (.slice (some ⟨g, 0, none⟩) (rowL ls i).length c) ∧ I3 w Z (rowL ls i).length g
  aw : I3 w Z m g
theorem I3.put {w : World} {Z : Nat × Nat} {n g h k : Nat} (hi : I3 w Z n g) (u : Value) : I3 (w.setCell ⟨h, k, none⟩ u) Z n g := by
  obtain ⟨hz, cur, h1, h2⟩ := hi
  refine ⟨hz, ?_⟩
  by_cases e : g = h
  · subst e
    exact ⟨_, heap_set h1 u, by simpa using h2⟩
  · exact ⟨cur, (Below.heap_setCell _ _ _ _ e).trans h1, h2⟩
theorem SpM.put {w : World} {Z : Nat × Nat} {G g h k n : Nat} {ls : List (List Int)} {m : Nat} (s : SpM w Z G g ls m) (hh : I3 w Z n h) (u : Value) : SpM (w.setCell ⟨h, k, none⟩ u) Z G g ls m := by
  obtain ⟨hz, cur, h1, h2⟩ := hh
  obtain ⟨cs, ht⟩ := s.ty
  have hne : G ≠ h := ne_ty ht h1 (by decide)
  refine ⟨⟨cs, (Below.heap_setCell _ _ _ _ hne).trans ht⟩, fun i hi => ?_, s.aw.put u⟩
  obtain ⟨g', c, a, b⟩ := s.row i hi
  refine ⟨g', c, ?_, b.put u⟩
  have := a
  simp only [World.cell?] at this ⊢
  rw [Below.heap_setCell _ _ _ _ hne]
  exact this
theorem SpM.below {w w' : World} {Z : Nat × Nat} {G g : Nat} {ls : List (List Int)} {m : Nat} (s : SpM w Z G g ls m) (hb : Below w.heap.size w w') : SpM w' Z G g ls m := by
  obtain ⟨cs, ht⟩ := s.ty
  have st : ∀ {n g}, I3 w Z n g → I3 w' Z n g := fun ⟨hz, cur, h1, h2⟩ => ⟨hz, cur, (hb.block _ (lt_of_heap h1)).trans h1, h2⟩
  refine ⟨⟨cs, (hb.block _ (lt_of_heap ht)).trans ht⟩, fun i hi => ?_, st s.aw⟩
  obtain ⟨g', c, a, b⟩ := s.row i hi
  exact ⟨g', c, (below_cell hb (lt_of_heap ht)).trans a, st b⟩
/-- What spoil turns. -/
def Sp3 (w : World) (Z : Nat × Nat) (k : Nat) : Prop := (Z.1 ≤ k ∧ k < Z.2) ∧ ∃ cs, w.heap[k]? = some (.cells cs 3 (0, 0))
theorem sp_put {w wr : World} {Z : Nat × Nat} {n h k : Nat} (c : Chg (Sp3 w Z) w wr) (hZ : Z.2 ≤ w.heap.size) (hh : I3 wr Z n h) (u : Value) : Chg (Sp3 w Z) w (wr.setCell ⟨h, k, none⟩ u) := by
  obtain ⟨hz, cur, h1, h2⟩ := hh
  refine c.setCell (p := ⟨h, k, none⟩) ⟨hz, ?_⟩ u
  by_cases e : Sp3 w Z h
  · exact e.2
  · have := c.block h (by omega) e
    rw [this] at h1
    exact ⟨_, h1⟩
theorem I3.cell {w : World} {Z : Nat × Nat} {n g : Nat} (h : I3 w Z n g) (i : Nat) (hi : i < n) : ∃ v, w.cell? ⟨g, i, none⟩ = some v ∧ w.frozen? ⟨g, i, none⟩ = false := by
  obtain ⟨hz, cur, h1, h2⟩ := h
  exact ⟨_, cell_of h1 (Array.getElem?_eq_getElem (show i < cur.size by omega)), free_of h1 i⟩
set_option maxRecDepth 100000 in
set_option maxHeartbeats 4000000 in
theorem spoil_any (Z : Nat × Nat) (G C g c m : Nat) (b : Int) (ls : List (List Int)) (w : World) (hZ : Z.2 ≤ w.heap.size) (hs : SpM w Z G g ls m) (hn : ls.length ≤ 64) (hlb : ∀ i, (rowL ls i).length ≤ 17592186043904) (hmb : m ≤ 17592186043904) :
    Calls Try.prog 34 #[.agg #[.slice (some ⟨G, 0, none⟩) ls.length C, .slice (some ⟨g, 0, none⟩) m c, .int .i64 b]] w fun e w' => e = .returned (.tuple #[]) ∧ Chg (Sp3 w Z) w w' := by
  have HLB := hide hlb
  clear hlb
  obtain ⟨n, hne⟩ : ∃ n, n = ls.length := ⟨_, rfl⟩
  have HN := hide hne
  rw [← hne] at hn ⊢
  obtain ⟨X, hX⟩ : ∃ X, X = w.alloc (.cells #[.slice (some ⟨G, 0, none⟩) n C, .slice (some ⟨g, 0, none⟩) m c, .int .i64 b] 25) := ⟨_, rfl⟩
  have hbX : Below w.heap.size w X := by rw [hX]; exact below_alloc (Below.refl _ _) _
  have HA := hide (show X.heap[w.heap.size]? = some (.cells #[.slice (some ⟨G, 0, none⟩) n C, .slice (some ⟨g, 0, none⟩) m c, .int .i64 b] 25 (0, 0)) by rw [hX]; exact heap_new _ _)
  have HS := hide (hs.below hbX)
  have HC := hide (Chg.of_below (S := Sp3 w Z) hbX)
  have HZ := hide hZ
  -- the box stays
  have HBX : Hid (∀ wr, Chg (Sp3 w Z) w wr → X.heap[w.heap.size]? = wr.heap[w.heap.size]? → wr.heap[w.heap.size]? = some (.cells #[.slice (some ⟨G, 0, none⟩) n C, .slice (some ⟨g, 0, none⟩) m c, .int .i64 b] 25 (0, 0))) := hide (fun wr _ e => e ▸ HA.out)
  clear hbX hZ hs hne
  go_enter Try.func34, Try.ntmps34
  go_wp2_with fail
  rw [← hX]
  clear hX
  go_loopw [2] (fun t wr => ∃ i : Nat, i ≤ n ∧ t = .int .i64 (i : Int) ∧ SpM wr Z G g ls m ∧ Chg (Sp3 w Z) w wr ∧ wr.heap[w.heap.size]? = some (.cells #[.slice (some ⟨G, 0, none⟩) n C, .slice (some ⟨g, 0, none⟩) m c, .int .i64 b] 25 (0, 0))) (fun t _ => n - (RowKit.intOf t).toNat)
  case atStart => exact ⟨0, Nat.zero_le _, rfl, HS.out, HC.out, HA.out⟩
  case round =>
    obtain ⟨i, hin, rfl, hs, hc, ha⟩ := hrel
    have HS1 := hide hs; have HC1 := hide hc; have HA1 := hide ha
    have z0 := cell_of ha (i := 0) rfl; have z1 := cell_of ha (i := 1) rfl
    clear HS HC HA HBX hs hc ha
    by_cases hlt : i < n
    · have hli : (i : Int) < (n : Int) := by omega
      obtain ⟨g1, c1, d1, hI⟩ := HS1.out.row i (by rw [← HN.out]; exact hlt)
      obtain ⟨l, hl⟩ : ∃ l, l = (rowL ls i).length := ⟨_, rfl⟩
      have HLE := hide hl
      have hl2 : l ≤ 17592186043904 := by rw [hl]; exact HLB.out i
      rw [← hl] at d1 hI
      have HI := hide hI
      clear hl hI
      go_wp2_with fail
      go_loopw [3] (fun t wr2 => ∃ k : Nat, k ≤ l ∧ t = .int .i64 (k : Int) ∧ SpM wr2 Z G g ls m ∧ Chg (Sp3 w Z) w wr2 ∧ wr2.heap[w.heap.size]? = some (.cells #[.slice (some ⟨G, 0, none⟩) n C, .slice (some ⟨g, 0, none⟩) m c, .int .i64 b] 25 (0, 0)) ∧ wr2.cell? ⟨G, i, none⟩ = some (.slice (some ⟨g1, 0, none⟩) l c1) ∧ I3 wr2 Z l g1) (fun t _ => l - (RowKit.intOf t).toNat)
      case atStart => exact ⟨0, Nat.zero_le _, rfl, HS1.out, HC1.out, HA1.out, d1, HI.out⟩
      case round =>
        obtain ⟨k, hkl, rfl, hs, hc, ha, d2, hI⟩ := hrel
        have HS2 := hide hs; have HC2 := hide hc; have HA2 := hide ha; have HI2 := hide hI; have HD2 := hide d2
        have y0 := cell_of ha (i := 0) rfl
        clear HS1 HC1 HA1 HI z0 z1 d1 hs hc ha hI
        by_cases hk : k < l
        · have hki : (k : Int) < (l : Int) := by omega
          obtain ⟨v, e1, e2⟩ := HI2.out.cell k hk
          have HSP := hide (HS2.out.put (k := k) HI2.out (.int .i64 (-9)))
          have HCP := hide (sp_put (k := k) HC2.out HZ.out HI2.out (.int .i64 (-9)))
          have hIo := HI2.out
          obtain ⟨hz1, cur, hcur, _⟩ := hIo
          have HAP := hide ((Below.heap_setCell wr ⟨g1, k, none⟩ (.int .i64 (-9)) w.heap.size (ne_ty HA2.out hcur (by decide))).trans HA2.out)
          obtain ⟨cs, hty⟩ := HS2.out.ty
          have HDP : Hid ((wr.setCell ⟨g1, k, none⟩ (.int .i64 (-9))).cell? ⟨G, i, none⟩ = some (.slice (some ⟨g1, 0, none⟩) l c1)) := by
            have := HD2.out
            simp only [World.cell?] at this
            unfold Hid
            simp only [World.cell?]
            rw [Below.heap_setCell _ _ _ _ (ne_ty hty hcur (by decide))]
            exact this
          have HIP := hide (HI2.out.put (h := g1) (k := k) (.int .i64 (-9)))
          clear hz1 hcur hty
          go_wp2_with fail
          exact ⟨⟨k + 1, hk, by simp, HSP.out, HCP.out, HAP.out, HDP.out, HIP.out⟩, mdecR hk⟩
        · obtain rfl : k = l := by omega
          go_wp2_with fail
          exact ⟨⟨i + 1, hlt, by simp, HS2.out, HC2.out, HA2.out⟩, mdecR hlt⟩
    · obtain rfl : i = n := by omega
      go_wp2_with fail
      clear z0 z1
      go_loopw [4] (fun t wr2 => ∃ k : Nat, k ≤ m ∧ t = .int .i64 (k : Int) ∧ Chg (Sp3 w Z) w wr2 ∧ wr2.heap[w.heap.size]? = some (.cells #[.slice (some ⟨G, 0, none⟩) i C, .slice (some ⟨g, 0, none⟩) m c, .int .i64 b] 25 (0, 0)) ∧ I3 wr2 Z m g) (fun t _ => m - (RowKit.intOf t).toNat)
      case atStart => exact ⟨0, Nat.zero_le _, rfl, HC1.out, HA1.out, HS1.out.aw⟩
      case round =>
        obtain ⟨k, hkl, rfl, hc, ha, hI⟩ := hrel
        have HC2 := hide hc; have HA2 := hide ha; have HI2 := hide hI
        have y1 := cell_of ha (i := 1) rfl
        clear HS1 HC1 HA1 hc ha hI
        by_cases hk : k < m
        · have hki : (k : Int) < (m : Int) := by omega
          obtain ⟨v, e1, e2⟩ := HI2.out.cell k hk
          have HCP := hide (sp_put (k := k) HC2.out HZ.out HI2.out (.int .i64 (-9)))
          have hIo := HI2.out
          obtain ⟨hz1, cur, hcur, _⟩ := hIo
          have HAP := hide ((Below.heap_setCell wr ⟨g, k, none⟩ (.int .i64 (-9)) w.heap.size (ne_ty HA2.out hcur (by decide))).trans HA2.out)
          have HIP := hide (HI2.out.put (h := g) (k := k) (.int .i64 (-9)))
          clear hz1 hcur
          go_wp2_with fail
          exact ⟨⟨k + 1, hk, by simp, HCP.out, HAP.out, HIP.out⟩, mdecR hk⟩
        · obtain rfl : k = m := by omega
          go_wp2_with fail
          first | go_end0 | refine bodyPost_ret (results_none rfl _ _ _) rfl ?_
          exact ⟨rfl, HC2.out⟩
end Go.Proofs.Ytlncjbjdjciphaa
