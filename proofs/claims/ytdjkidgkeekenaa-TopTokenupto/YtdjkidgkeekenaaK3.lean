/- The document's Check; both Cells. -/
import Derived.Test.YtdjkidgkeekenaaK2
import Derived.Deep.Cut
import Derived.Deep.CutRange
import Derived.Deep.OwnRows
namespace Go.Proofs.Ytdjkidgkeekenaa
open Go.RowKit Go.Lib
set_option linter.unusedVariables false
set_option linter.unusedSimpArgs false
/-- The cells at the start. -/
def cl0 (n : Nat) : List Int := tab (4 + n) (fun t => if t = 3 then 1 else 0)
theorem cl0_len (n : Nat) : (cl0 n).length = 4 + n := tab_length _ _
/-- A list of words: nothing, or a block of its own from lo on. -/
def CL (lo : Nat) (w : World) (v : Value) (L : List Int) : Prop := (v = .slice none 0 0 ∧ L = []) ∨ ∃ g, lo ≤ g ∧ v = .slice (some ⟨g, 0, none⟩) L.length L.length ∧ 0 < L.length ∧ ArrU w g L
theorem CL.below {lo : Nat} {w w' : World} {v : Value} {L : List Int} (h : CL lo w v L) (hb : Below w.heap.size w w') : CL lo w' v L := by
  rcases h with h | ⟨g, h1, h2, h3, h4⟩
  · exact .inl h
  · exact .inr ⟨g, h1, h2, h3, (hb.block g (lt_of_heap h4)).trans h4⟩
theorem CL.row {lo : Nat} {w : World} {v : Value} {L : List Int} (h : CL lo w v L) (hl : L.length ≤ 2000000) : RowAt .u64 w v L := by
  rcases h with ⟨rfl, rfl⟩ | ⟨g, h1, rfl, h3, h4⟩
  · exact ⟨none, 0, rfl, Nat.le_refl _, by omega, fun _ => rfl, fun a ha => by cases ha⟩
  · exact h4.row rfl (by omega)
def ClA (ls : List (List Int)) (aw : List Int) (b : Int) (L : List Int) (r : Int) : Prop := CkA ls aw b r ∧ ((r ≠ 0 ∧ L = []) ∨ (r = 0 ∧ L = cl0 ls.length))
theorem ClA.one {ls : List (List Int)} {aw : List Int} {b : Int} {L L' : List Int} {r r' : Int} (h : ClA ls aw b L r) (k : ClA ls aw b L' r') : L = L' ∧ r = r' := by
  obtain ⟨h1, h2⟩ := h
  obtain ⟨k1, k2⟩ := k
  have e := h1.one k1
  subst e
  rcases h2 with ⟨a, rfl⟩ | ⟨a, rfl⟩ <;> rcases k2 with ⟨c, rfl⟩ | ⟨c, rfl⟩
  · exact ⟨rfl, rfl⟩
  · exact (a c).elim
  · exact (c a).elim
  · exact ⟨rfl, rfl⟩
def ClP (ls : List (List Int)) (aw : List Int) (b : Int) (w : World) (x : Ending) (w' : World) : Prop := Below w.heap.size w w' ∧ ∃ v L r, x = .returned (.tuple #[v, .int .i64 r]) ∧ CL w.heap.size w' v L ∧ ClA ls aw b L r
theorem ClP.made {ls : List (List Int)} {aw : List Int} {b r : Int} {w w' : World} {x : Ending} {v : Value} {L : List Int} (hb : Below w.heap.size w w') (hx : x = .returned (.tuple #[v, .int .i64 r])) (hv : CL w.heap.size w' v L) (h : ClA ls aw b L r) : ClP ls aw b w x w' := ⟨hb, v, L, r, hx, hv, h⟩
theorem made_u (m : Nat) : madeCells #[.int .u64 0] m = uCells (tab m (fun _ => 0)) := by
  apply Array.ext'
  simp only [madeCells, uCells, tab]
  apply List.ext_getElem?
  intro i
  by_cases hi : i < m
  · simp [hi, Nat.mod_one]
  · simp [hi]
set_option maxRecDepth 100000 in
set_option maxHeartbeats 4000000 in
theorem cells_any (v u : Value) (b : Int) (ls : List (List Int)) (aw : List Int) (w : World) (h : RwsI w v ls) (hu : RowAt .i64 w u aw) (hb : Bnd ls aw) : Calls Try.prog 12 #[.agg #[v, u, .int .i64 b]] w (ClP ls aw b w) := by
  obtain ⟨i0, hi0, hz0, hz1, hz2⟩ := info_parts info42i
  have HCK := hide (fun W (q : Below w.heap.size w W) => check_any v u b ls aw W (h.below q) (hu.below q) hb)
  obtain ⟨so, sc, rfl, hsc⟩ := h.shape
  obtain ⟨bo, bc, rfl⟩ := hu.shape
  obtain ⟨n, hn⟩ : ∃ n, n = ls.length := ⟨_, rfl⟩
  have HN := hide hn
  rw [← hn] at hsc HCK ⊢
  generalize aw.length = m at HCK ⊢
  clear h hu hb hn
  obtain ⟨X, hX⟩ : ∃ X, X = w.alloc (.cells #[.slice so n sc, .slice bo m bc, .int .i64 b] 25) := ⟨_, rfl⟩
  have HBX : Hid (Below w.heap.size w X) := by rw [hX]; exact below_alloc (Below.refl _ _) _
  have HQX : Hid (X.heap[w.heap.size]? = some (.cells #[.slice so n sc, .slice bo m bc, .int .i64 b] 25 (0, 0))) := by rw [hX]; exact heap_new _ _
  have HCC := hide (HCK.out X HBX.out)
  clear HCK
  go_enter Try.func12, Try.ntmps12
  go_wp2_with fail
  rw [← hX]
  clear hX
  refine HCC.out.mono ?_
  rintro e w1 ⟨hb1, r, rfl, hck⟩
  have HB1 := hide (below_on HBX.out hb1)
  have HCK := hide hck
  replace HQX := hide ((hb1.block _ (lt_of_heap HQX.out)).trans HQX.out)
  clear hb1 hck HCC HBX
  by_cases hr : r = 0
  · subst hr
    have hn64 : n ≤ 64 := by
      rcases HCK.out with ⟨_, e⟩ | ⟨_, q, _⟩
      · cases e
      · rw [HN.out]; exact q
    have z0 := cell_of HQX.out (i := 0) rfl
    have HA : Hid (ClA ls aw b (cl0 n) 0) := ⟨HCK.out, .inr ⟨rfl, by rw [HN.out]⟩⟩
    obtain ⟨q, hq⟩ : ∃ q, q = 4 + n := ⟨_, rfl⟩
    have hqi : (4 : Int) + (n : Int) = (q : Int) := by omega
    have hq0 : 0 < q := by omega
    have hq3 : 3 < q := by omega
    have hq3i : (3 : Int) < (q : Int) := by omega
    have hqb : q ≤ 100 := by omega
    have HQN := hide hq
    clear hq HCK
    go_upto_region 5 with (first
      | (at_make; refine wpList_make_row _ rfl _ _ 46 rfl 41 i0 (.int .u64 0) Try.underlying46 hi0 hz0 hz1 rfl _ _ q rfl rfl (by rw [hz2]; omega) (by omega) ?_)
      | fail)
    have HE : Hid (ArrU (w1.alloc (.cells (madeCells #[.int .u64 0] q) 41)) w1.heap.size (tab q (fun _ => 0))) := by rw [made_u]; exact heap_new _ _
    have HB2 : Hid (Below w.heap.size w (w1.alloc (.cells (madeCells #[.int .u64 0] q) 41))) := below_alloc HB1.out _
    have HGE : Hid (w.heap.size ≤ w1.heap.size) := HB1.out.size
    generalize (w1.alloc (.cells (madeCells #[.int .u64 0] q) 41)) = w2 at HE HB2 ⊢
    generalize w1.heap.size = g at HE HGE ⊢
    have x3 := HE.out.cell 3 (by rw [tab_length]; exact hq3)
    have xf := HE.out.free
    have HE3 := hide (HE.out.put 3 1)
    rw [tab_set] at HE3
    have HB3 := hide (HB2.out.setCell (p := ⟨g, 3, none⟩) HGE.out (.int .u64 1))
    have HC : Hid (CL w.heap.size (w2.setCell ⟨g, 3, none⟩ (.int .u64 1)) (.slice (some ⟨g, 0, none⟩) q q) (cl0 n)) := .inr ⟨g, HGE.out, by rw [cl0_len, HQN.out], by rw [cl0_len]; omega, by unfold cl0; rw [← HQN.out]; exact HE3.out⟩
    clear HE HE3 z0
    go_wp2_with fail
    go_ret2
    exact ClP.made HB3.out rfl HC.out HA.out
  · have hrb : (r != 0) = true := by simp [hr]
    have HA : Hid (ClA ls aw b [] r) := ⟨HCK.out, .inl ⟨hr, rfl⟩⟩
    clear hr HCK
    go_wp2_with fail
    go_ret2
    exact ClP.made HB1.out rfl (.inl ⟨rfl, rfl⟩) HA.out
end Go.Proofs.Ytdjkidgkeekenaa
