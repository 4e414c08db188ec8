/- Row, as the law's row wants it. -/
import Derived.Test.YtmagigmcbegmiaaGR4
namespace Go.Proofs.Ytmagigmcbegmiaa
open Go Go.RowKit Go.Lib
set_option linter.unusedVariables false
set_option linter.unusedSimpArgs false
/-- The edges of a row: ends and weights. -/
def rowS (st tl wt : List Int) (v : Nat) : List (Int × Int) := upto (fun r => (at_ tl ((at_ st v).toNat + r), at_ wt ((at_ st v).toNat + r))) (at_ st (v + 1) - at_ st v).toNat
theorem at_part (xs : List Int) (p m i : Nat) (hi : i < m) : at_ ((xs.drop p).take m) i = at_ xs (p + i) := by
  simp [at_, List.getElem?_take_of_lt hi, List.getElem?_drop]
theorem row28_good (n M : Nat) (ao bo co : Option Addr) (ca cb cc : Nat) (st tl wt : List Int) (v : Nat) (w : World) (hg : GIs w n (.slice ao (n + 1) ca) (.slice bo M cb) (.slice co M cc) st tl wt) (hgd : Good n st tl wt) (hchk : (chk n st tl wt).1 = 0) (hM : M = tl.length) (hv : v < n) :
    Calls Try.prog 28 #[.agg #[.int .i64 n, .slice ao (n + 1) ca, .slice bo M cb, .slice co M cc], .int .i64 v] w (RowPost w (rowS st tl wt v)) := by
  have r1 := hgd.range v (by omega)
  have r2 := hgd.range (v + 1) (by omega)
  have r3 := hgd.step v hv
  have hml := hgd.m_le
  obtain ⟨e1, he1⟩ : ∃ e1, e1 = (at_ st v).toNat := ⟨_, rfl⟩
  obtain ⟨m, hm⟩ : ∃ m, m = (at_ st (v + 1) - at_ st v).toNat := ⟨_, rfl⟩
  refine (Row_good n M ao bo co ca cb cc st tl wt v e1 m w hg hgd hchk hM hv (by omega) (by omega) (by omega)).mono ?_
  rintro e w' ⟨Bg, Bv, Bs, lo, lc, mo, mc, rfl, hA, hb⟩
  refine ⟨_, _, rfl, ?_, hb⟩
  have h := seq_alone hA (by omega)
  have e2 : upto (rAt ((tl.drop e1).take m) ((wt.drop e1).take m)) m = rowS st tl wt v := by
    unfold rowS upto
    rw [← he1, ← hm]
    refine List.map_congr_left fun i hi => ?_
    have hi' : i < m := by simpa using hi
    unfold rAt
    rw [at_part _ _ _ _ hi', at_part _ _ _ _ hi']
  rw [e2] at h
  exact h
set_option maxRecDepth 100000 in
set_option maxHeartbeats 400000 in
theorem row28_none (N : Int) (na nb nc : Nat) (ao bo co : Option Addr) (ca cb cc : Nat) (st tl wt : List Int) (v : Int) (w : World) (hg : GIs w N (.slice ao na ca) (.slice bo nb cb) (.slice co nc cc) st tl wt) (h1 : st.length ≤ 17592186044416) (h2 : tl.length ≤ 17592186044416) (h3 : wt.length ≤ 17592186044416) (hn : (chk N st tl wt).1 ≠ 0 ∨ ¬ IsV N v) :
    Calls Try.prog 28 #[.agg #[.int .i64 N, .slice ao na ca, .slice bo nb cb, .slice co nc cc], .int .i64 v] w (RowPost w []) := by
  obtain ⟨⟨r1, r2⟩, hrr⟩ : ∃ r, chk N st tl wt = r := ⟨_, rfl⟩
  rw [hrr] at hn
  simp only at hn
  have hck := (fun W h => check_all N (.slice ao na ca) (.slice bo nb cb) (.slice co nc cc) st tl wt W h h1 h2 h3)
  rw [hrr] at hck
  unfold gAgg at hck
  have HCK := hide hck
  have HG := hide hg
  have HIV := hide (fun W => isV_any N v W)
  have hb0 : Below w.heap.size w (w.alloc (.cells #[.int .i64 N, .slice ao na ca, .slice bo nb cb, .slice co nc cc] 25)) := below_alloc (Below.refl _ _) _
  have hx0 := heap_new w (.cells #[.int .i64 N, .slice ao na ca, .slice bo nb cb, .slice co nc cc] 25)
  have HX0 := hide hx0
  have HB0 := hide hb0
  have c0 := cell_of hx0 (i := 0) rfl
  have c1 := cell_of hx0 (i := 1) rfl
  have c2 := cell_of hx0 (i := 2) rfl
  have c3 := cell_of hx0 (i := 3) rfl
  clear hg hck hrr hx0 hb0 h1 h2 h3
  go_enter Try.func28, Try.ntmps28
  go_wp2_with fail
  generalize (w.alloc (.cells #[.int .i64 N, .slice ao na ca, .slice bo nb cb, .slice co nc cc] 25)) = w1 at c0 c1 c2 c3 HX0 HB0 ⊢
  refine (HCK.out w1 (HG.out.below HB0.out)).mono ?_
  rintro e w2 ⟨rfl, hb2⟩
  have HX2 := hide ((hb2.block _ (lt_of_heap HX0.out)).trans HX0.out)
  have HB2 := hide (below_on HB0.out hb2)
  clear c0 c1 c2 c3 HX0 HB0 hb2 HCK
  have c0 := cell_of HX2.out (i := 0) rfl
  by_cases hr : r1 = 0
  · subst hr
    have hv : ¬ IsV N v := by rcases hn with h | h
                              · exact absurd rfl h
                              · exact h
    rw [decide_eq_false hv] at HIV
    clear hv hn
    go_wp2_with (go_at_call 49; refine (HIV.out _).mono ?_; rintro e w3 ⟨rfl, rfl⟩)
    go_ret
    exact ⟨_, _, rfl, seq_none _ _, HB2.out⟩
  · have hrb : (r1 != 0) = true := by simp [hr]
    clear hn
    go_wp2_with (go_at_call 49; refine (HIV.out _).mono ?_; rintro e w3 ⟨rfl, rfl⟩)
    go_ret
    exact ⟨_, _, rfl, seq_none _ _, HB2.out⟩
theorem edS_fil {n m : Nat} {l : List Ed3} {st tl wt nx : List Int} (hs : Summed n m (eFrom l) n st) (hl : Laying n m (eFrom l) (eTo l) (eWt l) m nx tl wt) (ht : Takes n l) (hm : l.length = m) (v : Nat) (hv : v < n) : edS v (rowS st tl wt v) = fil v l := by
  have h := fil_row hs hl ht hm v hv
  rw [h]
  unfold edS rowS rowE upto
  rw [List.map_map]
  refine List.map_congr_left fun r hr => ?_
  have hmem : edgeAt n st tl wt ((at_ st v).toNat + r) ∈ fil v l := by
    rw [h]
    unfold rowE upto
    exact List.mem_map.2 ⟨r, hr, rfl⟩
  have h1 : (edgeAt n st tl wt ((at_ st v).toNat + r)).1 = (v : Int) := by
    unfold fil at hmem
    have := (List.mem_filter.1 hmem).2
    simpa using this
  unfold edgeAt at h1 ⊢
  simp only at h1
  simp [h1]
end Go.Proofs.Ytmagigmcbegmiaa
