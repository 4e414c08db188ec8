/- The document's Check; both Cells. -/
import Derived.Test.YtdjkidgkeekenaaGreatK2
import Derived.Deep.Cut
import Derived.Deep.CutRange
import Derived.Deep.OwnRows
namespace Go.Proofs.YtdjkidgkeekenaaGreat
open Go.RowKit Go.Lib
set_option linter.unusedVariables false
set_option linter.unusedSimpArgs false
set_option maxRecDepth 100000 in
set_option maxHeartbeats 4000000 in
theorem refCheck_any (v u : Value) (b : Int) (ls : List (List Int)) (aw : List Int) (w : World) (h : RwsI w v ls) (hu : RowAt .i64 w u aw) (hb : Bnd ls aw) : Calls Tryz.prog 6 #[.agg #[v, u, .int .i64 b]] w (CkP ls aw b w) := by
  obtain ⟨so, sc, rfl, hsc⟩ := h.shape
  obtain ⟨bo, bc, rfl⟩ := hu.shape
  have H := hide h
  have HU := hide hu
  have HBD := hide hb
  obtain ⟨n, hn⟩ : ∃ n, n = ls.length := ⟨_, rfl⟩
  have HN := hide hn
  have hnb : n ≤ 5864062014634 := by rw [hn]; exact hb.n
  obtain ⟨m, hm⟩ : ∃ m, m = aw.length := ⟨_, rfl⟩
  have HM := hide hm
  have hmb : m ≤ 17592186043904 := by rw [hm]; exact hb.a
  rw [← hn] at H hsc ⊢
  rw [← hm] at HU ⊢
  clear h hu hb hn hm
  obtain ⟨X, hX⟩ : ∃ X, X = w.alloc (.cells #[.slice so n sc, .slice bo m bc, .int .i64 b] 25) := ⟨_, rfl⟩
  have HBX : Hid (Below w.heap.size w X) := by rw [hX]; exact below_alloc (Below.refl _ _) _
  have HQX : Hid (X.heap[w.heap.size]? = some (.cells #[.slice so n sc, .slice bo m bc, .int .i64 b] 25 (0, 0))) := by rw [hX]; exact heap_new _ _
  by_cases hs0 : (n : Int) < 1
  · have HR : Hid (CkA ls aw b 22) := .inl ⟨.inl (by rw [← HN.out]; omega), rfl⟩
    go_enter Tryz.func6, Tryz.ntmps6
    go_wp2_with fail
    rw [← hX]
    go_ret
    exact CkP.made HBX.out rfl HR.out
  · by_cases hs1 : (64 : Int) < (n : Int)
    · have HR : Hid (CkA ls aw b 22) := .inl ⟨.inr (by rw [← HN.out]; omega), rfl⟩
      go_enter Tryz.func6, Tryz.ntmps6
      go_wp2_with fail
      rw [← hX]
      go_ret
      exact CkP.made HBX.out rfl HR.out
    · have HSZ : Hid (1 ≤ ls.length ∧ ls.length ≤ 64) := by rw [← HN.out]; exact ⟨by omega, by omega⟩
      go_enter Tryz.func6, Tryz.ntmps6
      go_wp2_with fail
      rw [← hX]
      clear hX hs0 hs1
      have z0 := cell_of HQX.out (i := 0) rfl
      have z1 := cell_of HQX.out (i := 1) rfl
      have z2 := cell_of HQX.out (i := 2) rfl
      go_loopw [2, 4, 5] (fun va tt t wr => ∃ i : Nat, i ≤ n ∧ va = .int .i64 0 ∧ tt = .int .i64 (tot ls i : Nat) ∧ t = .int .i64 (i : Int) ∧ wr = X ∧ ∀ j, j < i → okN ls.length (rowL ls j)) (fun _ _ t _ => n - (RowKit.intOf t).toNat)
      case atStart => exact ⟨0, Nat.zero_le _, rfl, rfl, rfl, rfl, fun j hj => by omega⟩
      case round =>
        obtain ⟨i, hin, rfl, rfl, rfl, hwx, hno⟩ := hrel
        subst hwx
        have HNO := hide hno
        have htl := tot_le HBD.out.r i
        have hn64 : n ≤ 64 := by have := HSZ.out.2; rw [← HN.out] at this; exact this
        have htb : ((tot ls i : Nat) : Int) ≤ 1125899906849856 := by omega
        clear hno
        by_cases hlt : i < n
        · have hli : (i : Int) < (n : Int) := by omega
          obtain ⟨g1, o1, io, ic, e1, hg1, x1, hrow⟩ := (H.out.below HBX.out).at i (by rw [← HN.out]; exact hlt)
          subst e1
          have hrb := HBD.out.r i
          have HROW := hide hrow
          have HNX : Hid (okN n (rowL ls i) → ∀ j, j < i + 1 → okN ls.length (rowL ls j)) := fun a j hj => by
            by_cases e : j = i
            · rw [e, ← HN.out]; exact a
            · exact HNO.out j (by omega)
          have HNN : Hid (¬ okN n (rowL ls i) → CkA ls aw b 30) := fun a => .inr ⟨HSZ.out.1, HSZ.out.2, .inl ⟨⟨i, by rw [← HN.out]; exact hlt, by rw [← HN.out]; exact a⟩, rfl⟩⟩
          have HTT : Hid (tot ls (i + 1) = tot ls i + (rowL ls i).length) := rfl
          generalize rowL ls i = row at x1 HROW HNX HNN HTT hrb
          obtain ⟨rl, hrl⟩ : ∃ rl, rl = row.length := ⟨_, rfl⟩
          have HRL := hide hrl
          rw [← hrl] at x1 HROW HTT hrb
          generalize tot ls i = tt at HTT htb htl ⊢
          clear hrl hrow
          have hrbi : (rl : Int) ≤ 17592186043904 := by omega
          clear htl
          go_wp2_with fail
          go_loopw [2, 6] (fun va t wq => ∃ k : Nat, k ≤ rl ∧ va = .int .i64 0 ∧ t = .int .i64 (k : Int) ∧ wq = wr ∧ ∀ j, j < k → 0 ≤ at_ row j ∧ at_ row j < (n : Int)) (fun _ t _ => rl - (RowKit.intOf t).toNat)
          case atStart => exact ⟨0, Nat.zero_le _, rfl, rfl, rfl, fun j hj => by omega⟩
          case round =>
            obtain ⟨k, hkr, rfl, rfl, hwq, hnk⟩ := hrel
            subst hwq
            have HNK := hide hnk
            clear hnk
            by_cases hkl : k < rl
            · have hkli : (k : Int) < (rl : Int) := by omega
              obtain ⟨g2, o2, c2, e2, f0, y1⟩ := HROW.out.cellAt k (by rw [← HRL.out]; exact hkl)
              simp only [Value.slice.injEq] at e2
              obtain ⟨rfl, f1, rfl⟩ := e2
              clear f0 f1
              have HKX : Hid ((0 ≤ at_ row k ∧ at_ row k < (n : Int)) → ∀ j, j < k + 1 → 0 ≤ at_ row j ∧ at_ row j < (n : Int)) := fun a j hj => by
                by_cases e : j = k
                · rw [e]; exact a
                · exact HNK.out j (by omega)
              have HKN : Hid (¬ (0 ≤ at_ row k ∧ at_ row k < (n : Int)) → ¬ okN n row) := fun a q => a (q k (by rw [← HRL.out]; exact hkl))
              generalize at_ row k = y at y1 HKX HKN
              by_cases h0 : y < 0
              · have HR := hide (HNN.out (HKN.out (fun q => by omega)))
                go_wp2_with fail
                go_ret
                exact CkP.made HBX.out rfl HR.out
              · by_cases h1 : (n : Int) ≤ y
                · have HR := hide (HNN.out (HKN.out (fun q => by omega)))
                  go_wp2_with fail
                  go_ret
                  exact CkP.made HBX.out rfl HR.out
                · have HY := hide (HKX.out ⟨by omega, by omega⟩)
                  go_wp2_with fail
                  exact ⟨⟨k + 1, by omega, rfl, by simp, trivial, HY.out⟩, by simp [RowKit.intOf]; omega⟩
            · obtain rfl : rl = k := by omega
              have HY := hide (HNX.out (fun j hj => HNK.out j (by rw [HRL.out]; exact hj)))
              go_wp2_with fail
              exact ⟨⟨i + 1, by omega, rfl, by rw [HTT.out]; simp, by simp, trivial, HY.out⟩, by simp [RowKit.intOf]; omega⟩
        · obtain rfl : n = i := by omega
          have HALL : Hid (∀ i, i < ls.length → okN ls.length (rowL ls i)) := fun j hj => HNO.out j (by rw [HN.out]; exact hj)
          have HTE : Hid (tot ls n = tot ls ls.length) := by rw [← HN.out]; exact rfl
          by_cases ht : (10000 : Int) < ((tot ls n : Nat) : Int)
          · have HR : Hid (CkA ls aw b 22) := .inr ⟨HSZ.out.1, HSZ.out.2, .inr ⟨HALL.out, .inl ⟨by rw [← HTE.out]; omega, rfl⟩⟩⟩
            go_wp2_with fail
            go_ret
            exact CkP.made HBX.out rfl HR.out
          · have HNT : Hid (¬ 10000 < tot ls ls.length) := by rw [← HTE.out]; show ¬ _; omega
            go_wp2_with fail
            go_loopw [2, 7] (fun va t wq => ∃ k : Nat, k ≤ m ∧ va = .int .i64 0 ∧ t = .int .i64 (k : Int) ∧ wq = wr ∧ ∀ j, j < k → 0 ≤ at_ aw j ∧ at_ aw j < (n : Int)) (fun _ t _ => m - (RowKit.intOf t).toNat)
            case atStart => exact ⟨0, Nat.zero_le _, rfl, rfl, rfl, fun j hj => by omega⟩
            case round =>
              obtain ⟨k, hkr, rfl, rfl, hwq, hnk⟩ := hrel
              subst hwq
              have HNK := hide hnk
              clear hnk
              by_cases hkl : k < m
              · have hkli : (k : Int) < (m : Int) := by omega
                obtain ⟨g2, o2, c2, e2, f0, y1⟩ := (HU.out.below HBX.out).cellAt k (by rw [← HM.out]; exact hkl)
                simp only [Value.slice.injEq] at e2
                obtain ⟨rfl, f1, rfl⟩ := e2
                clear f0 f1
                have HKX : Hid ((0 ≤ at_ aw k ∧ at_ aw k < (n : Int)) → ∀ j, j < k + 1 → 0 ≤ at_ aw j ∧ at_ aw j < (n : Int)) := fun a j hj => by
                  by_cases e : j = k
                  · rw [e]; exact a
                  · exact HNK.out j (by omega)
                have HKN : Hid (¬ (0 ≤ at_ aw k ∧ at_ aw k < (n : Int)) → CkA ls aw b 30) := fun a => .inr ⟨HSZ.out.1, HSZ.out.2, .inr ⟨HALL.out, .inr ⟨HNT.out, .inl ⟨fun q => a (by rw [HN.out]; exact q k (by rw [← HM.out]; exact hkl)), rfl⟩⟩⟩⟩
                generalize at_ aw k = y at y1 HKX HKN
                by_cases h0 : y < 0
                · have HR := hide (HKN.out (fun q => by omega))
                  go_wp2_with fail
                  go_ret
                  exact CkP.made HBX.out rfl HR.out
                · by_cases h1 : (n : Int) ≤ y
                  · have HR := hide (HKN.out (fun q => by omega))
                    go_wp2_with fail
                    go_ret
                    exact CkP.made HBX.out rfl HR.out
                  · have HY := hide (HKX.out ⟨by omega, by omega⟩)
                    go_wp2_with fail
                    exact ⟨⟨k + 1, by omega, rfl, by simp, trivial, HY.out⟩, by simp [RowKit.intOf]; omega⟩
              · obtain rfl : m = k := by omega
                have HOK : Hid (okN ls.length aw) := fun j hj => by rw [← HN.out]; exact HNK.out j (by rw [HM.out]; exact hj)
                by_cases hbn : b < 0
                · have HR : Hid (CkA ls aw b 60) := .inr ⟨HSZ.out.1, HSZ.out.2, .inr ⟨HALL.out, .inr ⟨HNT.out, .inr ⟨HOK.out, .inl ⟨hbn, rfl⟩⟩⟩⟩⟩
                  go_wp2_with fail
                  go_ret
                  exact CkP.made HBX.out rfl HR.out
                · have HR : Hid (CkA ls aw b 0) := .inr ⟨HSZ.out.1, HSZ.out.2, .inr ⟨HALL.out, .inr ⟨HNT.out, .inr ⟨HOK.out, .inr ⟨hbn, rfl⟩⟩⟩⟩⟩
                  go_wp2_with fail
                  go_ret
                  exact CkP.made HBX.out rfl HR.out
/-- The cells at the start. -/
def cl0 (n : Nat) : List Int := tab (4 + n) (fun t => if t = 3 then 1 else 0)
theorem cl0_len (n : Nat) : (cl0 n).length = 4 + n := tab_length _ _
/-- A list of words: nothing, or a block of its own from lo on. -/
def CL (lo : Nat) (w : World) (v : Value) (L : List Int) : Prop := (v = .slice none 0 0 ∧ L = []) ∨ ∃ g, lo ≤ g ∧ v = .slice (some ⟨g, 0, none⟩) L.length L.length ∧ 0 < L.length ∧ ArrU w g L
theorem CL.below {lo : Nat} {w w' : World} {v : Value} {L : List Int} (h : CL lo w v L) (hb : Below w.heap.size w w') : CL lo w' v L := by
  rcases h with h | ⟨g, h1, h2, h3, h4⟩
  · exact .inl h
  · exact .inr ⟨g, h1, h2, h3, (hb.block g (lt_of_heap h4)).trans h4⟩
theorem CL.row {lo : Nat} {w : World} {v : Value} {L : List Int} (h : CL lo w v L) (hl : L.length ≤ 2000000) : RowAt .u64 w v L := by
  rcases h with ⟨rfl, rfl⟩ | ⟨g, h1, rfl, h3, h4⟩
  · exact ⟨none, 0, rfl, Nat.le_refl _, by omega, fun _ => rfl, fun a ha => by cases ha⟩
  · exact h4.row rfl (by omega)
def ClA (ls : List (List Int)) (aw : List Int) (b : Int) (L : List Int) (r : Int) : Prop := CkA ls aw b r ∧ ((r ≠ 0 ∧ L = []) ∨ (r = 0 ∧ L = cl0 ls.length))
theorem ClA.one {ls : List (List Int)} {aw : List Int} {b : Int} {L L' : List Int} {r r' : Int} (h : ClA ls aw b L r) (k : ClA ls aw b L' r') : L = L' ∧ r = r' := by
  obtain ⟨h1, h2⟩ := h
  obtain ⟨k1, k2⟩ := k
  have e := h1.one k1
  subst e
  rcases h2 with ⟨a, rfl⟩ | ⟨a, rfl⟩ <;> rcases k2 with ⟨c, rfl⟩ | ⟨c, rfl⟩
  · exact ⟨rfl, rfl⟩
  · exact (a c).elim
  · exact (c a).elim
  · exact ⟨rfl, rfl⟩
theorem ClA.len {ls : List (List Int)} {aw : List Int} {b : Int} {L : List Int} {r : Int} (h : ClA ls aw b L r) : L.length ≤ 68 := by
  obtain ⟨h1, ⟨_, rfl⟩ | ⟨rfl, rfl⟩⟩ := h
  · simp
  · rw [cl0_len]
    rcases h1 with ⟨_, e⟩ | ⟨_, h, _⟩
    · cases e
    · omega
def ClP (ls : List (List Int)) (aw : List Int) (b : Int) (w : World) (x : Ending) (w' : World) : Prop := Below w.heap.size w w' ∧ ∃ v L r, x = .returned (.tuple #[v, .int .i64 r]) ∧ CL w.heap.size w' v L ∧ ClA ls aw b L r
theorem ClP.made {ls : List (List Int)} {aw : List Int} {b r : Int} {w w' : World} {x : Ending} {v : Value} {L : List Int} (hb : Below w.heap.size w w') (hx : x = .returned (.tuple #[v, .int .i64 r])) (hv : CL w.heap.size w' v L) (h : ClA ls aw b L r) : ClP ls aw b w x w' := ⟨hb, v, L, r, hx, hv, h⟩
theorem made_u (m : Nat) : madeCells #[.int .u64 0] m = uCells (tab m (fun _ => 0)) := by
  apply Array.ext'
  simp only [madeCells, uCells, tab]
  apply List.ext_getElem?
  intro i
  by_cases hi : i < m
  · simp [hi, Nat.mod_one]
  · simp [hi]
set_option maxRecDepth 100000 in
set_option maxHeartbeats 4000000 in
theorem cells_any (v u : Value) (b : Int) (ls : List (List Int)) (aw : List Int) (w : World) (h : RwsI w v ls) (hu : RowAt .i64 w u aw) (hb : Bnd ls aw) : Calls Tryz.prog 28 #[.agg #[v, u, .int .i64 b]] w (ClP ls aw b w) := by
  obtain ⟨i0, hi0, hz0, hz1, hz2⟩ := info_parts info42i
  have HCK := hide (fun W (q : Below w.heap.size w W) => check_any v u b ls aw W (h.below q) (hu.below q) hb)
  obtain ⟨so, sc, rfl, hsc⟩ := h.shape
  obtain ⟨bo, bc, rfl⟩ := hu.shape
  obtain ⟨n, hn⟩ : ∃ n, n = ls.length := ⟨_, rfl⟩
  have HN := hide hn
  rw [← hn] at hsc HCK ⊢
  generalize aw.length = m at HCK ⊢
  clear h hu hb hn
  obtain ⟨X, hX⟩ : ∃ X, X = w.alloc (.cells #[.slice so n sc, .slice bo m bc, .int .i64 b] 25) := ⟨_, rfl⟩
  have HBX : Hid (Below w.heap.size w X) := by rw [hX]; exact below_alloc (Below.refl _ _) _
  have HQX : Hid (X.heap[w.heap.size]? = some (.cells #[.slice so n sc, .slice bo m bc, .int .i64 b] 25 (0, 0))) := by rw [hX]; exact heap_new _ _
  have HCC := hide (HCK.out X HBX.out)
  clear HCK
  go_enter Tryz.func28, Tryz.ntmps28
  go_wp2_with fail
  rw [← hX]
  clear hX
  refine HCC.out.mono ?_
  rintro e w1 ⟨hb1, r, rfl, hck⟩
  have HB1 := hide (below_on HBX.out hb1)
  have HCK := hide hck
  replace HQX := hide ((hb1.block _ (lt_of_heap HQX.out)).trans HQX.out)
  clear hb1 hck HCC HBX
  by_cases hr : r = 0
  · subst hr
    have hn64 : n ≤ 64 := by
      rcases HCK.out with ⟨_, e⟩ | ⟨_, q, _⟩
      · cases e
      · rw [HN.out]; exact q
    have z0 := cell_of HQX.out (i := 0) rfl
    have HA : Hid (ClA ls aw b (cl0 n) 0) := ⟨HCK.out, .inr ⟨rfl, by rw [HN.out]⟩⟩
    obtain ⟨q, hq⟩ : ∃ q, q = 4 + n := ⟨_, rfl⟩
    have hqi : (4 : Int) + (n : Int) = (q : Int) := by omega
    have hq0 : 0 < q := by omega
    have hq3 : 3 < q := by omega
    have hq3i : (3 : Int) < (q : Int) := by omega
    have hqb : q ≤ 100 := by omega
    have HQN := hide hq
    clear hq HCK
    go_upto_region 5 with (first
      | (at_make; refine wpList_make_row _ rfl _ _ 48 rfl 36 i0 (.int .u64 0) Tryz.underlying48 hi0 hz0 hz1 rfl _ _ q rfl rfl (by rw [hz2]; omega) (by omega) ?_)
      | fail)
    have HE : Hid (ArrU (w1.alloc (.cells (madeCells #[.int .u64 0] q) 36)) w1.heap.size (tab q (fun _ => 0))) := by rw [made_u]; exact heap_new _ _
    have HB2 : Hid (Below w.heap.size w (w1.alloc (.cells (madeCells #[.int .u64 0] q) 36))) := below_alloc HB1.out _
    have HGE : Hid (w.heap.size ≤ w1.heap.size) := HB1.out.size
    generalize (w1.alloc (.cells (madeCells #[.int .u64 0] q) 36)) = w2 at HE HB2 ⊢
    generalize w1.heap.size = g at HE HGE ⊢
    have x3 := HE.out.cell 3 (by rw [tab_length]; exact hq3)
    have xf := HE.out.free
    have HE3 := hide (HE.out.put 3 1)
    rw [tab_set] at HE3
    have HB3 := hide (HB2.out.setCell (p := ⟨g, 3, none⟩) HGE.out (.int .u64 1))
    have HC : Hid (CL w.heap.size (w2.setCell ⟨g, 3, none⟩ (.int .u64 1)) (.slice (some ⟨g, 0, none⟩) q q) (cl0 n)) := .inr ⟨g, HGE.out, by rw [cl0_len, HQN.out], by rw [cl0_len]; omega, by unfold cl0; rw [← HQN.out]; exact HE3.out⟩
    clear HE HE3 z0
    go_wp2_with fail
    go_ret2
    exact ClP.made HB3.out rfl HC.out HA.out
  · have hrb : (r != 0) = true := by simp [hr]
    have HA : Hid (ClA ls aw b [] r) := ⟨HCK.out, .inl ⟨hr, rfl⟩⟩
    clear hr HCK
    go_wp2_with fail
    go_ret2
    exact ClP.made HB1.out rfl (.inl ⟨rfl, rfl⟩) HA.out
set_option maxRecDepth 100000 in
set_option maxHeartbeats 4000000 in
theorem refCells_any (v u : Value) (b : Int) (ls : List (List Int)) (aw : List Int) (w : World) (h : RwsI w v ls) (hu : RowAt .i64 w u aw) (hb : Bnd ls aw) : Calls Tryz.prog 24 #[.agg #[v, u, .int .i64 b]] w (ClP ls aw b w) := by
  obtain ⟨i0, hi0, hz0, hz1, hz2⟩ := info_parts info42i
  have HCK := hide (fun W (q : Below w.heap.size w W) => refCheck_any v u b ls aw W (h.below q) (hu.below q) hb)
  obtain ⟨so, sc, rfl, hsc⟩ := h.shape
  obtain ⟨bo, bc, rfl⟩ := hu.shape
  obtain ⟨n, hn⟩ : ∃ n, n = ls.length := ⟨_, rfl⟩
  have HN := hide hn
  rw [← hn] at hsc HCK ⊢
  generalize aw.length = m at HCK ⊢
  clear h hu hb hn
  obtain ⟨X, hX⟩ : ∃ X, X = w.alloc (.cells #[.slice so n sc, .slice bo m bc, .int .i64 b] 25) := ⟨_, rfl⟩
  have HBX : Hid (Below w.heap.size w X) := by rw [hX]; exact below_alloc (Below.refl _ _) _
  have HQX : Hid (X.heap[w.heap.size]? = some (.cells #[.slice so n sc, .slice bo m bc, .int .i64 b] 25 (0, 0))) := by rw [hX]; exact heap_new _ _
  have HCC := hide (HCK.out X HBX.out)
  clear HCK
  go_enter Tryz.func24, Tryz.ntmps24
  go_wp2_with fail
  rw [← hX]
  clear hX
  refine HCC.out.mono ?_
  rintro e w1 ⟨hb1, r, rfl, hck⟩
  have HB1 := hide (below_on HBX.out hb1)
  have HCK := hide hck
  replace HQX := hide ((hb1.block _ (lt_of_heap HQX.out)).trans HQX.out)
  clear hb1 hck HCC HBX
  by_cases hr : r = 0
  · subst hr
    have hn64 : n ≤ 64 := by
      rcases HCK.out with ⟨_, e⟩ | ⟨_, q, _⟩
      · cases e
      · rw [HN.out]; exact q
    have z0 := cell_of HQX.out (i := 0) rfl
    have HA : Hid (ClA ls aw b (cl0 n) 0) := ⟨HCK.out, .inr ⟨rfl, by rw [HN.out]⟩⟩
    obtain ⟨q, hq⟩ : ∃ q, q = 4 + n := ⟨_, rfl⟩
    have hqi : (4 : Int) + (n : Int) = (q : Int) := by omega
    have hq0 : 0 < q := by omega
    have hq3 : 3 < q := by omega
    have hq3i : (3 : Int) < (q : Int) := by omega
    have hqb : q ≤ 100 := by omega
    have HQN := hide hq
    clear hq HCK
    go_upto_region 5 with (first
      | (at_make; refine wpList_make_row _ rfl _ _ 48 rfl 36 i0 (.int .u64 0) Tryz.underlying48 hi0 hz0 hz1 rfl _ _ q rfl rfl (by rw [hz2]; omega) (by omega) ?_)
      | fail)
    have HE : Hid (ArrU (w1.alloc (.cells (madeCells #[.int .u64 0] q) 36)) w1.heap.size (tab q (fun _ => 0))) := by rw [made_u]; exact heap_new _ _
    have HB2 : Hid (Below w.heap.size w (w1.alloc (.cells (madeCells #[.int .u64 0] q) 36))) := below_alloc HB1.out _
    have HGE : Hid (w.heap.size ≤ w1.heap.size) := HB1.out.size
    generalize (w1.alloc (.cells (madeCells #[.int .u64 0] q) 36)) = w2 at HE HB2 ⊢
    generalize w1.heap.size = g at HE HGE ⊢
    have x3 := HE.out.cell 3 (by rw [tab_length]; exact hq3)
    have xf := HE.out.free
    have HE3 := hide (HE.out.put 3 1)
    rw [tab_set] at HE3
    have HB3 := hide (HB2.out.setCell (p := ⟨g, 3, none⟩) HGE.out (.int .u64 1))
    have HC : Hid (CL w.heap.size (w2.setCell ⟨g, 3, none⟩ (.int .u64 1)) (.slice (some ⟨g, 0, none⟩) q q) (cl0 n)) := .inr ⟨g, HGE.out, by rw [cl0_len, HQN.out], by rw [cl0_len]; omega, by unfold cl0; rw [← HQN.out]; exact HE3.out⟩
    clear HE HE3 z0
    go_wp2_with fail
    go_ret2
    exact ClP.made HB3.out rfl HC.out HA.out
  · have hrb : (r != 0) = true := by simp [hr]
    have HA : Hid (ClA ls aw b [] r) := ⟨HCK.out, .inl ⟨hr, rfl⟩⟩
    clear hr HCK
    go_wp2_with fail
    go_ret2
    exact ClP.made HB1.out rfl (.inl ⟨rfl, rfl⟩) HA.out
end Go.Proofs.YtdjkidgkeekenaaGreat
