import Derived.Test.YtdjkidgkeekenaaK4
import Derived.Test.YtdjkidgkeekenaaK2
/- slices.Index, slices.Contains and slices.Clone of ints; Over. -/
namespace Go.Proofs.Ytdjkidgkeekenaa
open Go.RowKit Go.Lib
set_option linter.unusedVariables false
set_option linter.unusedSimpArgs false
set_option maxRecDepth 100000 in
set_option maxHeartbeats 2000000 in
theorem index_any (v : Value) (l : List Int) (x : Int) (w : World) (h : RowAt .i64 w v l) (hl : l.length ≤ 17592186043904) : Calls Try.prog 47 #[v, .int .i64 x] w fun e w' => Below w.heap.size w w' ∧ ∃ r : Int, e = .returned (.int .i64 r) ∧ ((0 ≤ r ∧ x ∈ l) ∨ (r = -1 ∧ x ∉ l)) := by
  obtain ⟨ao, cap, rfl⟩ := h.shape
  have H := hide h
  obtain ⟨n, hn⟩ : ∃ n, n = l.length := ⟨_, rfl⟩
  have HN := hide hn
  rw [← hn] at H hl ⊢
  clear h hn
  go_enter Try.func47, Try.ntmps47
  go_wp2_with fail
  go_loopw [8] (fun t wr => ∃ i : Nat, i ≤ n ∧ t = .int .i64 (i : Int) ∧ Below w.heap.size w wr ∧ ∀ k, k < i → at_ l k ≠ x) (fun t _ => n - (RowKit.intOf t).toNat)
  case atStart => exact ⟨0, Nat.zero_le _, rfl, Below.refl _ _, fun k hk => absurd hk (Nat.not_lt_zero _)⟩
  case round =>
    obtain ⟨i, hin, rfl, hb, hno⟩ := hrel
    have HB := hide hb
    have HNO := hide hno
    clear hb hno
    by_cases hlt : i < n
    · have hli : (i : Int) < (n : Int) := by omega
      obtain ⟨gs, os, cc1, he1, hgs, p0⟩ := (H.out.below HB.out).cellAt i (by rw [← HN.out]; exact hlt)
      simp only [Value.slice.injEq] at he1
      obtain ⟨rfl, _⟩ := he1
      have hmem : Hid (at_ l i ∈ l) := by
        have hq : i < l.length := by rw [← HN.out]; exact hlt
        have : at_ l i = l[i] := by simp [at_, hq]
        rw [this]; exact List.getElem_mem hq
      obtain ⟨s, hs⟩ : ∃ s, s = at_ l i := ⟨_, rfl⟩
      rw [← hs] at p0 hmem
      have HSS := hide hs
      clear hs
      by_cases heq : x = s
      · subst heq
        go_wp2_with fail
        go_ret
        exact ⟨HB.out, _, rfl, .inl ⟨by omega, hmem.out⟩⟩
      · have hne : ¬ s = x := fun e => heq e.symm
        go_wp2_with fail
        exact ⟨⟨i + 1, by omega, by simp, HB.out, fun k hk => by
          rcases Nat.lt_or_ge k i with q | q
          · exact HNO.out k q
          · obtain rfl : k = i := by omega
            rw [← HSS.out]; exact hne⟩, by simp [RowKit.intOf]; omega⟩
    · obtain rfl : n = i := by omega
      go_wp2_with fail
      go_ret
      refine ⟨HB.out, _, rfl, .inr ⟨rfl, fun hm => ?_⟩⟩
      obtain ⟨k, hk, e⟩ := List.getElem_of_mem hm
      exact HNO.out k (by rw [HN.out]; exact hk) (by simp [at_, hk, e])
set_option maxRecDepth 100000 in
set_option maxHeartbeats 2000000 in
theorem contains_any (v : Value) (l : List Int) (x : Int) (w : World) (h : RowAt .i64 w v l) (hl : l.length ≤ 17592186043904) : Calls Try.prog 32 #[v, .int .i64 x] w fun e w' => Below w.heap.size w w' ∧ ∃ r : Bool, e = .returned (.bool r) ∧ (r = true ↔ x ∈ l) := by
  obtain ⟨ao, cap, rfl⟩ := h.shape
  have HI := hide (index_any _ l x w h hl)
  clear h hl
  go_enter Try.func32, Try.ntmps32
  go_wp2_with fail
  refine HI.out.mono ?_
  rintro e w1 ⟨hb, r, rfl, hr⟩
  have HB := hide hb
  have HR := hide hr
  rcases hr with ⟨h1, h2⟩ | ⟨h1, h2⟩
  · have HM := hide h2
    clear h2 hb
    go_wp2_with fail
    go_ret
    exact ⟨HB.out, true, rfl, ⟨fun _ => HM.out, fun _ => rfl⟩⟩
  · have HM := hide h2
    subst h1
    clear h2 hb
    go_wp2_with fail
    go_ret
    exact ⟨HB.out, false, rfl, ⟨fun e => (by cases e), fun q => (HM.out q).elim⟩⟩
end Go.Proofs.Ytdjkidgkeekenaa

/- Lists of words alike; slices.Clone of ints; Over. -/
namespace Go.Proofs.Ytdjkidgkeekenaa
open Go.RowKit Go.Lib
set_option linter.unusedVariables false
set_option linter.unusedSimpArgs false
set_option maxRecDepth 100000 in
set_option maxHeartbeats 2000000 in
/-- A copy of ints: nothing more is wanted of it than its length. -/
theorem clone_any (v : Value) (l : List Int) (w : World) (h0 : RowAt .i64 w v l) (hlen : l.length ≤ 17592186043904) :
    Calls Try.prog 30 #[v] w fun e w' => Below w.heap.size w w' ∧ ∃ ao c, e = .returned (.slice ao l.length c) := by
  have q23 : ∀ (w : World) (a : Option Addr) (n c n' c' : Nat), (binOp .eql 23 (.slice a n c) (.slice none n' c')).run Try.prog w = .ok (.bool a.isNone) w := fun w a n c n' c' => Lib.run_eql_slice_nil w _ _ a n c n' c' Try.underlying23
  have h := h0.iat
  obtain ⟨i0, hi0, hz0, hz1, hz2⟩ := info_parts info3i
  obtain ⟨ao, cap, rfl, hcap, h63, hnil, _⟩ := h0
  have H := hide h
  obtain ⟨n, hn⟩ : ∃ n, n = l.length := ⟨_, rfl⟩
  have HN := hide hn
  rw [← hn] at hcap H hlen ⊢
  clear h hn
  cases ao with
  | none =>
    have := hnil rfl
    subst this
    obtain rfl : n = 0 := by omega
    go_enter Try.func30, Try.ntmps30
    go_wp2_with fail
    go_ret
    exact ⟨Below.refl _ _, none, 0, rfl⟩
  | some a =>
    go_enter Try.func30, Try.ntmps30
    go_wp2_with (first
      | (at_builtin; refine wpList_freshR iA_size (by decide) rfl (.tmp 5) (.tmp 6) 23 rfl 3 i0 _ 8 Try.underlying23 hi0 hz0 hz1 hz2 rfl w.heap.size w.heap.size (own_newr w 3 _ 1 rfl) (by simp) _ l rfl rfl (H.out.below (below_alloc (Below.refl _ _) _)) (by rw [← HN.out]; omega) (by rw [← HN.out]; unfold maxLen; omega) ?_; intro v4 w4 hownA hbelA; have HBA := hide (below_on (below_alloc (Below.refl _ _) _) hbelA); obtain ⟨a4, c4, h4⟩ : ∃ a4 c4, v4 = .slice a4 l.length c4 := owns_shape hownA; subst h4; rw [← HN.out]; clear hbelA hownA)
      | fail)
    go_ret
    exact ⟨HBA.out, a4, c4, rfl⟩
end Go.Proofs.Ytdjkidgkeekenaa

/- New: a node of a circuit. -/
namespace Go.Proofs.Ytdjkidgkeekenaa
open Go.RowKit Go.Lib
set_option linter.unusedVariables false
set_option linter.unusedSimpArgs false
/-- What New and Open answer. -/
def OpA (ls : List (List Int)) (aw : List Int) (b x r : Int) : Prop :=
  (r ≠ 0 ∧ CkA ls aw b r) ∨ (CkA ls aw b 0 ∧ ((¬ (0 ≤ x ∧ x < (ls.length : Int)) ∧ r = 30) ∨ ((0 ≤ x ∧ x < (ls.length : Int)) ∧ r = 0)))
theorem OpA.one {ls : List (List Int)} {aw : List Int} {b x r r' : Int} (h : OpA ls aw b x r) (k : OpA ls aw b x r') : r = r' := by
  rcases h with ⟨h1, h2⟩ | ⟨h1, ⟨h2, rfl⟩ | ⟨h2, rfl⟩⟩ <;> rcases k with ⟨k1, k2⟩ | ⟨k1, ⟨k2, rfl⟩ | ⟨k2, rfl⟩⟩
  · exact h2.one k2
  · exact (h1 (h2.one k1)).elim
  · exact (h1 (h2.one k1)).elim
  · exact (k1 (k2.one h1)).elim
  · rfl
  · exact (h2 k2).elim
  · exact (k1 (k2.one h1)).elim
  · exact (k2 h2).elim
  · rfl
/-- A new node, as far as Tell sees it. -/
def NodeT (w : World) (B : Nat) (a : Bool) : Prop := ∃ (k i n b : Value) (v x1 x2 x3 : Value), w.heap[B]? = some (.cells #[.bool a, k, .int .i64 0, .int .u64 0, .bool false, i, n, v, b, .func (.func 31) #[] #[], x1, x2, x3] 96 (0, 0))
theorem node_store {w : World} {B : Nat} {a k p q s i n v b x1 x2 x3 : Value} (h : w.heap[B]? = some (.cells #[a, k, p, q, s, i, n, v, b, .func (.func 31) #[] #[], x1, x2, x3] 96 (0, 0))) (k' : Value) :
    NodeT (((((w.setCell ⟨B, 0, none⟩ (.bool true)).setCell ⟨B, 1, none⟩ k').setCell ⟨B, 2, none⟩ (.int .i64 0)).setCell ⟨B, 3, none⟩ (.int .u64 0)).setCell ⟨B, 4, none⟩ (.bool false)) B true ∧
    ∀ S W0, S ≤ B → Below S W0 w → Below S W0 (((((w.setCell ⟨B, 0, none⟩ (.bool true)).setCell ⟨B, 1, none⟩ k').setCell ⟨B, 2, none⟩ (.int .i64 0)).setCell ⟨B, 3, none⟩ (.int .u64 0)).setCell ⟨B, 4, none⟩ (.bool false)) := by
  refine ⟨⟨k', i, n, b, v, x1, x2, x3, ?_⟩, fun S W0 hS hb => ?_⟩
  · rw [heap_set (heap_set (heap_set (heap_set (heap_set h _) _) _) _) _]; rfl
  · exact ((((hb.setCell (p := ⟨B, 0, none⟩) hS _).setCell (p := ⟨B, 1, none⟩) hS _).setCell (p := ⟨B, 2, none⟩) hS _).setCell (p := ⟨B, 3, none⟩) hS _).setCell (p := ⟨B, 4, none⟩) hS _
def NwP (ls : List (List Int)) (aw : List Int) (b x : Int) (w : World) (e : Ending) (w' : World) : Prop := Below w.heap.size w w' ∧ ∃ p r, e = .returned (.tuple #[p, .int .i64 r]) ∧ OpA ls aw b x r ∧ (r ≠ 0 → p = .pointer none) ∧ (r = 0 → ∃ B a, p = .pointer (some ⟨B, 0, none⟩) ∧ NodeT w' B a ∧ (a = true ↔ x ∈ aw))
theorem NwP.bad {ls : List (List Int)} {aw : List Int} {b x r : Int} {w w' : World} {e : Ending} (hb : Below w.heap.size w w') (he : e = .returned (.tuple #[.pointer none, .int .i64 r])) (h : OpA ls aw b x r) (h0 : r ≠ 0) : NwP ls aw b x w e w' := ⟨hb, _, _, he, h, fun _ => rfl, fun q => (h0 q).elim⟩
theorem NwP.good {ls : List (List Int)} {aw : List Int} {b x : Int} {w w' : World} {e : Ending} {B : Nat} {a : Bool} (hb : Below w.heap.size w w') (he : e = .returned (.tuple #[.pointer (some ⟨B, 0, none⟩), .int .i64 0])) (h : OpA ls aw b x 0) (hn : NodeT w' B a) (ha : a = true ↔ x ∈ aw) : NwP ls aw b x w e w' := ⟨hb, _, _, he, h, fun q => (q rfl).elim, fun _ => ⟨B, a, rfl, hn, ha⟩⟩
set_option maxRecDepth 100000 in
set_option maxHeartbeats 4000000 in
theorem nodeNew_any (v u : Value) (b x : Int) (ls : List (List Int)) (aw : List Int) (w : World) (h : RwsI w v ls) (hu : RowAt .i64 w u aw) (hb : Bnd ls aw) : Calls Try.prog 15 #[.agg #[v, u, .int .i64 b], .int .i64 x] w (NwP ls aw b x w) := by
  have HCK := hide (fun W (q : Below w.heap.size w W) => check_any v u b ls aw W (h.below q) (hu.below q) hb)
  obtain ⟨so, sc, rfl, hsc⟩ := h.shape
  obtain ⟨bo, bc, rfl⟩ := hu.shape
  obtain ⟨n, hn⟩ : ∃ n, n = ls.length := ⟨_, rfl⟩
  have HN := hide hn
  have H := hide h
  have HU := hide hu
  have hnb := hb.n
  have HBD := hide hb
  rw [← hn] at H HCK hsc hnb ⊢
  have HIN := hide (fun W => isNode_any so bo n sc aw.length bc b x W)
  obtain ⟨W0, hW0⟩ : ∃ W0, W0 = w.alloc (.cells #[.slice so n sc, .slice bo aw.length bc, .int .i64 b] 25) := ⟨_, rfl⟩
  have hA : W0.heap[w.heap.size]? = some (.cells #[.slice so n sc, .slice bo aw.length bc, .int .i64 b] 25 (0, 0)) := by rw [hW0]; exact heap_new w _
  have HA := hide hA
  have HB0 : Hid (Below w.heap.size w W0) := by rw [hW0]; exact below_alloc (Below.refl _ _) _
  clear h hu hb hn hA
  go_enter Try.func15, Try.ntmps15
  go_wp2_with fail
  rw [← hW0]
  clear hW0
  refine (HCK.out W0 HB0.out).mono ?_
  rintro e w1 ⟨hb1, r, rfl, hr⟩
  have HB1 := hide hb1
  have HR := hide hr
  have HA1 := hide ((hb1.block _ (lt_of_heap HA.out)).trans HA.out)
  have HT1 := hide (below_on HB0.out hb1)
  clear hb1 hr HCK HA
  by_cases hr0 : r = 0
  · subst hr0
    have a0 := cell_of HA1.out (i := 0) rfl; have a1 := cell_of HA1.out (i := 1) rfl; have a2 := cell_of HA1.out (i := 2) rfl
    go_wp2_with fail
    refine (HIN.out w1).mono ?_
    rintro e w2 ⟨hb2, r2, rfl, hr2⟩
    have HB2 := hide hb2
    have HR2 := hide hr2
    have HA2 := hide ((hb2.block _ (lt_of_heap HA1.out)).trans HA1.out)
    have HT2 := hide (below_on HT1.out hb2)
    clear hb2 hr2 HIN HA1 a0 a1 a2
    cases r2
    · go_wp2_with fail
      go_ret2
      exact NwP.bad HT2.out rfl (.inr ⟨HR.out, .inl ⟨by rw [← HN.out]; exact fun q => (by cases HR2.out.2 q), rfl⟩⟩) (by decide)
    · have hx : inN n x := HR2.out.1 rfl
      obtain ⟨xx, rfl⟩ : ∃ xx : Nat, x = (xx : Int) := ⟨x.toNat, by have := hx.1; omega⟩
      have hxn : xx < n := by have := hx.2; omega
      have hxi : (xx : Int) < (n : Int) := by omega
      clear hx
      obtain ⟨gg, oo, io, ic, rfl, hgl, d0, hrow⟩ := RwsI.at (n := n) H.out xx (by rw [← HN.out]; exact hxn)
      have d1 := (below_cell HT2.out hgl).trans d0
      have HROW := hide (hrow.below HT2.out)
      have HLL := hide (HBD.out.r xx)
      have HRR := hide (Below.refl w2.heap.size w2)
      have hkp : ∀ X, Below w2.heap.size w2 X → (X.cell? ⟨w.heap.size, 0, none⟩ = some (.slice (some ⟨gg, oo, none⟩) n sc) ∧ X.cell? ⟨w.heap.size, 1, none⟩ = some (.slice bo aw.length bc) ∧ X.cell? ⟨w.heap.size, 2, none⟩ = some (.int .i64 b)) ∧ X.cell? ⟨gg, oo + xx, none⟩ = some (.slice io (rowL ls xx).length ic) := fun X hX => by
        have q := (hX.block _ (lt_of_heap HA2.out)).trans HA2.out
        exact ⟨⟨cell_of q rfl, cell_of q rfl, cell_of q rfl⟩, (below_cell hX (block_of_cell d1)).trans d1⟩
      have HKP := hide hkp
      obtain ⟨⟨y0, y1, y2⟩, y3⟩ := hkp w2 (Below.refl _ _)
      clear d0 d1 hrow hkp
      go_wp2_with fail
      refine wp_region_noPanic ?_
      go_region_held3 (fun x => x.cell? ⟨w.heap.size, 0, none⟩ = some (.slice (some ⟨gg, oo, none⟩) n sc) ∧ x.cell? ⟨w.heap.size, 1, none⟩ = some (.slice bo aw.length bc) ∧ x.cell? ⟨w.heap.size, 2, none⟩ = some (.int .i64 b) ∧ x.cell? ⟨gg, oo + xx, none⟩ = some (.slice io (rowL ls xx).length ic)) (first | go_keep | exact ⟨z0, z1, z2, z3⟩)
        (first
          | (go_at_call 30; refine (clone_any (.slice io (rowL ls xx).length ic) (rowL ls xx) _ (HROW.out.below (below_drew HRR.out)) HLL.out).mono ?_; rintro e w4 ⟨hbel, o4, c4, rfl⟩; have hB4 := below_on (a := w2) (below_drew HRR.out) hbel; obtain ⟨⟨z0, z1, z2⟩, z3⟩ := HKP.out w4 hB4; have HB4 := hide hB4; clear hbel hB4)
          | fail)
      refine NoPanic.normal ?_
      obtain ⟨X, hX⟩ : ∃ X, X = w4.alloc (.cells #[.bool false, .int .i64 0, .int .i64 0, .int .u64 0, .bool false, .int .i64 (xx : Int), .int .i64 (n : Int), .slice o4 (rowL ls xx).length c4, .int .i64 b, .func (.func 31) #[] #[], .int .u64 0, .int .u64 0, .int .u64 0] 96) := ⟨_, rfl⟩
      have hND : X.heap[w4.heap.size]? = some (.cells #[.bool false, .int .i64 0, .int .i64 0, .int .u64 0, .bool false, .int .i64 (xx : Int), .int .i64 (n : Int), .slice o4 (rowL ls xx).length c4, .int .i64 b, .func (.func 31) #[] #[], .int .u64 0, .int .u64 0, .int .u64 0] 96 (0, 0)) := by rw [hX]; exact heap_new w4 _
      have hbX : Below w2.heap.size w2 X := by rw [hX]; exact below_alloc HB4.out _
      have HND := hide hND
      have HBX := hide (below_on HT2.out hbX)
      have hBw : w.heap.size ≤ w4.heap.size := (below_on HT2.out HB4.out).size
      obtain ⟨⟨x0, x1, x2⟩, x3⟩ := HKP.out X hbX
      rw [← hX]
      have HOK : Hid (OpA ls aw b (xx : Int) 0) := .inr ⟨HR.out, .inr ⟨⟨by omega, by rw [← HN.out]; exact hxi⟩, rfl⟩⟩
      clear hX hND hbX z0 z1 z2 z3 y0 y1 y2 y3 x3
      go_wp2_with fail
      refine (contains_any (.slice bo aw.length bc) aw (xx : Int) X (HU.out.below HBX.out) HBD.out.a).mono ?_
      rintro e w5 ⟨hb5, r5, rfl, hr5⟩
      have hND5 := (hb5.block _ (lt_of_heap HND.out)).trans HND.out
      have HR5 := hide hr5
      have HB5 := hide (below_on HBX.out hb5)
      have HN5 := hide hND5
      have c7 := cell_of hND5 (i := 7) rfl
      have c0 := cell_of hND5 (i := 0) rfl
      have c1 := cell_of hND5 (i := 1) rfl
      have c2 := cell_of hND5 (i := 2) rfl
      have c3 := cell_of hND5 (i := 3) rfl
      have c4' := cell_of hND5 (i := 4) rfl
      have f0 := free_of hND5 0
      have f1 := free_of hND5 1
      have f2 := free_of hND5 2
      have f3 := free_of hND5 3
      have f4 := free_of hND5 4
      clear hb5 hr5 hND5 x0 x1 x2
      cases r5
      · go_wp2_with fail
        go_ret2
        exact NwP.good HB5.out rfl HOK.out ⟨_, _, _, _, _, _, _, _, HN5.out⟩ HR5.out
      · go_wp2_with fail
        go_ret2
        obtain ⟨m1, m2⟩ := node_store HN5.out (.int .i64 ((rowL ls xx).length : Int))
        exact NwP.good (m2 _ _ hBw HB5.out) rfl HOK.out m1 (by simpa using HR5.out)
  · have hr1 : r ≠ 0 := hr0
    go_wp2_with fail
    go_ret2
    exact NwP.bad HT1.out rfl (.inl ⟨hr1, HR.out⟩) hr1
end Go.Proofs.Ytdjkidgkeekenaa
