import Derived.Test.YtehlciejhegndaaKp
import Derived.Test.YtehlciejhegndaaCmP
import Derived.Maps.AppendAt
import Derived.BigRegion
import Derived.BigQuiet
import Derived.Test.YtehlciejhegndaaStG
/- Lists of lists: copies with marks behind each of them, and behind the list itself. -/
namespace Go.Proofs.Ytehlciejhegndaa
open Go.RowKit Go.Lib
set_option linter.unusedVariables false
set_option linter.unusedSimpArgs false
/-- Lists of words that lie at any address. -/
def RwsI (w : World) (v : Value) (ls : List (List Int)) : Prop := ∃ ao c, v = .slice ao ls.length c ∧ ls.length ≤ c ∧ c ≤ 9223372036854775807 ∧ ∀ i, i < ls.length → ∃ g o vi, ao = some ⟨g, o, none⟩ ∧ g < w.heap.size ∧ w.cell? ⟨g, o + i, none⟩ = some vi ∧ RowAt .u64 w vi (rowL ls i)
theorem RwsI.below {w w' : World} {v : Value} {ls : List (List Int)} (h : RwsI w v ls) (hb : Below w.heap.size w w') : RwsI w' v ls := by
  obtain ⟨ao, c, rfl, h1, h2, h3⟩ := h
  refine ⟨ao, c, rfl, h1, h2, fun i hi => ?_⟩
  obtain ⟨g, o, vi, e1, e2, e3, e4⟩ := h3 i hi
  exact ⟨g, o, vi, e1, Nat.lt_of_lt_of_le e2 hb.size, (below_cell hb e2).trans e3, e4.below hb⟩
theorem RwsI.shape {w : World} {v : Value} {ls : List (List Int)} (h : RwsI w v ls) : ∃ ao c, v = .slice ao ls.length c := by
  obtain ⟨ao, c, h, _⟩ := h; exact ⟨ao, c, h⟩
/-- A copy with its marks. -/
structure RwsM (w : World) (G C : Nat) (ls : List (List Int)) : Prop where
  gl : G < w.heap.size
  row : ∀ i, i < ls.length → ∃ g c, w.cell? ⟨G, i, none⟩ = some (.slice (some ⟨g, 0, none⟩) (rowL ls i).length c) ∧ MarkAt .u64 w g c (rowL ls i)
  last : ∃ q, w.cell? ⟨G, ls.length, none⟩ = some (.slice (some ⟨q, 0, none⟩) 1 1) ∧ w.cell? ⟨q, 0, none⟩ = some (.int .u64 71) ∧ q < w.heap.size
  cap : ls.length + 1 ≤ C ∧ C ≤ 9223372036854775807
theorem RwsM.below {w w' : World} {G C : Nat} {ls : List (List Int)} (h : RwsM w G C ls) (hb : Below w.heap.size w w') : RwsM w' G C ls := by
  refine ⟨Nat.lt_of_lt_of_le h.gl hb.size, fun i hi => ?_, ?_, h.cap⟩
  · obtain ⟨g, c, e1, e2⟩ := h.row i hi
    exact ⟨g, c, (below_cell hb h.gl).trans e1, e2.below hb⟩
  · obtain ⟨q, e1, e2, e3⟩ := h.last
    exact ⟨q, (below_cell hb h.gl).trans e1, (below_cell hb e3).trans e2, Nat.lt_of_lt_of_le e3 hb.size⟩
theorem RwsM.inc {w : World} {G C : Nat} {ls : List (List Int)} (h : RwsM w G C ls) : RwsI w (.slice (some ⟨G, 0, none⟩) ls.length C) ls := by
  refine ⟨_, C, rfl, by have := h.cap.1; omega, h.cap.2, fun i hi => ?_⟩
  obtain ⟨g, c, e1, e2⟩ := h.row i hi
  exact ⟨G, 0, _, rfl, h.gl, by rw [Nat.zero_add]; exact e1, e2.row⟩
theorem MarkAt.cell0 {k : IntKind} {w : World} {g c : Nat} {xs : List Int} (h : MarkAt k w g c xs) : ∃ x, w.cell? ⟨g, 0, none⟩ = some (.int k x) := by
  obtain ⟨g', o', c', he, _, hd⟩ := RowAt.cellAt h 0 (by simp)
  simp only [Value.slice.injEq, Option.some.injEq, Addr.mk.injEq] at he
  obtain ⟨⟨rfl, rfl, _⟩, _, _⟩ := he
  exact ⟨_, by simpa using hd⟩
/-- A row of slices is not in the block of a row of words. -/
theorem mark_ne {w : World} {g c base n : Nat} {xs : List Int} {v : Value} {vals : List Value} (h : MarkAt .u64 w g c xs) (ho : w.ownsRow base 23 1 v n vals) (h0 : n = 0 → v = .slice none 0 0) (hs : ∀ u ∈ vals, ∃ a n c, u = .slice a n c) : v.ownBlock ≠ some g := by
  intro hb
  obtain ⟨hl, ⟨rfl, _⟩ | ⟨g', cap, cur, rfl, hg, hc, r1, r2, r3, r4⟩⟩ := ho
  · cases hb
  · cases hb
    cases n with
    | zero => have := h0 rfl; cases this
    | succ n =>
      obtain ⟨x, hx⟩ := h.cell0
      obtain ⟨u, us, rfl⟩ : ∃ u us, vals = u :: us := by cases vals with | nil => simp at hl | cons u us => exact ⟨u, us, rfl⟩
      obtain ⟨a', n', c', rfl⟩ := hs u (by simp)
      have e0 : cur.toList[0]? = some (.slice a' n' c') := by
        have : (cur.toList.take ((n + 1) * 1))[0]? = some (.slice a' n' c') := by rw [r4]; rfl
        rw [List.getElem?_take_of_lt (by omega)] at this
        exact this
      have := cell_of hc (i := 0) (by rw [← Array.getElem?_toList]; exact e0)
      rw [hx] at this
      cases this
theorem MarkAt.stay {k : IntKind} {w w' : World} {g c : Nat} {xs : List Int} (h : MarkAt k w g c xs) (hb : w'.heap[g]? = w.heap[g]?) : MarkAt k w' g c xs := by
  obtain ⟨ao, c', he, h1, h2, h3, h4⟩ := h
  refine ⟨ao, c', he, h1, h2, h3, fun a ha i hi => ?_⟩
  simp only [Value.slice.injEq] at he
  obtain ⟨rfl, _, _⟩ := he
  cases ha
  rw [← h4 _ rfl i hi, Addr.add_lit]
  simp only [World.cell?, hb]
structure OutI (w wr : World) (u : Value) (i : Nat) (ls : List (List Int)) : Prop where
  ex : ∃ vals : List Value, wr.ownsRow w.heap.size 23 1 u i vals ∧ (∀ x ∈ vals, ∃ a n c, x = Value.slice a n c) ∧ ∀ j, j < i → ∃ g c, vals[j]? = some (.slice (some ⟨g, 0, none⟩) (rowL ls j).length c) ∧ g < wr.heap.size ∧ MarkAt .u64 wr g c (rowL ls j)
  zero : i = 0 → u = .slice none 0 0
  bel : Below w.heap.size w wr
theorem own_stayR {X Y : World} {S : Nat} {e : TypeId} {size : Nat} {u : Value} {n : Nat} {xs : List Value} (h : X.ownsRow S e size u n xs) (hk : ∀ g, u.ownBlock = some g → Y.heap[g]? = X.heap[g]?) : Y.ownsRow S e size u n xs := by
  obtain ⟨h0, hn | ⟨g, cap, cur, rfl, hg, hc, r⟩⟩ := h
  · exact ⟨h0, Or.inl hn⟩
  · exact ⟨h0, Or.inr ⟨g, cap, cur, rfl, hg, (hk g rfl).trans hc, r⟩⟩
theorem OutI.below {w wr w' : World} {u : Value} {i : Nat} {ls : List (List Int)} (h : OutI w wr u i ls) (hb : Below wr.heap.size wr w') : OutI w w' u i ls := by
  obtain ⟨vals, h1, h2, h3⟩ := h.ex
  refine ⟨⟨vals, own_stayR h1 (fun g hg => hb.block g (h1.lt g hg).2), h2, fun j hj => ?_⟩, h.zero, below_on h.bel hb⟩
  obtain ⟨g, c, e1, e2, e3⟩ := h3 j hj
  exact ⟨g, c, e1, Nat.lt_of_lt_of_le e2 hb.size, e3.below hb⟩
/-- One row more. -/
theorem OutI.push {w wr w' : World} {u u' : Value} {i g c : Nat} {ls : List (List Int)} {o : Obj} (h : OutI w wr u i ls) (hm : MarkAt .u64 wr g c (rowL ls i)) (hg : g < wr.heap.size) {vals : List Value} (hv : wr.ownsRow w.heap.size 23 1 u i vals) (hs : ∀ x ∈ vals, ∃ a n c, x = Value.slice a n c) (hr : ∀ j, j < i → ∃ g c, vals[j]? = some (.slice (some ⟨g, 0, none⟩) (rowL ls j).length c) ∧ g < wr.heap.size ∧ MarkAt .u64 wr g c (rowL ls j))
    (hown : w'.ownsRow w.heap.size 23 1 u' (i + 1) (vals ++ [.slice (some ⟨g, 0, none⟩) (rowL ls i).length c])) (hgr : (wr.alloc o).grownBy w' u.ownBlock) : OutI w w' u' (i + 1) ls := by
  have hk : ∀ k, k < wr.heap.size → u.ownBlock ≠ some k → w'.heap[k]? = wr.heap[k]? := fun k hk hn => (hgr.block k (by simp; omega) (fun e => hn e.symm)).trans (Below.heap_alloc _ _ _ hk)
  have hl : vals.length = i := by have := hv.1; omega
  refine ⟨⟨_, hown, fun x hx => ?_, fun j hj => ?_⟩, fun e => by omega, ?_⟩
  · rcases List.mem_append.1 hx with hx | hx
    · exact hs x hx
    · simp at hx; exact ⟨_, _, _, hx⟩
  · have hsz : wr.heap.size ≤ w'.heap.size := by have := hgr.size; simp at this; omega
    rcases Nat.lt_or_ge j i with q | q
    · obtain ⟨g', c', e1, e2, e3⟩ := hr j q
      exact ⟨g', c', by rw [List.getElem?_append_left (by omega)]; exact e1, by omega, e3.stay (hk g' e2 (mark_ne e3 hv h.zero hs))⟩
    · obtain rfl : j = i := by omega
      exact ⟨g, c, by rw [List.getElem?_append_right (by omega), hl]; simp, by omega, hm.stay (hk g hg (mark_ne hm hv h.zero hs))⟩
  · refine (below_alloc h.bel o).grown hgr (by have := h.bel.size; simp; omega) (fun j hj => (hv.lt j hj).1)
theorem mdecR {i n : Nat} (h : i < n) : n - (RowKit.intOf (.int .i64 ((i : Int) + 1))).toNat < n - (RowKit.intOf (.int .i64 (i : Int))).toNat := by simp [RowKit.intOf]; omega
theorem Try.info23 : (Try.prog.info? 23).map (fun i => (i.zero, i.size, i.bytes)) = some (some (.slice none 0 0), 1, 24) := by kernel_rfl
set_option maxRecDepth 100000 in
set_option maxHeartbeats 4000000 in
theorem rows_any (v : Value) (ls : List (List Int)) (w : World) (hr : RwsI w v ls) (hb : ∀ i, i < ls.length → (rowL ls i).length * 8 ≤ 140737488351232) (hk : ls.length * 24 ≤ 140737488351232) :
    Calls Try.prog 63 #[v] w fun e w' => ∃ G C, e = .returned (.slice (some ⟨G, 0, none⟩) ls.length C) ∧ w.heap.size ≤ G ∧ RwsM w' G C ls ∧ Below w.heap.size w w' := by
  obtain ⟨i0, hi, hz0, hz1, hz2⟩ : ∃ i, Try.prog.info? 23 = some i ∧ i.zero = some (.slice none 0 0) ∧ i.size = 1 ∧ i.bytes = 24 := by
    have := Try.info23
    cases h : Try.prog.info? 23 with
    | none => rw [h] at this; cases this
    | some i => rw [h] at this; simp at this; exact ⟨i, rfl, this.1, this.2.1, this.2.2⟩
  obtain ⟨ao, c, rfl, hc, hc63, hrow⟩ := hr
  obtain ⟨K, hK⟩ : ∃ K, K = ls.length := ⟨_, rfl⟩
  have HROW : Hid (∀ i, i < K → ∃ g o vi, ao = some ⟨g, o, none⟩ ∧ g < w.heap.size ∧ w.cell? ⟨g, o + i, none⟩ = some vi ∧ RowAt .u64 w vi (rowL ls i)) := by rw [hK]; exact hrow
  have HB : Hid (∀ i, i < K → (rowL ls i).length * 8 ≤ 140737488351232) := by rw [hK]; exact hb
  have HKK := hide hK
  rw [← hK] at hk hc ⊢
  clear hrow hb hK
  go_enter Try.func63, Try.ntmps63
  go_wp2
  go_loopw [3, 4] (fun u t wr => ∃ i : Nat, i ≤ K ∧ t = .int .i64 i ∧ Hid (OutI w wr u i ls)) (fun _ t _ => K - (RowKit.intOf t).toNat)
  case atStart => exact ⟨0, Nat.zero_le _, rfl, ⟨⟨[], World.ownsRow_nil _ _ _ _, by simp, fun j hj => absurd hj (Nat.not_lt_zero _)⟩, fun _ => rfl, Below.refl _ _⟩⟩
  case round =>
    obtain ⟨i, hik, rfl, HO⟩ := hrel
    by_cases hlt : i < K
    · obtain ⟨g, o, vi, rfl, hgl, d, hrow⟩ := HROW.out i hlt
      have d1 := (below_cell HO.out.bel hgl).trans d
      obtain ⟨vo, vc, rfl⟩ := hrow.shape
      have HC := hide (words_any _ _ wr (hrow.below HO.out.bel) (HB.out i hlt))
      have hii : (i : Int) < (K : Int) := by omega
      clear d hrow
      go_wp2_with fail
      refine HC.out.mono ?_
      rintro e w2 ⟨g2, c2, rfl, hg2, hm2, hb2⟩
      have ho2 := HO.out.below hb2
      obtain ⟨vals, hv, hs, hr⟩ := ho2.ex
      have hg2l : g2 < w2.heap.size := by
        obtain ⟨x, hx⟩ := hm2.cell0
        exact block_of_cell hx
      have hcl : ∀ (j : Nat) (z : Value), ([Value.slice (some ⟨g2, 0, none⟩) (rowL ls i).length c2] : List Value)[j]? = some z → (w2.alloc (.cells #[Value.slice (some ⟨g2, 0, none⟩) (rowL ls i).length c2] 23)).cell? ((⟨w2.heap.size, 0, none⟩ : Addr).add j) = some z := World.news_of_block (heap_new w2 _)
      have HP : Hid (∀ u' w', w'.ownsRow w.heap.size 23 1 u' (i + 1) (vals ++ [.slice (some ⟨g2, 0, none⟩) (rowL ls i).length c2]) → (w2.alloc (.cells #[Value.slice (some ⟨g2, 0, none⟩) (rowL ls i).length c2] 23)).grownBy w' u3.ownBlock → OutI w w' u' (i + 1) ls) := fun u' w' h1 h2 => ho2.push hm2 hg2l hv hs hr h1 h2
      have hsz : w.heap.size ≤ (w2.alloc (.cells #[Value.slice (some ⟨g2, 0, none⟩) (rowL ls i).length c2] 23)).heap.size := by have := ho2.bel.size; simp; omega
      clear hm2 hb2 hs hr ho2 hg2 hg2l HC HO
      go_wp2_with (first
        | (at_builtin; refine wpList_append_own_at _ rfl (.tmp 12) (.tmp 18) 39 rfl w.heap.size 23 i0 (.slice none 0 0) 1 24 Try.underlying39 hi hz0 hz1 hz2 rfl (by decide) _ _ _ rfl (hv.alloc _) ⟨w2.heap.size, 0, none⟩ 1 1 [Value.slice (some ⟨g2, 0, none⟩) (rowL ls i).length c2] rfl rfl hcl (by simp [Value.oneCell']) (by unfold maxLen; omega) (by omega) hsz ?_; intro v3 w3 hown3 hgrow3 hq3 hblk3; have HR3 := hide (HP.out v3 w3 hown3 hgrow3); clear hown3 hgrow3 hq3 hblk3 hv hcl hsz HP)
        | fail)
      exact ⟨⟨i + 1, hlt, by simp, HR3⟩, mdecR hlt⟩
    · obtain rfl : i = K := by omega
      obtain ⟨W, hW⟩ : ∃ W, W = (wr.alloc (.cells #[.int .u64 71] 26)).alloc (.cells #[Value.slice (some ⟨wr.heap.size, 0, none⟩) 1 1] 23) := ⟨_, rfl⟩
      have hbW : Below wr.heap.size wr W := by rw [hW]; exact below_alloc (below_alloc (Below.refl _ _) _) _
      have hWs : W.heap.size = wr.heap.size + 1 + 1 := by rw [hW]; simp
      have ho2 := HO.out.below hbW
      obtain ⟨vals, hv, hs, hr⟩ := ho2.ex
      have hq : W.cell? ⟨wr.heap.size, 0, none⟩ = some (.int .u64 71) := by
        rw [hW]
        exact (below_cell (below_alloc (Below.refl _ _) _) (by simp)).trans (cell_of (heap_new wr _) rfl)
      have hcl : ∀ (j : Nat) (z : Value), ([Value.slice (some ⟨wr.heap.size, 0, none⟩) 1 1] : List Value)[j]? = some z → W.cell? ((⟨wr.heap.size + 1, 0, none⟩ : Addr).add j) = some z := by
        have := World.news_of_block (heap_new (wr.alloc (.cells #[.int .u64 71] 26)) (.cells #[Value.slice (some ⟨wr.heap.size, 0, none⟩) 1 1] 23))
        rw [World.size_alloc] at this
        rw [hW]; exact this
      have HP : Hid (∀ g2 c2 w', w'.ownsRow w.heap.size 23 1 (.slice (some ⟨g2, 0, none⟩) (i + 1) c2) (i + 1) (vals ++ [.slice (some ⟨wr.heap.size, 0, none⟩) 1 1]) → W.grownBy w' u3.ownBlock → w.heap.size ≤ g2 ∧ RwsM w' g2 c2 ls ∧ Below w.heap.size w w') := fun g2 c2 w' h1 h2 => by
        have hbo : Below w.heap.size w w' := ho2.bel.grown h2 ho2.bel.size (fun j hj => (hv.lt j hj).1)
        have hl : vals.length = i := by have := hv.1; omega
        obtain ⟨_, ⟨hn, _⟩ | ⟨g', cap, cur, he, hg, hc, r1, r2, r3, r4⟩⟩ := h1
        · cases hn
        · simp only [Value.slice.injEq, Option.some.injEq, Addr.mk.injEq] at he
          obtain ⟨⟨rfl, _, _⟩, _, rfl⟩ := he
          have cel : ∀ j u, (vals ++ [Value.slice (some ⟨wr.heap.size, 0, none⟩) 1 1])[j]? = some u → w'.cell? ⟨g2, j, none⟩ = some u := fun j u hu => by
            have hj : j < i + 1 := by have := (List.getElem?_eq_some_iff.1 hu).1; simp [hl] at this; omega
            refine cell_of hc ?_
            rw [← Array.getElem?_toList, ← List.getElem?_take_of_lt (j := (i + 1) * 1) (by omega), r4]
            exact hu
          have hne : ∀ k, k < W.heap.size → u3.ownBlock ≠ some k → w'.heap[k]? = W.heap[k]? := fun k hk hn => h2.block k hk (fun e => hn e.symm)
          have hsz := h2.size
          refine ⟨hg, ⟨lt_of_heap hc, fun j hj => ?_, ⟨wr.heap.size, by rw [← HKK.out]; exact cel i _ (by rw [List.getElem?_append_right (by omega), hl]; simp), ?_, by omega⟩, ⟨by rw [← HKK.out]; exact r1, by unfold maxLen at r2; omega⟩⟩, hbo⟩
          · obtain ⟨g', c', e1, e2, e3⟩ := hr j (by rw [HKK.out]; exact hj)
            exact ⟨g', c', cel j _ (by rw [List.getElem?_append_left (by have := HKK.out; omega)]; exact e1), e3.stay (hne g' e2 (mark_ne e3 hv ho2.zero hs))⟩
          · have hnq : u3.ownBlock ≠ some wr.heap.size := fun e => by
              obtain ⟨vals0, hv0, _⟩ := HO.out.ex
              have := (hv0.lt _ e).2; omega
            have : w'.cell? ⟨wr.heap.size, 0, none⟩ = W.cell? ⟨wr.heap.size, 0, none⟩ := by
              simp only [World.cell?, hne _ (by omega) hnq]
            rw [this]; exact hq
      have hbase : w.heap.size ≤ W.heap.size := ho2.bel.size
      rw [hW] at hv hcl hbase HP
      have hii : (i : Int) ≤ (i : Int) := Int.le_refl _
      clear hq hs hr ho2 HO hWs hbW hW
      go_wp2_with (first
        | (at_builtin; refine wpList_append_lies _ rfl (.tmp 20) (.tmp 22) 39 rfl w.heap.size 23 i0 (.slice none 0 0) 1 24 Try.underlying39 hi hz0 hz1 hz2 rfl (by decide) _ _ _ rfl hv ⟨wr.heap.size + 1, 0, none⟩ 1 1 [Value.slice (some ⟨wr.heap.size, 0, none⟩) 1 1] rfl rfl hcl (by simp [Value.oneCell']) (by omega) (by unfold maxLen; omega) (by omega) hbase _ rfl ?_; intro g3 c3 w3 hown3 hgrow3 hat3 hlt3; have HR3 := hide (HP.out g3 c3 w3 hown3 hgrow3); have hcap : (i : Int) ≤ (c3 : Int) := (by have := HR3.out.2.1.cap.1; have := HKK.out; omega); have hcap2 : i ≤ c3 := (by omega); clear hown3 hgrow3 hat3 hlt3 hv hcl hbase HP)
        | fail)
      go_ret
      exact ⟨g3, c3, rfl, HR3.out⟩
set_option maxRecDepth 100000 in
set_option maxHeartbeats 4000000 in
theorem rowsKept_any (G C : Nat) (v : Value) (ls : List (List Int)) (w : World) (hm : RwsM w G C ls) (hr : RwsI w v ls) (hb : ∀ i, i < ls.length → (rowL ls i).length * 8 ≤ 140737488351232) (hk : ls.length * 24 ≤ 140737488351232) :
    Calls Try.prog 65 #[.slice (some ⟨G, 0, none⟩) ls.length C, v] w fun e w' => e = .returned (.bool true) ∧ Below w.heap.size w w' := by
  obtain ⟨hc1, hc2⟩ := hm.cap
  obtain ⟨ao, c, rfl, hc, hc63, hrow⟩ := id hr
  have HM := hide hm
  obtain ⟨K, hK⟩ : ∃ K, K = ls.length := ⟨_, rfl⟩
  have HROW : Hid (∀ W, Below w.heap.size w W → ∀ i, i < K → ∃ g o vi, ao = some ⟨g, o, none⟩ ∧ W.cell? ⟨g, o + i, none⟩ = some vi ∧ RowAt .u64 W vi (rowL ls i)) := fun W h i hi => by
    obtain ⟨g, o, vi, e1, e2, e3, e4⟩ := hrow i (by rw [← hK]; exact hi)
    exact ⟨g, o, vi, e1, (below_cell h e2).trans e3, e4.below h⟩
  have HMR : Hid (∀ W, Below w.heap.size w W → ∀ i, i < K → ∃ g c, W.cell? ⟨G, i, none⟩ = some (.slice (some ⟨g, 0, none⟩) (rowL ls i).length c) ∧ MarkAt .u64 W g c (rowL ls i)) := fun W h i hi => (hm.below h).row i (by rw [← hK]; exact hi)
  have HML : Hid (∀ W, Below w.heap.size w W → ∃ q, W.cell? ⟨G, K, none⟩ = some (.slice (some ⟨q, 0, none⟩) 1 1) ∧ W.cell? ⟨q, 0, none⟩ = some (.int .u64 71)) := fun W h => by
    obtain ⟨q, e1, e2, _⟩ := (hm.below h).last
    exact ⟨q, by rw [hK]; exact e1, e2⟩
  have HB : Hid (∀ i, i < K → (rowL ls i).length * 8 ≤ 140737488351232) := by rw [hK]; exact hb
  rw [← hK] at hk hc hc1 ⊢
  clear hrow hb hK hm hr HM
  have hw1 : IntKind.i64.wrap ((K : Int) + 1) = (K : Int) + 1 := IntWalk.i64_in _ (by omega)
  have hcc : (K : Int) + 1 ≤ (C : Int) := by omega
  go_enter Try.func65, Try.ntmps65
  go_wp2
  go_loopw [6] (fun t wr => ∃ i : Nat, i ≤ K ∧ t = .int .i64 i ∧ Below w.heap.size w wr) (fun t _ => K - (RowKit.intOf t).toNat)
  case atStart => exact ⟨0, Nat.zero_le _, rfl, Below.refl _ _⟩
  case round =>
    obtain ⟨i, hik, rfl, hbw⟩ := hrel
    have HBW := hide hbw
    by_cases hlt : i < K
    · have hii : (i : Int) < (K : Int) := by omega
      have hii1 : (i : Int) < ((K : Int) + 1) := by omega
      obtain ⟨g, o, vi, rfl, d, hrow⟩ := HROW.out wr hbw i hlt
      obtain ⟨g2, c2, d2, hmk⟩ := HMR.out wr hbw i hlt
      obtain ⟨vo, vc, rfl⟩ := hrow.shape
      have HC := hide (fun (x : GW wr) => wordsKept_any g2 c2 _ _ x.world (hmk.below x.bel) (hrow.below x.bel) (HB.out i hlt))
      have HD := fun (x : GW wr) => (below_cell x.bel (block_of_cell d)).trans d
      have HD2 := fun (x : GW wr) => (below_cell x.bel (block_of_cell d2)).trans d2
      clear d d2 hrow hmk hbw
      go_wp2_with fail
      refine wp_region_gw (by kernel_rfl) (by kernel_rfl) ?_
      repeat (go_big_quiet_step (first
        | (go_at_call 42; exact gw_of (HC.out _))
        | rfl))
      refine wpQuiet_nil ?_
      intro _ hw'
      obtain ⟨x, hw''⟩ := hw'
      subst hw''
      go_wp2
      exact ⟨⟨i + 1, hlt, by simp, below_on HBW.out x.bel⟩, mdecR hlt⟩
    · obtain rfl : i = K := by omega
      obtain ⟨q, d, d2⟩ := HML.out wr hbw
      have hii1 : (i : Int) < ((i : Int) + 1) := by omega
      clear hbw
      go_wp2
      go_ret
      exact ⟨rfl, HBW.out⟩
end Go.Proofs.Ytehlciejhegndaa

/- Marks: a copy of them, and whether it is as it was. -/
namespace Go.Proofs.Ytehlciejhegndaa
open Go.RowKit Go.Lib
set_option linter.unusedVariables false
set_option linter.unusedSimpArgs false
def mAgg (v0 v1 v2 : Value) : Value := .agg #[v0, v1, v2]
/-- Marks that lie at any address. -/
structure MkI (w : World) (v0 v1 v2 : Value) (at' : List Int) (fr ts : List (List Int)) : Prop where
  a : RowAt .i64 w v0 at'
  f : RwsI w v1 fr
  t : RwsI w v2 ts
theorem MkI.below {w w' : World} {v0 v1 v2 : Value} {at' : List Int} {fr ts : List (List Int)} (h : MkI w v0 v1 v2 at' fr ts) (hb : Below w.heap.size w w') : MkI w' v0 v1 v2 at' fr ts := ⟨h.a.below hb, h.f.below hb, h.t.below hb⟩
structure MkB (at' : List Int) (fr ts : List (List Int)) : Prop where
  a : at'.length * 8 ≤ 140737488351232
  f : fr.length * 24 ≤ 140737488351232
  t : ts.length * 24 ≤ 140737488351232
  fr_ : ∀ i, i < fr.length → (rowL fr i).length * 8 ≤ 140737488351232
  ts_ : ∀ i, i < ts.length → (rowL ts i).length * 8 ≤ 140737488351232
structure MkM (w : World) (g0 c0 G1 C1 G2 C2 : Nat) (at' : List Int) (fr ts : List (List Int)) : Prop where
  a : MarkAt .i64 w g0 c0 at'
  f : RwsM w G1 C1 fr
  t : RwsM w G2 C2 ts
theorem MkM.below {w w' : World} {g0 c0 G1 C1 G2 C2 : Nat} {at' : List Int} {fr ts : List (List Int)} (h : MkM w g0 c0 G1 C1 G2 C2 at' fr ts) (hb : Below w.heap.size w w') : MkM w' g0 c0 G1 C1 G2 C2 at' fr ts := ⟨h.a.below hb, h.f.below hb, h.t.below hb⟩
theorem MkM.inc {w : World} {g0 c0 G1 C1 G2 C2 : Nat} {at' : List Int} {fr ts : List (List Int)} (h : MkM w g0 c0 G1 C1 G2 C2 at' fr ts) : MkI w (.slice (some ⟨g0, 0, none⟩) at'.length c0) (.slice (some ⟨G1, 0, none⟩) fr.length C1) (.slice (some ⟨G2, 0, none⟩) ts.length C2) at' fr ts := ⟨h.a.row, h.f.inc, h.t.inc⟩
theorem RwsM.stay {w w' : World} {G C B : Nat} {ls : List (List Int)} (h : RwsM w G C ls) (hk : ∀ k, k ≠ B → w'.heap[k]? = w.heap[k]?) (hB : ∃ a n c, w.cell? ⟨B, 0, none⟩ = some (.slice a n c)) (hG : G ≠ B) (hs : w.heap.size ≤ w'.heap.size) : RwsM w' G C ls := by
  obtain ⟨a', n', c', hB⟩ := hB
  have hc : ∀ g o, g ≠ B → w'.cell? ⟨g, o, none⟩ = w.cell? ⟨g, o, none⟩ := fun g o hg => by simp only [World.cell?, hk g hg]
  refine ⟨Nat.lt_of_lt_of_le h.gl hs, fun i hi => ?_, ?_, h.cap⟩
  · obtain ⟨g, c, e1, e2⟩ := h.row i hi
    refine ⟨g, c, (hc G i hG).trans e1, e2.stay (hk g ?_)⟩
    rintro rfl
    obtain ⟨x, hx⟩ := e2.cell0
    rw [hx] at hB; cases hB
  · obtain ⟨q, e1, e2, e3⟩ := h.last
    refine ⟨q, (hc G _ hG).trans e1, (hc q 0 ?_).trans e2, Nat.lt_of_lt_of_le e3 hs⟩
    rintro rfl
    rw [e2] at hB; cases hB
theorem three_keep {W x : World} {A B : Nat} {p0 p1 p2 q0 q1 q2 : Value} (hA : W.heap[A]? = some (.cells #[p0, p1, p2] 41 (0, 0))) (hB : W.heap[B]? = some (.cells #[q0, q1, q2] 41 (0, 0))) (h : Below W.heap.size W x) :
    (x.cell? ⟨A, 0, none⟩ = some p0 ∧ x.cell? ⟨A, 1, none⟩ = some p1 ∧ x.cell? ⟨A, 2, none⟩ = some p2) ∧ x.heap[B]? = some (.cells #[q0, q1, q2] 41 (0, 0)) := by
  have hA' := (h.block A (lt_of_heap hA)).trans hA
  have hB' := (h.block B (lt_of_heap hB)).trans hB
  exact ⟨⟨cell_of hA' rfl, cell_of hA' rfl, cell_of hA' rfl⟩, hB'⟩
theorem marks_end {w W w3 : World} {g0 c0 G1 C1 G2 C2 : Nat} {at' : List Int} {fr ts : List (List Int)} {q1 q2 : Value} (hbW : Below w.heap.size w W) (hb3 : Below W.heap.size W w3)
    (hz : w3.heap[w.heap.size + 1]? = some (.cells #[.slice none 0 0, q1, q2] 41 (0, 0))) (h : MkM w3 g0 c0 G1 C1 G2 C2 at' fr ts) (m1 : ¬ G1 = w.heap.size + 1) (m2 : ¬ G2 = w.heap.size + 1) (v0 v1 v2 : Value) :
    (((w3.setCell ⟨w.heap.size + 1, 0, none⟩ v0).setCell ⟨w.heap.size + 1, 1, none⟩ v1).setCell ⟨w.heap.size + 1, 2, none⟩ v2).heap[w.heap.size + 1]? = some (.cells #[v0, v1, v2] 41 (0, 0)) ∧
    MkM (((w3.setCell ⟨w.heap.size + 1, 0, none⟩ v0).setCell ⟨w.heap.size + 1, 1, none⟩ v1).setCell ⟨w.heap.size + 1, 2, none⟩ v2) g0 c0 G1 C1 G2 C2 at' fr ts ∧
    Below w.heap.size w (((w3.setCell ⟨w.heap.size + 1, 0, none⟩ v0).setCell ⟨w.heap.size + 1, 1, none⟩ v1).setCell ⟨w.heap.size + 1, 2, none⟩ v2) := by
  have hB : ∃ a n c, w3.cell? ⟨w.heap.size + 1, 0, none⟩ = some (.slice a n c) := ⟨_, _, _, cell_of hz (i := 0) rfl⟩
  have hk : ∀ k, k ≠ w.heap.size + 1 → (((w3.setCell ⟨w.heap.size + 1, 0, none⟩ v0).setCell ⟨w.heap.size + 1, 1, none⟩ v1).setCell ⟨w.heap.size + 1, 2, none⟩ v2).heap[k]? = w3.heap[k]? := fun k hk => by
    rw [Below.heap_setCell _ _ _ _ (by exact hk), Below.heap_setCell _ _ _ _ (by exact hk), Below.heap_setCell _ _ _ _ (by exact hk)]
  have hs : w3.heap.size ≤ (((w3.setCell ⟨w.heap.size + 1, 0, none⟩ v0).setCell ⟨w.heap.size + 1, 1, none⟩ v1).setCell ⟨w.heap.size + 1, 2, none⟩ v2).heap.size := by simp [World.setCell]
  refine ⟨by rw [heap_set (heap_set (heap_set hz _) _) _]; rfl, ⟨h.a.stay (hk _ ?_), h.f.stay hk hB m1 hs, h.t.stay hk hB m2 hs⟩, ?_⟩
  · rintro rfl
    obtain ⟨x, hx⟩ := h.a.cell0
    obtain ⟨a', n', c', hB⟩ := hB
    rw [hx] at hB; cases hB
  · have h1 := below_on hbW hb3
    exact ((h1.setCell (p := ⟨w.heap.size + 1, 0, none⟩) (by simp) _).setCell (p := ⟨w.heap.size + 1, 1, none⟩) (by simp) _).setCell (p := ⟨w.heap.size + 1, 2, none⟩) (by simp) _
theorem Try.results29' : Try.f29.results = #[.cell 2 41] := by kernel_rfl
set_option maxRecDepth 100000 in
set_option maxHeartbeats 4000000 in
theorem marks_any (v0 v1 v2 : Value) (at' : List Int) (fr ts : List (List Int)) (w : World) (hm : MkI w v0 v1 v2 at' fr ts) (hb : MkB at' fr ts) :
    Calls Try.prog 29 #[mAgg v0 v1 v2] w fun e w' => ∃ g0 c0 G1 C1 G2 C2, e = .returned (mAgg (.slice (some ⟨g0, 0, none⟩) at'.length c0) (.slice (some ⟨G1, 0, none⟩) fr.length C1) (.slice (some ⟨G2, 0, none⟩) ts.length C2)) ∧ MkM w' g0 c0 G1 C1 G2 C2 at' fr ts ∧ Below w.heap.size w w' := by
  obtain ⟨ao, ca, rfl⟩ := hm.a.shape
  obtain ⟨bo, cb, rfl⟩ := hm.f.shape
  obtain ⟨co, cc, rfl⟩ := hm.t.shape
  have HG := hide hm
  have HBD := hide hb
  clear hm hb
  unfold mAgg
  go_enter Try.func29, Try.ntmps29
  go_wp2_with fail
  obtain ⟨W, hW⟩ : ∃ W, W = (w.alloc (.cells #[.slice ao at'.length ca, .slice bo fr.length cb, .slice co ts.length cc] 41)).alloc (.cells #[.slice none 0 0, .slice none 0 0, .slice none 0 0] 41) := ⟨_, rfl⟩
  have hbW : Below w.heap.size w W := by rw [hW]; exact below_alloc (below_alloc (Below.refl _ _) _) _
  have hA : W.heap[w.heap.size]? = some (.cells #[.slice ao at'.length ca, .slice bo fr.length cb, .slice co ts.length cc] 41 (0, 0)) := by
    rw [hW]
    exact (((Below.refl _ _).alloc (Nat.le_refl _) _).block w.heap.size (by simp)).trans (heap_new w _)
  have hB : W.heap[w.heap.size + 1]? = some (.cells #[.slice none 0 0, .slice none 0 0, .slice none 0 0] 41 (0, 0)) := by
    rw [hW]
    have := heap_new (w.alloc (.cells #[.slice ao at'.length ca, .slice bo fr.length cb, .slice co ts.length cc] 41)) (.cells #[.slice none 0 0, .slice none 0 0, .slice none 0 0] 41)
    simpa using this
  rw [← hW]
  have HA := hide hA; have HB := hide hB; have HBW := hide hbW
  have HGW := hide (HG.out.below hbW)
  obtain ⟨⟨c0, c1, c2⟩, _⟩ := three_keep hA hB (Below.refl _ W)
  have HR := hide (Below.refl W.heap.size W)
  have hWs : w.heap.size + 1 < W.heap.size := lt_of_heap hB
  clear hA hB hbW hW
  refine wp_region_noPanic ?_
  go_region_held3 (fun x => x.cell? ⟨w.heap.size, 0, none⟩ = some (.slice ao at'.length ca) ∧ x.cell? ⟨w.heap.size, 1, none⟩ = some (.slice bo fr.length cb) ∧ x.cell? ⟨w.heap.size, 2, none⟩ = some (.slice co ts.length cc)) (first | go_keep | exact ⟨z0, z1, z2⟩)
    (first
      | (go_at_call 18; refine (ints_any (.slice ao at'.length ca) at' _ (HGW.out.below (below_drew HR.out)).a HBD.out.a).mono ?_; rintro e w1 ⟨g1, cp1, rfl, hg1, hm1, hbel⟩; have hB1 := below_on (a := W) (below_drew HR.out) hbel; obtain ⟨⟨z0, z1, z2⟩, zB⟩ := three_keep HA.out HB.out hB1; have HB1 := hide hB1; have HM1 := hide hm1; clear hg1 hm1 hbel hB1 zB)
      | (go_at_call 63; have hq0 := HB2.out; clear hq0; refine (rows_any (.slice co ts.length cc) ts _ (HGW.out.below HB2.out).t HBD.out.ts_ HBD.out.t).mono ?_; rintro e w3 ⟨g3, cp3, rfl, hg3, hm3, hbel⟩; have hB3 := below_on (a := W) HB2.out hbel; have hS3 : Below w2.heap.size w2 w3 := hbel; have HS3 := hide hS3; obtain ⟨⟨z0, z1, z2⟩, zB⟩ := three_keep HA.out HB.out hB3; have p3 := HB2.out.size; have hn3 : ¬ g3 = w.heap.size + 1 := (by omega); have HN3 := hide hn3; have HB3 := hide hB3; have HM3 := hide hm3; have HZ := hide zB; have e0 : w3.cell? ⟨w.heap.size + 1, 0, none⟩ = some (.slice none 0 0) := cell_of HZ.out rfl; have e1 : w3.cell? ⟨w.heap.size + 1, 1, none⟩ = some (.slice none 0 0) := cell_of HZ.out rfl; have e2 : w3.cell? ⟨w.heap.size + 1, 2, none⟩ = some (.slice none 0 0) := cell_of HZ.out rfl; have f0 := free_of HZ.out 0; have f1 := free_of HZ.out 1; have f2 := free_of HZ.out 2; clear hn3 hg3 hm3 hbel hB3 zB hS3 p3)
      | (go_at_call 63; refine (rows_any (.slice bo fr.length cb) fr _ (HGW.out.below HB1.out).f HBD.out.fr_ HBD.out.f).mono ?_; rintro e w2 ⟨g2, cp2, rfl, hg2, hm2, hbel⟩; have hB2 := below_on (a := W) HB1.out hbel; have hS2 : Below w1.heap.size w1 w2 := hbel; have HS2 := hide hS2; obtain ⟨⟨z0, z1, z2⟩, zB⟩ := three_keep HA.out HB.out hB2; have p2 := HB1.out.size; have hn2 : ¬ g2 = w.heap.size + 1 := (by omega); have HN2 := hide hn2; have HB2 := hide hB2; have HM2 := hide hm2; clear hn2 hg2 hm2 hbel hB2 zB hS2 p2)
      | fail)
  all_goals
    refine NoPanic.normal ?_
    obtain ⟨hwf, hG, hL⟩ := marks_end HBW.out HB3.out HZ.out ⟨(HM1.out.below HS2.out).below HS3.out, HM2.out.below HS3.out, HM3.out⟩ HN2.out HN3.out (.slice (some ⟨g1, 0, none⟩) at'.length cp1) (.slice (some ⟨g2, 0, none⟩) fr.length cp2) (.slice (some ⟨g3, 0, none⟩) ts.length cp3)
    have HGG := hide hG; have HLL := hide hL; have HWF := hide hwf
    generalize (((w3.setCell ⟨w.heap.size + 1, 0, none⟩ (.slice (some ⟨g1, 0, none⟩) at'.length cp1)).setCell ⟨w.heap.size + 1, 1, none⟩ (.slice (some ⟨g2, 0, none⟩) fr.length cp2)).setCell ⟨w.heap.size + 1, 2, none⟩ (.slice (some ⟨g3, 0, none⟩) ts.length cp3)) = wf at HWF HGG HLL ⊢
    clear hG hL hwf
    go_wp2
    exact bodyPost_ret (results_cell_row Try.results29' _ wf (w.heap.size + 1) 41 _ (0, 0) _ rfl HWF.out Try.underlying41 rfl (by kernel_rfl)) rfl ⟨_, _, _, _, _, _, rfl, HGG.out, HLL.out⟩
set_option maxRecDepth 100000 in
set_option maxHeartbeats 4000000 in
theorem marksKept_any (g0 d0 G1 C1 G2 C2 : Nat) (v0 v1 v2 : Value) (at' : List Int) (fr ts : List (List Int)) (w : World) (hk : MkM w g0 d0 G1 C1 G2 C2 at' fr ts) (hm : MkI w v0 v1 v2 at' fr ts) (hb : MkB at' fr ts) :
    Calls Try.prog 31 #[mAgg (.slice (some ⟨g0, 0, none⟩) at'.length d0) (.slice (some ⟨G1, 0, none⟩) fr.length C1) (.slice (some ⟨G2, 0, none⟩) ts.length C2), mAgg v0 v1 v2] w fun e w' => e = .returned (.bool true) ∧ Below w.heap.size w w' := by
  obtain ⟨ao, ca, rfl⟩ := hm.a.shape
  obtain ⟨bo, cb, rfl⟩ := hm.f.shape
  obtain ⟨co, cc, rfl⟩ := hm.t.shape
  have HC1 := hide (fun W (h : Below w.heap.size w W) => intsKept_any g0 d0 (.slice ao at'.length ca) at' W (hk.a.below h) (hm.a.below h) hb.a)
  have HC2 := hide (fun W (h : Below w.heap.size w W) => rowsKept_any G1 C1 (.slice bo fr.length cb) fr W (hk.f.below h) (hm.f.below h) hb.fr_ hb.f)
  have HC3 := hide (fun W (h : Below w.heap.size w W) => rowsKept_any G2 C2 (.slice co ts.length cc) ts W (hk.t.below h) (hm.t.below h) hb.ts_ hb.t)
  clear hm hb hk
  obtain ⟨W, hW⟩ : ∃ W, W = (w.alloc (.cells #[.slice (some ⟨g0, 0, none⟩) at'.length d0, .slice (some ⟨G1, 0, none⟩) fr.length C1, .slice (some ⟨G2, 0, none⟩) ts.length C2] 41)).alloc (.cells #[.slice ao at'.length ca, .slice bo fr.length cb, .slice co ts.length cc] 41) := ⟨_, rfl⟩
  have hbW : Below w.heap.size w W := by rw [hW]; exact below_alloc (below_alloc (Below.refl _ _) _) _
  have hA : W.heap[w.heap.size]? = some (.cells #[.slice (some ⟨g0, 0, none⟩) at'.length d0, .slice (some ⟨G1, 0, none⟩) fr.length C1, .slice (some ⟨G2, 0, none⟩) ts.length C2] 41 (0, 0)) := by
    rw [hW]
    exact (((Below.refl _ _).alloc (Nat.le_refl _) _).block w.heap.size (by simp)).trans (heap_new w _)
  have hB : W.heap[w.heap.size + 1]? = some (.cells #[.slice ao at'.length ca, .slice bo fr.length cb, .slice co ts.length cc] 41 (0, 0)) := by
    rw [hW]
    have := heap_new (w.alloc (.cells #[.slice (some ⟨g0, 0, none⟩) at'.length d0, .slice (some ⟨G1, 0, none⟩) fr.length C1, .slice (some ⟨G2, 0, none⟩) ts.length C2] 41)) (.cells #[.slice ao at'.length ca, .slice bo fr.length cb, .slice co ts.length cc] 41)
    simpa using this
  have HA := hide hA; have HB := hide hB; have HBW := hide hbW
  have a0 := cell_of hA (i := 0) rfl; have b0 := cell_of hB (i := 0) rfl
  clear hA hB hbW
  unfold mAgg
  rw [hW] at a0 b0
  go_enter Try.func31, Try.ntmps31
  go_wp2_with fail
  rw [← hW]
  clear hW a0 b0
  refine (HC1.out W HBW.out).mono ?_
  rintro e x1 ⟨rfl, h1⟩
  have q1 := (h1.block _ (lt_of_heap HA.out)).trans HA.out
  have q2 := (h1.block _ (lt_of_heap HB.out)).trans HB.out
  have a1 := cell_of q1 (i := 1) rfl; have b1 := cell_of q2 (i := 1) rfl
  have HX1 := hide (below_on HBW.out h1); have HQ1 := hide q1; have HQ2 := hide q2
  clear h1 q1 q2
  go_wp2_with fail
  refine (HC2.out x1 HX1.out).mono ?_
  rintro e x2 ⟨rfl, h2⟩
  have q1 := (h2.block _ (lt_of_heap HQ1.out)).trans HQ1.out
  have q2 := (h2.block _ (lt_of_heap HQ2.out)).trans HQ2.out
  have a2 := cell_of q1 (i := 2) rfl; have b2 := cell_of q2 (i := 2) rfl
  have HX2 := hide (below_on HX1.out h2)
  clear h2 q1 q2 a1 b1
  go_wp2_with fail
  refine (HC3.out x2 HX2.out).mono ?_
  rintro e x3 ⟨rfl, h3⟩
  have HX3 := hide (below_on HX2.out h3)
  clear h3
  go_wp2
  go_ret
  exact ⟨rfl, HX3.out⟩
end Go.Proofs.Ytehlciejhegndaa
