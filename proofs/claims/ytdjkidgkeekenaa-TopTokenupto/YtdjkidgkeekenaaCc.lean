/- TopToken: circuit, which presses any circuit into a small one. -/
import Derived.Test.YtdjkidgkeekenaaNo
import Derived.Deep.AppendLies
import Derived.Deep.RegionLaw
import Derived.Deep.Cut
import Derived.Deep.CutRange
import Derived.Deep.RegionWith
import Derived.Deep.RegionHeld3
namespace Go.Proofs.Ytdjkidgkeekenaa
open Go.RowKit Go.Lib Go.MuLone
set_option linter.unusedVariables false
set_option linter.unusedSimpArgs false
theorem trest_any (i n : Int) (w : World) (hn : 0 < n) (hn2 : n ≤ 9223372036854775807) :
    Calls Try.prog 11 #[.int .i64 i, .int .i64 n] w fun r w' => r = .returned (.int .i64 (i % n)) ∧ w' = w := by
  have hne : ¬ n = 0 := by omega
  have E := hide (emod_of_tmod i n hn)
  have hb := Int.tmod_lt_of_pos i hn
  by_cases h : i.tmod n < 0
  · have hb2 : -9223372036854775807 < i.tmod n := by
      have := Int.tmod_lt_of_pos (-i) hn
      rw [Int.neg_tmod] at this
      omega
    go_enter Try.func11, Try.ntmps11
    go_wp2
    go_ret
    rw [E.out, if_pos h]
    exact ⟨rfl, rfl⟩
  · go_enter Try.func11, Try.ntmps11
    go_wp2
    go_ret
    rw [E.out, if_neg (by omega)]
    exact ⟨rfl, rfl⟩
def prR (n : Nat) (r : List Int) : List Int := (r.take 20).map fun x => x % (n : Int)
def prN (k : Nat) : Nat := if k = 0 then 1 else if 6 < k then 6 else k
def prL (ls : List (List Int)) (k : Nat) : List (List Int) := (List.range k).map fun i => prR (prN ls.length) (rowL ls i)
def prS (ls : List (List Int)) : List (List Int) := prL ls (prN ls.length)
def prA (n : Nat) (aw : List Int) : List Int := aw.map fun x => x % (n : Int)
theorem prN_range (k : Nat) : 1 ≤ prN k ∧ prN k ≤ 6 := by
  unfold prN; split
  · omega
  · split <;> omega
theorem prS_len (ls : List (List Int)) : (prS ls).length = prN ls.length := by simp [prS, prL]
theorem prR_len (n : Nat) (r : List Int) : (prR n r).length ≤ 20 := by simp [prR]; omega
theorem prS_row (ls : List (List Int)) (i : Nat) : (rowL (prS ls) i).length ≤ 20 := by
  unfold rowL prS prL
  by_cases h : i < prN ls.length
  · simp only [List.getElem?_map, List.getElem?_range h, Option.map_some, Option.getD_some]
    exact prR_len _ _
  · rw [List.getElem?_eq_none (by simp; omega)]
    simp
theorem prS_at (ls : List (List Int)) {i : Nat} (h : i < prN ls.length) : rowL (prS ls) i = prR (prN ls.length) (rowL ls i) := by
  unfold rowL prS prL
  simp only [List.getElem?_map, List.getElem?_range h, Option.map_some, Option.getD_some]
  rfl
theorem at_map (l : List Int) (f : Int → Int) {i : Nat} (h : i < l.length) : at_ (l.map f) i = f (at_ l i) := by simp [at_, h]
theorem okN_map {n : Nat} (hn : 1 ≤ n) (l : List Int) : okN n (l.map fun x => x % (n : Int)) := fun k hk => by
  rw [List.length_map] at hk
  rw [at_map _ _ hk]
  exact ⟨Int.emod_nonneg _ (by omega), Int.emod_lt_of_pos _ (by omega)⟩
theorem tot_pr (ls : List (List Int)) : ∀ i, tot (prS ls) i ≤ 20 * i
  | 0 => by simp [tot]
  | i + 1 => by
    have := tot_pr ls i
    have h2 := prS_row ls i
    simp only [tot]; omega
theorem ty3 {w : World} {lo n : Nat} {t : TypeId} {v : Value} {xs : List Value} (h : w.ownsRow lo t 1 v n xs) {g : Nat} (hg : v.ownBlock = some g) : lo ≤ g ∧ g < w.heap.size ∧ ∃ cs, w.heap[g]? = some (.cells cs t (0, 0)) := by
  obtain ⟨a, b⟩ := h.lt g hg
  refine ⟨a, b, ?_⟩
  obtain ⟨_, ⟨rfl, _⟩ | ⟨g', cap, cur, rfl, hg', hc, _⟩⟩ := h
  · cases hg
  · cases hg; exact ⟨cur, hc⟩
theorem neT {w : World} {a c : Nat} {x y : Array Value} {s t : TypeId} (h : w.heap[a]? = some (.cells x s (0, 0))) (k : w.heap[c]? = some (.cells y t (0, 0))) (e : s ≠ t) : a ≠ c := by
  intro q; subst q; rw [h] at k; simp only [Option.some.injEq, Obj.cells.injEq] at k; exact e k.2.1
/-- A circuit that is being pressed. -/
structure CirM (w wr : World) (so bo : Option Addr) (sc bc : Nat) (b b4 : Int) (n : Nat) (ls : List (List Int)) (aw : List Int) (u0 : Value) (k : Nat) : Prop where
  bel : Below w.heap.size w wr
  bx : wr.heap[w.heap.size]? = some (.cells #[.slice so ls.length sc, .slice bo aw.length bc, .int .i64 b] 25 (0, 0))
  rs : wr.heap[w.heap.size + 1]? = some (.cells #[.slice none 0 0, .slice none 0 0, .int .i64 0] 25 (0, 0))
  d : wr.heap[w.heap.size + 2]? = some (.cells #[u0, .slice none 0 0, .int .i64 b4] 25 (0, 0))
  os : ∃ vals, wr.ownsRow (w.heap.size + 3) 23 1 u0 k vals ∧ ∀ j, j < k → ∃ v, vals[j]? = some v ∧ Snd wr (w.heap.size + 3) v (prR n (rowL ls j))
section
variable {w wr wr' : World} {so bo : Option Addr} {sc bc : Nat} {b b4 : Int} {n : Nat} {ls : List (List Int)} {aw : List Int} {u0 u1 : Value} {k m : Nat}
theorem CirM.below (h : CirM w wr so bo sc bc b b4 n ls aw u0 k) (hb : Below wr.heap.size wr wr') : CirM w wr' so bo sc bc b b4 n ls aw u0 k := by
  obtain ⟨vals, h1, h2⟩ := h.os
  exact ⟨below_on h.bel hb, (hb.block _ (lt_of_heap h.bx)).trans h.bx, (hb.block _ (lt_of_heap h.rs)).trans h.rs, (hb.block _ (lt_of_heap h.d)).trans h.d, ⟨vals, own_stayR h1 (fun g hg => hb.block _ (h1.lt g hg).2), fun j hj => by
    obtain ⟨v, e1, e2⟩ := h2 j hj
    exact ⟨v, e1, e2.below hb⟩⟩⟩
theorem CirM.low (h : CirM w wr so bo sc bc b b4 n ls aw u0 k) : w.heap.size + 3 ≤ wr.heap.size := lt_of_heap h.d
theorem CirM.pushS (h : CirM w wr so bo sc bc b b4 n ls aw u0 k) {v : Value} (hv : Snd wr (w.heap.size + 3) v (prR n (rowL ls k))) {vals : List Value} (hvs : wr.ownsRow (w.heap.size + 3) 23 1 u0 k vals) (hall : ∀ j, j < k → ∃ v, vals[j]? = some v ∧ Snd wr (w.heap.size + 3) v (prR n (rowL ls j))) {w2 : World} {g2 c2 : Nat}
    (hown : w2.ownsRow (w.heap.size + 3) 23 1 (.slice (some ⟨g2, 0, none⟩) (k + 1) c2) (k + 1) (vals ++ [v])) (hgr : (wr.alloc (.cells #[v] 23)).grownBy w2 u0.ownBlock) :
    (w2.heap[w.heap.size + 2]? = some (.cells #[u0, .slice none 0 0, .int .i64 b4] 25 (0, 0))) ∧ CirM w (w2.setCell ⟨w.heap.size + 2, 0, none⟩ (.slice (some ⟨g2, 0, none⟩) (k + 1) c2)) so bo sc bc b b4 n ls aw (.slice (some ⟨g2, 0, none⟩) (k + 1) c2) (k + 1) := by
  have hl : vals.length = k := by have := hvs.1; omega
  have hk : ∀ {j : Nat} {cs : Array Value} {t : TypeId}, wr.heap[j]? = some (.cells cs t (0, 0)) → t ≠ 23 → w2.heap[j]? = wr.heap[j]? := fun {j cs t} hj ht => (hgr.block j (by have := lt_of_heap hj; simp; omega) (fun e => by
    obtain ⟨_, _, cs', h3⟩ := ty3 hvs e.symm
    exact neT hj h3 ht rfl)).trans (Below.heap_alloc _ _ _ (lt_of_heap hj))
  have hs : ∀ {j : Nat} {cs : Array Value} {t : TypeId}, wr.heap[j]? = some (.cells cs t (0, 0)) → t ≠ 23 → j ≠ w.heap.size + 2 → (w2.setCell ⟨w.heap.size + 2, 0, none⟩ (.slice (some ⟨g2, 0, none⟩) (k + 1) c2)).heap[j]? = wr.heap[j]? := fun hj ht hn => (Below.heap_setCell _ _ _ _ hn).trans (hk hj ht)
  have hd := (hk h.d (by decide)).trans h.d
  have hlow := h.low
  have hsn : ∀ {x : Value} {l : List Int}, Snd wr (w.heap.size + 3) x l → Snd (w2.setCell ⟨w.heap.size + 2, 0, none⟩ (.slice (some ⟨g2, 0, none⟩) (k + 1) c2)) (w.heap.size + 3) x l := fun {x l} hx => hx.stay fun g hg => by
    obtain ⟨cs, ht⟩ := hx.typ hg
    have := (World.ownsRow.lt hx g hg).1
    exact hs ht (by decide) (by omega)
  refine ⟨hd, ?_, ?_, ?_, by rw [heap_set hd]; rfl, ⟨vals ++ [v], own_stayR hown (fun g hg => Below.heap_setCell _ _ _ _ (by have := (hown.lt g hg).1; simp; omega)), fun j hj => ?_⟩⟩
  · refine ((below_alloc h.bel _).grown hgr (by have := h.bel.size; simp; omega) (fun j hj => by have := (hvs.lt j hj).1; omega)).setCell (p := ⟨w.heap.size + 2, 0, none⟩) (by simp) _
  · exact (hs h.bx (by decide) (by omega)).trans h.bx
  · exact (hs h.rs (by decide) (by omega)).trans h.rs
  · rcases Nat.lt_or_ge j k with q | q
    · obtain ⟨x, e1, e2⟩ := hall j q
      exact ⟨x, by rw [List.getElem?_append_left (by omega)]; exact e1, hsn e2⟩
    · obtain rfl : j = k := by omega
      exact ⟨v, by rw [List.getElem?_append_right (by omega), hl]; simp, hsn hv⟩
theorem prA_take {n : Nat} {aw : List Int} {m : Nat} (h : m < aw.length) : (prA n (aw.take (m + 1))).map (Value.int .i64) = (prA n (aw.take m)).map (Value.int .i64) ++ [Value.int .i64 (at_ aw m % (n : Int))] := by
  unfold prA
  rw [List.take_succ_eq_append_getElem h, List.map_append, List.map_append]
  congr 1
  simp [at_, h]
/-- The awake ones under way. -/
structure CirA (w wz wr : World) (b4 : Int) (n : Nat) (aw : List Int) (u0 u1 : Value) (m : Nat) : Prop where
  c : Chg (fun j => j = w.heap.size + 2) wz wr
  d : wr.heap[w.heap.size + 2]? = some (.cells #[u0, u1, .int .i64 b4] 25 (0, 0))
  oa : wr.ownsRow wz.heap.size 3 1 u1 m ((prA n (aw.take m)).map (Value.int .i64))
theorem CirA.push {wz : World} (h : CirA w wz wr b4 n aw u0 u1 m) (hD : w.heap.size + 2 < wz.heap.size) (hm : m < aw.length) {X w2 : World} (hX : Below wr.heap.size wr X) {g2 c2 : Nat} {x : Int} (hx : x = at_ aw m % (n : Int))
    (hown : w2.ownsRow wz.heap.size 3 1 (.slice (some ⟨g2, 0, none⟩) (m + 1) c2) (m + 1) ((prA n (aw.take m)).map (Value.int .i64) ++ [Value.int .i64 x])) (hgr : X.grownBy w2 u1.ownBlock) :
    w2.cell? ⟨w.heap.size + 2, 1, none⟩ = some u1 ∧ w2.frozen? ⟨w.heap.size + 2, 1, none⟩ = false ∧ CirA w wz (w2.setCell ⟨w.heap.size + 2, 1, none⟩ (.slice (some ⟨g2, 0, none⟩) (m + 1) c2)) b4 n aw u0 (.slice (some ⟨g2, 0, none⟩) (m + 1) c2) (m + 1) := by
  have hd : w2.heap[w.heap.size + 2]? = some (.cells #[u0, u1, .int .i64 b4] 25 (0, 0)) := by
    rw [hgr.block _ (Nat.lt_of_lt_of_le (lt_of_heap h.d) hX.size) (fun e => by have := (h.oa.lt _ e.symm).1; omega), hX.block _ (lt_of_heap h.d), h.d]
  refine ⟨cell_of hd rfl, free_of hd _, ?_, by rw [heap_set hd]; rfl, ?_⟩
  · exact (((h.c.trans (Chg.of_below hX)).grown hgr (fun j hj => .inr (h.oa.lt j hj).1))).setCell (p := ⟨w.heap.size + 2, 1, none⟩) rfl _
  · rw [prA_take hm, ← hx]
    exact own_stayR hown (fun g hg => Below.heap_setCell _ _ _ _ (by have := (hown.lt g hg).1; simp; omega))
end

theorem prR_take {n : Nat} {r : List Int} {m : Nat} (h : m < r.length) (h20 : m < 20) : (((r.take m).map fun x => x % (n : Int)).map (Value.int .i64)) ++ [Value.int .i64 (at_ r m % (n : Int))] = ((r.take (m + 1)).map fun x => x % (n : Int)).map (Value.int .i64) := by
  rw [List.take_succ_eq_append_getElem h, List.map_append, List.map_append]
  congr 1
  simp [at_, h]
theorem Try.results4 : Try.f4.results = #[.cell 2 25] := by kernel_rfl
theorem prR_snd {w : World} {lo n j : Nat} {v : Value} {R : List Int} (h : w.ownsRow lo 3 1 v j (((R.take j).map fun x => x % (n : Int)).map (Value.int .i64))) (hj : j ≤ R.length) (e : j = 20 ∨ (j ≤ 20 ∧ j = R.length)) : Snd w lo v (prR n R) := by
  have e1 : prR n R = (R.take j).map fun x => x % (n : Int) := by
    unfold prR
    rcases e with rfl | ⟨e, rfl⟩
    · rfl
    · rw [List.take_of_length_le e, List.take_of_length_le (Nat.le_refl _)]
  have e2 : ((R.take j).map fun x => x % (n : Int)).length = j := by simp; omega
  unfold Snd
  rw [e1, e2]
  exact h
theorem CirM.rws {w wr : World} {so bo : Option Addr} {sc bc : Nat} {b b4 : Int} {ls : List (List Int)} {aw : List Int} {u0 : Value} (h : CirM w wr so bo sc bc b b4 (prN ls.length) ls aw u0 (prN ls.length)) {wz : World} (hno : ∀ j, w.heap.size + 3 ≤ j → j < wr.heap.size → wz.heap[j]? = wr.heap[j]?) : RwsI wz u0 (prS ls) := by
  obtain ⟨vals, ho, hall⟩ := h.os
  have hlen : vals.length = prN ls.length := by have := ho.1; omega
  obtain ⟨_, ⟨e, e2⟩ | ⟨g, cap, cur, rfl, hg, hc, hcap, hvals⟩⟩ := ho
  · have := prN_range ls.length; omega
  have hgw := hno _ hg (lt_of_heap hc)
  refine ⟨some ⟨g, 0, none⟩, cap, by rw [prS_len], by rw [prS_len]; exact hcap, by have := hvals.1; unfold maxLen at this; omega, fun i hi => ?_⟩
  rw [prS_len] at hi
  obtain ⟨v, e1, e2⟩ := hall i hi
  have e3 : Snd wz (w.heap.size + 3) v (prR (prN ls.length) (rowL ls i)) := e2.stay fun q hq => hno _ (World.ownsRow.lt e2 q hq).1 (World.ownsRow.lt e2 q hq).2
  have e4 : RowAt .i64 wz v (rowL (prS ls) i) := by rw [prS_at ls hi]; exact e3.row
  refine ⟨g, 0, v, rfl, lt_of_heap (hgw.trans hc), ?_, e4⟩
  have hci : cur[i]? = some v := by
    have h1 : (cur.toList.take (prN ls.length * 1))[i]? = some v := by rw [hvals.2.2]; exact e1
    rw [List.getElem?_take, if_pos (by omega)] at h1
    simpa using h1
  simpa using cell_of (hgw.trans hc) hci
/-- What circuit makes. -/
def CirP (w : World) (b : Int) (ls : List (List Int)) (aw : List Int) (e : Ending) (w' : World) : Prop :=
  ∃ u0 u1, e = .returned (.agg #[u0, u1, .int .i64 (b % 4)]) ∧ Below w.heap.size w w' ∧ RwsI w' u0 (prS ls) ∧ RowAt .i64 w' u1 (prA (prN ls.length) aw)
set_option maxRecDepth 100000 in
set_option maxHeartbeats 4000000 in
theorem circuit_any (v0 v1 : Value) (b : Int) (ls : List (List Int)) (aw : List Int) (w : World) (hr : RwsI w v0 ls) (ha : RowAt .i64 w v1 aw) (hN : Bnd ls aw) :
    Calls Try.prog 4 #[.agg #[v0, v1, .int .i64 b]] w fun e w' => CirP w b ls aw e w' := by
  obtain ⟨so, sc, rfl, hsc⟩ := hr.shape
  obtain ⟨bo, bc, rfl⟩ := ha.shape
  have HRW := hide (fun W (hb : Below w.heap.size w W) => hr.below hb)
  have HAW := hide (fun W (hb : Below w.heap.size w W) => ha.below hb)
  have HN := hide hN
  obtain ⟨X0, hX0⟩ : ∃ X0, X0 = (w.alloc (.cells #[.slice so ls.length sc, .slice bo aw.length bc, .int .i64 b] 25)).alloc (.cells #[.slice none 0 0, .slice none 0 0, .int .i64 0] 25) := ⟨_, rfl⟩
  have HB := hide (show Below w.heap.size w X0 by rw [hX0]; exact below_alloc (below_alloc (Below.refl _ _) _) _)
  have HA := hide (show X0.heap[w.heap.size]? = some (.cells #[.slice so ls.length sc, .slice bo aw.length bc, .int .i64 b] 25 (0, 0)) by rw [hX0]; exact heap_old (heap_new _ _) _)
  have HZ := hide (show X0.heap[w.heap.size + 1]? = some (.cells #[.slice none 0 0, .slice none 0 0, .int .i64 0] 25 (0, 0)) by rw [hX0]; have := heap_new (w.alloc (.cells #[.slice so ls.length sc, .slice bo aw.length bc, .int .i64 b] 25)) (.cells #[.slice none 0 0, .slice none 0 0, .int .i64 0] 25); simpa using this)
  have HSZ := hide (show X0.heap.size = w.heap.size + 2 by rw [hX0]; simp)
  have a0 := cell_of HA.out (i := 0) rfl; have a1 := cell_of HA.out (i := 1) rfl; have a2 := cell_of HA.out (i := 2) rfl
  have hlen := hN.n
  have hlena := hN.a
  clear hr ha hN hsc
  rw [hX0] at a0 a1 a2
  go_enter Try.func4, Try.ntmps4
  go_upto_if 13 with fail
  rw [← hX0]
  rw [← hX0] at a0 a1 a2
  clear hX0
  go_cut [3] from 13 to 14 (fun a wx => ∃ m : Nat, a = .int .i64 (m : Int) ∧ m = (if 6 < ls.length then 6 else ls.length) ∧ X0 = wx)
  case first =>
    by_cases h6 : 6 < ls.length
    · have h6i : (6 : Int) < (ls.length : Int) := by omega
      go_wp2_with fail
      go_meet
      case rel => exact ⟨6, rfl, by rw [if_pos h6], rfl⟩
    · have h6i : ¬ (6 : Int) < (ls.length : Int) := by omega
      go_wp2_with fail
      go_meet
      case rel => exact ⟨ls.length, rfl, by rw [if_neg h6], rfl⟩
  case rest =>
  obtain ⟨m, rfl, hm, rfl⟩ := hcut
  have HM := hide hm
  have hmb : m ≤ 6 := by rw [hm]; split <;> omega
  clear hm
  go_upto_if 15 with fail
  go_cut [3] from 15 to 16 (fun a wx => ∃ n : Nat, a = .int .i64 (n : Int) ∧ n = prN ls.length ∧ X0 = wx)
  case first =>
    by_cases h0 : m = 0
    · have h0i : (m : Int) = 0 := by omega
      have hb0 : ((m : Int) == 0) = true := by simp [h0]
      have HP := hide (show 1 = prN ls.length by
        have := HM.out
        unfold prN
        rw [if_pos (by rw [h0] at this; split at this <;> omega)])
      clear h0
      go_wp2_with fail
      go_meet
      case rel => exact ⟨1, rfl, HP.out, rfl⟩
    · have hb0 : ((m : Int) == 0) = false := by simp [h0]
      have HP := hide (show m = prN ls.length by
        have := HM.out
        unfold prN
        split at this
        · rw [if_neg (by omega), if_pos (by omega)]; exact this
        · rw [if_neg (by omega), if_neg (by omega)]; exact this)
      clear h0
      go_wp2_with fail
      go_meet
      case rel => exact ⟨m, rfl, HP.out, rfl⟩
  case rest =>
  obtain ⟨n, rfl, hn, rfl⟩ := hcut
  have HNN := hide hn
  have hnr : 1 ≤ n ∧ n ≤ 6 := by rw [hn]; exact prN_range _
  clear hn hmb HM
  obtain ⟨b4, hb4⟩ : ∃ b4, b4 = b % 4 := ⟨_, rfl⟩
  have HR4 := hide (fun W => trest_any b 4 W (by omega) (by omega))
  rw [← hb4] at HR4
  have HB4 := hide hb4
  clear hb4
  obtain ⟨Y0, hY0⟩ : ∃ Y0, Y0 = X0.alloc (.cells #[.slice none 0 0, .slice none 0 0, .int .i64 b4] 25) := ⟨_, rfl⟩
  have HC0 : Hid (CirM w Y0 so bo sc bc b b4 n ls aw (.slice none 0 0) 0) := by
    refine ⟨?_, ?_, ?_, ?_, ⟨[], World.ownsRow_nil _ _ _ _, fun j hj => absurd hj (Nat.not_lt_zero _)⟩⟩
    · rw [hY0]; exact below_alloc HB.out _
    · rw [hY0]; exact heap_old HA.out _
    · rw [hY0]; exact heap_old HZ.out _
    · rw [hY0, ← HSZ.out]; exact heap_new _ _
  go_upto_region 7 with (first
    | (go_at_call 11; refine (HR4.out _).mono ?_; rintro e w1 ⟨rfl, rfl⟩)
    | fail)
  rw [← hY0, HSZ.out]
  obtain ⟨i0, hi0, hz0, hz1, hz2⟩ := info_parts info23i
  obtain ⟨i3, hi3, hy0, hy1, hy2⟩ := info_parts info3i
  clear hY0 a0 a1 a2 HA HZ HB HR4
  have HN1 := hide hnr
  go_wp2_with fail
  go_loopw [5] (fun t wr => ∃ (k : Nat) (u0 : Value), k ≤ n ∧ t = .int .i64 (k : Int) ∧ Hid (CirM w wr so bo sc bc b b4 n ls aw u0 k)) (fun t _ => n - (RowKit.intOf t).toNat)
  case atStart => exact ⟨0, _, Nat.zero_le _, rfl, HC0⟩
  case round =>
    rename World => wo
    obtain ⟨k, u0, hkn, rfl, HC⟩ := hrel
    clear HC0
    have c0 := cell_of HC.out.bx (i := 0) rfl; have c1 := cell_of HC.out.bx (i := 1) rfl
    by_cases hlt : k < n
    · have hki : (k : Int) < (n : Int) := by omega
      have hrk := fun W (hb : Below w.heap.size w W) (hk : k < ls.length) => (HRW.out W hb).at k hk
      have hrem : ¬ k < ls.length → rowL ls k = [] := fun h => by unfold rowL; rw [List.getElem?_eq_none (by omega)]; rfl
      have hrb := HN.out.r k
      obtain ⟨R, hR⟩ : ∃ R, R = rowL ls k := ⟨_, rfl⟩
      rw [← hR] at hrb hrem
      simp only [← hR] at hrk
      have HRK := hide hrk
      have HREM := hide hrem
      have HRB := hide hrb
      have HRE := hide hR
      clear hrem hrb hrk hR
      go_upto_if 29 with fail
      go_cut [6, 7] from 29 to 56 (fun a b wx => Below wo.heap.size wo wx ∧ Snd wx wo.heap.size a (prR n R))
      case first =>
        by_cases hkl : k < ls.length
        · have hkli : (k : Int) < (ls.length : Int) := by omega
          obtain ⟨g, o, io, ic, e1, hg1, x1, hrow⟩ := HRK.out wo HC.out.bel hkl
          subst e1
          have HROW := hide hrow
          have HRB2 := HRB.out
          have HB0 := hide (lt_of_heap HC.out.bx)
          have X1 := hide x1
          have HX := hide (fun W (hb : Below wo.heap.size wo W) => (below_cell hb (block_of_cell x1)).trans x1)
          clear hrow x1
          go_wp2_with fail
          go_loopw [6, 7] (fun v t wq => ∃ j : Nat, j ≤ R.length ∧ j ≤ 20 ∧ t = .int .i64 (j : Int) ∧ Hid (Below wo.heap.size wo wq) ∧ Hid (wq.ownsRow wo.heap.size 3 1 v j (((R.take j).map fun x => x % (n : Int)).map (Value.int .i64)))) (fun _ t _ => R.length - (RowKit.intOf t).toNat)
          case atStart => exact ⟨0, Nat.zero_le _, Nat.zero_le _, rfl, Below.refl _ _, World.ownsRow_nil _ _ _ _⟩
          case round =>
            obtain ⟨j, hjR, hj20, rfl, HBJ, HO⟩ := hrel
            have y0 := HX.out wr HBJ.out
            obtain ⟨vo, vc, rfl⟩ := owns_shape HO.out
            have c0 := cell_of ((HBJ.out.block _ HB0.out).trans HC.out.bx) (i := 0) rfl
            by_cases hl : j < R.length
            · have hli : (j : Int) < (R.length : Int) := by omega
              by_cases h20 : j < 20
              · have h20i : (j : Int) < 20 := by omega
                obtain ⟨gp, op, cp, hpe, hpc, hpv⟩ := (HROW.out.below HBJ.out).cellAt j hl
                simp only [Value.slice.injEq] at hpe
                obtain ⟨he1, he2, he3⟩ := hpe
                clear he2
                subst he1 he3
                obtain ⟨x, hx⟩ : ∃ x, x = at_ R j := ⟨_, rfl⟩
                rw [← hx] at hpv
                have HXE := hide hx
                have HRT := hide (fun W => trest_any x n W (by omega) (by omega))
                obtain ⟨z, hz⟩ : ∃ z, z = x % (n : Int) := ⟨_, rfl⟩
                rw [← hz] at HRT
                have HZE := hide hz
                clear hx hz hpc
                go_wp2_with (first
                  | (go_at_call 11; refine (HRT.out _).mono ?_; rintro e wa ⟨rfl, rfl⟩)
                  | (at_builtin; refine wpList_append_lies _ rfl (.tmp 44) (.tmp 55) 23 rfl wo.heap.size 3 i3 (.int .i64 0) 1 8 Try.underlying23 hi3 hy0 hy1 hy2 rfl (by decide) _ j _ rfl (HO.out.alloc _) ⟨_, 0, none⟩ 1 1 [.int .i64 z] rfl rfl (arr_at _ _ _) (by simp [Value.oneCell']) (by omega) (by unfold maxLen; omega) (by omega) (by have := HBJ.out.size; simp; omega) _ rfl ?_; intro g2 d2 wd hown hgr _ _)
                  | fail)
                exact ⟨⟨j + 1, hl, h20, by simp, (below_alloc HBJ.out _).grown hgr (by have := HBJ.out.size; simp; omega) (fun q hq => (HO.out.lt q hq).1), by rw [← prR_take hl h20, ← HXE.out, ← HZE.out]; exact hown⟩, by simp [RowKit.intOf]; omega⟩
              · have h20i : ¬ (j : Int) < 20 := by omega
                obtain rfl : j = 20 := by omega
                go_wp2_with fail
                go_meet
                case rel => exact ⟨HBJ.out, prR_snd HO.out (Nat.le_of_lt hl) (.inl rfl)⟩
            · have hli : ¬ (j : Int) < (R.length : Int) := by omega
              obtain rfl : j = R.length := by omega
              go_wp2_with fail
              go_meet
              case rel => exact ⟨HBJ.out, prR_snd HO.out (Nat.le_refl _) (.inr ⟨hj20, rfl⟩)⟩
        · have hkli : ¬ (k : Int) < (ls.length : Int) := by omega
          go_wp2_with fail
          go_meet
          case rel => exact ⟨Below.refl _ _, by rw [HREM.out hkl]; exact World.ownsRow_nil _ _ _ _⟩
      case rest =>
      obtain ⟨hb2, hs2⟩ := hcut
      rename World => wi
      obtain ⟨oV, cV, rfl⟩ := owns_shape hs2
      have HB2 := hide hb2
      have HS2 := hide hs2
      have HCI := hide (HC.out.below hb2)
      obtain ⟨vals, hvs, hall⟩ := HCI.out.os
      have HVS := hide hvs
      have HALL := hide hall
      obtain ⟨oS, cS, rfl⟩ := owns_shape hvs
      have d0 := cell_of HCI.out.d (i := 0) rfl
      have hlow := HC.out.low
      have hsz := hb2.size
      clear hb2 hs2 hvs hall HC c0 c1
      go_wp2_with (first
        | (at_builtin; refine wpList_append_lies _ rfl (.tmp 58) (.tmp 60) 22 rfl (w.heap.size + 3) 23 i0 (.slice none 0 0) 1 24 Try.underlying22 hi0 hz0 hz1 hz2 rfl (by decide) _ k _ rfl (HVS.out.alloc _) ⟨_, 0, none⟩ 1 1 [.slice oV (prR n R).length cV] rfl rfl (arr_at _ _ _) (by simp [Value.oneCell']) (by omega) (by unfold maxLen; omega) (by omega) (by simp; omega) _ rfl ?_; intro g2 d2 wd hown hgr _ _; obtain ⟨hd, hpw⟩ := HCI.out.pushS (v := .slice oV (prR n R).length cV) (by rw [← HRE.out]; exact HS2.out.low hlow) HVS.out HALL.out hown hgr; have HPW := hide hpw; have y0 := cell_of hd (i := 0) rfl; have yf := free_of hd 0; clear hown hgr hd hpw)
        | fail)
      exact ⟨⟨k + 1, _, hlt, by simp, HPW⟩, by simp [RowKit.intOf]; omega⟩
    · have hki : ¬ (k : Int) < (n : Int) := by omega
      obtain rfl : k = n := by omega
      have HAR := hide (fun W (hb : Below wo.heap.size wo W) => HAW.out W (below_on HC.out.bel hb))
      have hsz := HC.out.low
      have HCA0 : Hid (CirA w wo wo b4 k aw u0 (.slice none 0 0) 0) := ⟨Chg.refl _ _, HC.out.d, by simpa [prA] using World.ownsRow_nil wo wo.heap.size 3 1⟩
      go_wp2_with fail
      go_loopw [8] (fun t wr => ∃ (q : Nat) (u1 : Value), q ≤ aw.length ∧ t = .int .i64 (q : Int) ∧ Hid (CirA w wo wr b4 k aw u0 u1 q)) (fun t _ => aw.length - (RowKit.intOf t).toNat)
      case atStart => exact ⟨0, _, Nat.zero_le _, rfl, HCA0⟩
      case round =>
        obtain ⟨q, u1, hq, rfl, HA⟩ := hrel
        obtain ⟨oA, cA, rfl⟩ := owns_shape HA.out.oa
        have hbx := (HA.out.c.block _ (by omega) (by omega)).trans HC.out.bx
        have c1 := cell_of hbx (i := 1) rfl
        by_cases hlt : q < aw.length
        · have hli : (q : Int) < (aw.length : Int) := by omega
          have hAW : RowAt .i64 wr (.slice bo aw.length bc) aw := HAW.out wr (HA.out.c.below HC.out.bel (fun j hj => by omega) HC.out.bel.size)
          obtain ⟨gp, op, cp, hpe, hpc, hpv⟩ := hAW.cellAt q hlt
          simp only [Value.slice.injEq] at hpe
          obtain ⟨he1, he2, he3⟩ := hpe
          clear he2
          subst he1 he3
          obtain ⟨x, hx⟩ : ∃ x, x = at_ aw q := ⟨_, rfl⟩
          rw [← hx] at hpv
          have HXE := hide hx
          have HRT := hide (fun W => trest_any x k W (by omega) (by omega))
          obtain ⟨z, hz⟩ : ∃ z, z = x % (k : Int) := ⟨_, rfl⟩
          rw [← hz] at HRT
          have HZE := hide hz
          have d1 := cell_of HA.out.d (i := 1) rfl
          have hqs := HA.out.c.size
          have hwl := lt_of_heap HA.out.d
          have HDL := hide (show w.heap.size + 2 < wo.heap.size by omega)
          clear hx hz hpc hAW hbx
          go_upto_region 20 with fail
          refine wp_region_noPanic ?_
          go_region_law (first
            | (refine step_append_lies _ (by rfl) _ _ _ (by rfl) wo.heap.size 3 i3 (.int .i64 0) 1 8 Try.underlying23 hi3 hy0 hy1 hy2 rfl (by omega) (.slice oA q cA) q _ (by rfl) ((HA.out.oa.alloc _).drew) ⟨wr.heap.size, 0, none⟩ 1 1 [.int .i64 z] (by rfl) (by rfl) (arr_at wr _ _) (by simp [Value.oneCell']) (by omega) (by unfold maxLen; omega) (by omega) (by simp; omega) (wr.heap.size + 1) (by simp) ?_; intro g cap w2 hown hgrow hat hlt2; obtain ⟨z0, zf, hpw⟩ := HA.out.push HDL.out hlt (X := (wr.alloc (.cells #[.int .i64 z] 3)).drew) (below_drew (below_alloc (Below.refl _ _) _)) (by rw [← HXE.out]; exact HZE.out) hown hgrow; have HPW := hide hpw; clear hown hgrow hat hpw)
            | (go_simp; go_at_call 11; refine (HRT.out _).mono ?_; rintro e wa ⟨rfl, rfl⟩))
          all_goals
            refine NoPanic.normal ?_
            go_wp2_with fail
            exact ⟨⟨q + 1, _, hlt, by simp, HPW⟩, by simp [RowKit.intOf]; omega⟩
        · have hli : ¬ (q : Int) < (aw.length : Int) := by omega
          obtain rfl : q = aw.length := by omega
          obtain ⟨vals, hvs, hall⟩ := HC.out.os
          obtain ⟨oS, cS, rfl⟩ := owns_shape hvs
          have d0 := cell_of HA.out.d (i := 0) rfl
          have d1 := cell_of HA.out.d (i := 1) rfl
          have d2 := cell_of HA.out.d (i := 2) rfl
          have hrs := (HA.out.c.block _ (by omega) (by omega)).trans HC.out.rs
          have r0 := cell_of hrs (i := 0) rfl
          have r1 := cell_of hrs (i := 1) rfl
          have r2 := cell_of hrs (i := 2) rfl
          have f0 := free_of hrs 0
          have f1 := free_of hrs 1
          have f2 := free_of hrs 2
          have HRS := hide hrs
          have HNE : Hid (k = prN ls.length) := HNN.out
          have HRR : Hid (∀ wf, (∀ j, j ≠ w.heap.size + 1 → wf.heap[j]? = wr.heap[j]?) → RwsI wf (.slice oS k cS) (prS ls)) := fun wf hwf => by
            have h1 := HC.out
            have hc := HA.out.c
            rw [HNN.out] at h1 ⊢
            exact h1.rws fun j hj hj2 => (hwf j (by omega)).trans (hc.block _ hj2 (by omega))
          have HAA : Hid (∀ wf, (∀ j, j ≠ w.heap.size + 1 → wf.heap[j]? = wr.heap[j]?) → RowAt .i64 wf (.slice oA aw.length cA) (prA k aw)) := fun wf hwf => by
            have h1 := own_stayR HA.out.oa (fun g hg => hwf g (by have := (HA.out.oa.lt g hg).1; omega))
            rw [List.take_of_length_le (Nat.le_refl _)] at h1
            exact RowAt.of_owns (by rw [show (prA k aw).length = aw.length by simp [prA]]; exact h1)
          have HBE := hide (HA.out.c.below HC.out.bel (fun j hj => by omega) HC.out.bel.size)
          clear hvs hall hrs hki c0
          go_wp2_with fail
          refine bodyPost_ret (results_cell_row Try.results4 _ _ (w.heap.size + 1) 25 _ (0, 0) _ rfl (heap_set (heap_set (heap_set HRS.out _) _) _) Try.underlying25 rfl (by kernel_rfl)) rfl ?_
          have hwf : ∀ j, j ≠ w.heap.size + 1 → (((wr.setCell ⟨w.heap.size + 1, 0, none⟩ (Value.slice oS k cS)).setCell ⟨w.heap.size + 1, 1, none⟩ (Value.slice oA aw.length cA)).setCell ⟨w.heap.size + 1, 2, none⟩ (Value.int IntKind.i64 b4)).heap[j]? = wr.heap[j]? := fun j hj => by
            rw [Below.heap_setCell _ _ _ _ hj, Below.heap_setCell _ _ _ _ hj, Below.heap_setCell _ _ _ _ hj]
          refine ⟨_, _, by rw [← HB4.out]; rfl, ?_, HRR.out _ hwf, by rw [← HNN.out]; exact HAA.out _ hwf⟩
          exact ((HBE.out.setCell (p := ⟨w.heap.size + 1, 0, none⟩) (Nat.le_succ _) _).setCell (p := ⟨w.heap.size + 1, 1, none⟩) (Nat.le_succ _) _).setCell (p := ⟨w.heap.size + 1, 2, none⟩) (Nat.le_succ _) _
end Go.Proofs.Ytdjkidgkeekenaa
