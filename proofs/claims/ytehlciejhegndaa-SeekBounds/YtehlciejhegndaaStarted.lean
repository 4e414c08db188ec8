/- Starts that come in; started: the least labels of the starts at each vertex. -/
import Derived.Test.YtehlciejhegndaaWait
import Derived.Test.YtehlciejhegndaaStarts
namespace Go.Proofs.Ytehlciejhegndaa
open Go.RowKit Go.Lib
set_option linter.unusedVariables false

/-- A slice of starts that reads as these pairs (vertex, label). -/
def SAt (w : World) (v : Value) (l : List Pr) : Prop :=
  ∃ ao c, v = .slice ao l.length c ∧ l.length ≤ c ∧ c ≤ 9223372036854775807 ∧
    ∀ i, i < l.length → ∃ g o, ao = some ⟨g, o, none⟩ ∧ w.cell? ⟨g, o + i * 2, none⟩ = some (.int .i64 (sAt l i).1) ∧ w.cell? ⟨g, o + i * 2 + 1, none⟩ = some (.int .u64 (sAt l i).2)
theorem SAt.below {w w' : World} {v : Value} {l : List Pr} (h : SAt w v l) (hb : Below w.heap.size w w') : SAt w' v l := by
  obtain ⟨ao, c, rfl, h1, h2, h3⟩ := h
  refine ⟨ao, c, rfl, h1, h2, fun i hi => ?_⟩
  obtain ⟨g, o, e, p, q⟩ := h3 i hi
  have hl : g < w.heap.size := block_of_cell p
  exact ⟨g, o, e, (below_cell hb hl).trans p, (below_cell hb hl).trans q⟩
theorem SAt.shape {w : World} {v : Value} {l : List Pr} (h : SAt w v l) : ∃ ao c, v = .slice ao l.length c ∧ l.length ≤ c ∧ c ≤ 9223372036854775807 := by
  obtain ⟨ao, c, rfl, h1, h2, _⟩ := h; exact ⟨ao, c, rfl, h1, h2⟩
theorem SAt.cellAt {w : World} {ao : Option Addr} {n c : Nat} {l : List Pr} (h : SAt w (.slice ao n c) l) (i : Nat) (hi : i < l.length) :
    ∃ g o, ao = some ⟨g, o, none⟩ ∧ w.cell? ⟨g, o + i * 2, none⟩ = some (.int .i64 (sAt l i).1) ∧ w.cell? ⟨g, o + i * 2 + 1, none⟩ = some (.int .u64 (sAt l i).2) := by
  obtain ⟨ao', c', he, h1, h2, h3⟩ := h
  simp only [Value.slice.injEq] at he
  obtain ⟨rfl, _, _⟩ := he
  exact h3 i hi
/-- Starts that a search takes. -/
def Sok (n : Nat) (S : List Pr) : Prop := ∀ j, j < S.length → (0 ≤ (sAt S j).1 ∧ (sAt S j).1 < (n : Int)) ∧ 0 ≤ (sAt S j).2 ∧ (sAt S j).2 ≤ 4611686018427387904

/-- The labels behind the first j starts. -/
structure Beg (n : Nat) (S : List Pr) (L : List Int) (j : Nat) : Prop where
  len : L.length = n
  rng : ∀ v, v < n → 0 ≤ at_ L v ∧ at_ L v ≤ Nev
  att : ∀ v, v < n → at_ L v ≠ Nev → ∃ i, i < S.length ∧ sAt S i = ((v : Int), at_ L v)
  sts : ∀ i, i < j → ∃ v : Nat, v < n ∧ (sAt S i).1 = (v : Int) ∧ at_ L v ≤ (sAt S i).2
theorem beg_zero (n : Nat) (S : List Pr) : Beg n S (tab n (fun _ => Nev)) 0 := by
  refine ⟨tab_length _ _, fun v hv => ?_, fun v hv h => ?_, fun i hi => by omega⟩
  · rw [tab_at _ _ _ hv]; unfold Nev; omega
  · rw [tab_at _ _ _ hv] at h; exact absurd rfl h
theorem beg_step {n : Nat} {S : List Pr} {L : List Int} {j v : Nat} (h : Beg n S L j) (hj : j < S.length) (hs : Sok n S) (hv : (sAt S j).1 = (v : Int)) : Beg n S (L.set v (min (at_ L v) (sAt S j).2)) (j + 1) := by
  have hvn : v < n := by have := (hs j hj).1; omega
  have hsj := (hs j hj).2
  have A : ∀ i, at_ (L.set v (min (at_ L v) (sAt S j).2)) i = if i = v then min (at_ L v) (sAt S j).2 else at_ L i := fun i => at_set _ _ _ _ (by rw [h.len]; exact hvn)
  have hr := h.rng v hvn
  refine ⟨by rw [List.length_set]; exact h.len, fun u hu => ?_, fun u hu hne => ?_, fun i hi => ?_⟩
  · rw [A]
    by_cases e : u = v
    · rw [if_pos e]; unfold Nev at hr ⊢; omega
    · rw [if_neg e]; exact h.rng u hu
  · rw [A] at hne ⊢
    by_cases e : u = v
    · subst e
      rw [if_pos rfl] at hne ⊢
      rcases Int.lt_or_le (sAt S j).2 (at_ L u) with hle | hle
      · rw [Int.min_eq_right (Int.le_of_lt hle)]
        exact ⟨j, hj, by rw [← hv]⟩
      · rw [Int.min_eq_left hle] at hne ⊢
        exact h.att u hu hne
    · rw [if_neg e] at hne ⊢
      exact h.att u hu hne
  · have hlow : ∀ u, at_ (L.set v (min (at_ L v) (sAt S j).2)) u ≤ at_ L u := fun u => by
      rw [A]
      by_cases e : u = v
      · rw [if_pos e, e]; omega
      · rw [if_neg e]; exact Int.le_refl _
    rcases Nat.lt_or_ge i j with hij | hij
    · obtain ⟨u, h1, h2, h3⟩ := h.sts i hij
      exact ⟨u, h1, h2, Int.le_trans (hlow u) h3⟩
    · obtain rfl : i = j := by omega
      exact ⟨v, hvn, hv, by rw [A, if_pos rfl]; omega⟩

theorem arru_made {w : World} {base g n : Nat} (h : w.ownsRow base 26 1 (.slice (some ⟨g, 0, none⟩) n n) n (madeCells (Value.int .u64 0).cells (n * 1)).toList) : ArrU w g (tab n (fun _ => 0)) := by
  obtain ⟨h1, ⟨he, _⟩ | ⟨g', cap, cur, he, hg, hh, hnc, hcm, hcur, htake⟩⟩ := h
  · simp at he
  · simp only [Value.slice.injEq, Option.some.injEq, Addr.mk.injEq, true_and, and_true] at he
    obtain ⟨rfl, rfl⟩ := he
    rw [List.take_of_length_le (by simp; omega)] at htake
    unfold ArrU
    rw [hh]
    have e : cur = uCells (tab n (fun _ => 0)) := by
      apply Array.ext'
      rw [htake]
      apply List.ext_getElem
      · simp [madeCells, uCells, tab]
      · intro i h1 h2
        simp [madeCells, uCells, Value.cells, Nat.mod_one, tab]
    rw [e]
def StartedPost (w : World) (n : Nat) (S : List Pr) (e : Ending) (w' : World) : Prop := ∃ G L, e = .returned (.slice (some ⟨G, 0, none⟩) n n) ∧ w.heap.size ≤ G ∧ ArrU w' G L ∧ Beg n S L S.length ∧ Below w.heap.size w w'

set_option maxRecDepth 100000 in
set_option maxHeartbeats 8000000 in
theorem started_any (n : Nat) (sv : Value) (S : List Pr) (w : World) (hs : SAt w sv S) (hn : n ≤ 1048576) (hok : Sok n S) (hS : S.length * 16 ≤ 140737488353280) :
    Calls Try.prog 91 #[.int .i64 (n : Int), sv] w (StartedPost w n S) := by
  obtain ⟨i0, hi, hz0, hz1, hz2⟩ := info_parts Try.info26
  obtain ⟨so, sc, rfl, hsc, hscm⟩ := hs.shape
  have HS := hide hs
  have HOK := hide hok
  clear hs hok
  go_enter Try.func91, Try.ntmps91
  go_wp2_with (at_make; refine wpList_make_full _ rfl _ _ 23 rfl w.heap.size 26 i0 (.int .u64 0) 1 Try.underlying23 hi hz0 hz1 _ _ _ _ n rfl rfl rfl rfl (by rw [hz2]; omega) (by unfold maxLen; omega) (Nat.le_refl _) ?_; intro w1 hown hgrow)
  have hA := arru_made hown
  have hB : Below w.heap.size w w1 := (Below.refl _ _).grown hgrow (Nat.le_refl _) (by intro k hk; cases hk)
  have HA := hide hA; have HB := hide hB
  clear hA hB hown hgrow
  go_loopw [13] (fun t wr => ∃ i : Nat, i ≤ n ∧ t = .int .i64 i ∧ ArrU wr w.heap.size (tab n (fun v => if v < i then Nev else 0)) ∧ Below w.heap.size w wr) (fun t _ => n - (RowKit.intOf t).toNat)
  case atStart => exact ⟨0, by omega, rfl, by rw [tab_congr (h := fun _ => 0) (fun v _ => by simp)]; exact HA.out, HB.out⟩
  case round =>
    obtain ⟨i, hin, rfl, hA, hB⟩ := hrel
    clear HA HB
    by_cases hlt : i < n
    · have hcl := hA.cell i (by rw [tab_length]; exact hlt)
      have hfr := hA.free i
      have hA2 := hA.put i 18446744073709551615
      rw [tab_set, tab_congr (h := fun v => if v < i + 1 then Nev else 0) (fun v _ => by
        by_cases e : v = i
        · subst e; rw [if_pos rfl, if_pos (by omega)]; rfl
        · rw [if_neg e]
          by_cases h : v < i
          · rw [if_pos h, if_pos (by omega)]
          · rw [if_neg h, if_neg (by omega)])] at hA2
      have HA := hide hA2; have HB := hide hB
      clear hA hA2 hB
      go_wp2
      exact ⟨⟨i + 1, by omega, by simp, HA.out, HB.out.setCell (p := ⟨w.heap.size, i, none⟩) (Nat.le_refl _) _⟩, by simp [RowKit.intOf]; omega⟩
    · obtain rfl : i = n := by omega
      have HBG : Hid (Beg i S (tab i (fun v => if v < i then Nev else 0)) 0) := by
        have := beg_zero i S
        rw [tab_congr (h := fun v => if v < i then Nev else 0) (fun v hv => by rw [if_pos hv])] at this
        exact this
      have HA := hide hA; have HB := hide hB
      obtain ⟨M, hM⟩ : ∃ M, M = S.length := ⟨_, rfl⟩
      rw [← hM] at hsc hS HS ⊢
      have HM := hide hM
      clear hA hB hM
      obtain ⟨wq, hwq⟩ : ∃ wq, wq = wr := ⟨_, rfl⟩
      subst hwq
      go_wp2
      go_loopw [22] (fun t wr => ∃ (j : Nat) (L : List Int), j ≤ M ∧ t = .int .i64 j ∧ ArrU wr w.heap.size L ∧ Beg i S L j ∧ Below w.heap.size w wr) (fun t _ => M - (RowKit.intOf t).toNat)
      case atStart => exact ⟨0, _, by omega, rfl, HA.out, HBG.out, HB.out⟩
      case round =>
        obtain ⟨j, L, hjM, rfl, hA, hBG, hB⟩ := hrel
        by_cases hlt2 : j < M
        · obtain ⟨g, o, he, p0, p1⟩ := (HS.out.below hB).cellAt j (by have := HM.out; omega)
          subst he
          obtain ⟨v, hv⟩ : ∃ v : Nat, (sAt S j).1 = (v : Int) := ⟨((sAt S j).1).toNat, by have := (HOK.out j (by have := HM.out; omega)).1; omega⟩
          have hvn : v < i := by have := (HOK.out j (by have := HM.out; omega)).1; omega
          have HST := hide (beg_step hBG (by have := HM.out; omega) HOK.out hv)
          rw [hv] at p0
          have hgw : g < wr.heap.size := block_of_cell p0
          have hLl := hBG.len
          have hr := hBG.rng v hvn
          have f0 := hA.cell v (by omega)
          have ff := hA.free v
          have hGw : w.heap.size < wr.heap.size := lt_of_heap hA
          have HA2 := hide (fun o x => show ArrU ((wr.setCell ⟨w.heap.size, v, none⟩ (.int .u64 x)).alloc o).drew w.heap.size (L.set v x) from (Below.heap_alloc _ _ _ (by simpa [World.setCell] using hGw)).trans (hA.put v x))
          have HBB := hide (fun o x => below_drew (below_alloc (hB.setCell (p := ⟨w.heap.size, v, none⟩) (Nat.le_refl _) (.int .u64 x)) o))
          obtain ⟨y, hy⟩ : ∃ y, y = (sAt S j).2 := ⟨_, rfl⟩
          rw [← hy] at p1 HST
          obtain ⟨z, hz⟩ : ∃ z, z = at_ L v := ⟨_, rfl⟩
          rw [← hz] at f0 HST hr
          have hneq : ¬ w.heap.size = wr.heap.size := by omega
          clear hA hBG hB hy hz HA HB HBG
          go_wp2
          go_region
          all_goals
            go_wp2
            exact ⟨⟨j + 1, _, by omega, by simp, HA2.out _ _, HST.out, HBB.out _ _⟩, by simp [RowKit.intOf]; omega⟩
        · obtain rfl : j = M := by omega
          go_wp2
          go_ret
          exact ⟨w.heap.size, L, rfl, Nat.le_refl _, hA, by rw [← HM.out]; exact hBG, hB⟩
end Go.Proofs.Ytehlciejhegndaa
