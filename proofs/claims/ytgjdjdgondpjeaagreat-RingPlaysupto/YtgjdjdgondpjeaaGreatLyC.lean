import Derived.Test.YtgjdjdgondpjeaaGreatRmC
import Derived.Test.YtgjdjdgondpjeaaGreatR3
import Derived.Deep.RegionHeld3
import Derived.Deep.AppendLies
import Derived.Deep.RegionWith
/- What lay calls: Open of both sides, the document's Fill with its block, the document's Poke. -/
namespace Go.Proofs.YtgjdjdgondpjeaaGreat
open Go.RowKit Go.Lib
set_option linter.unusedVariables false
set_option linter.unusedSimpArgs false
theorem own_base {w : World} {a b n z : Nat} {t : TypeId} {v : Value} {xs : List Value} (h : w.ownsRow a t z v n xs) (hb : b ≤ a) : w.ownsRow b t z v n xs :=
  ⟨h.1, h.2.imp id fun ⟨g, cap, cur, he, hg, r⟩ => ⟨g, cap, cur, he, Nat.le_trans hb hg, r⟩⟩
/-- The document's handle in memory. -/
def Hs.nx (d : Hs) : Nat := if d.ph ≤ 6 then d.ph else d.ph - 6
def RHObj (b C : Int) (d : Hs) (v : Value) : Obj :=
  .cells #[.int .i64 b, .int .i64 C, .int .i64 d.nx, .bool d.put, .int .u64 d.place, .int .u64 d.t.1, .int .u64 d.t.2, .int .i64 d.st, v] 137 (0, 0)
set_option maxRecDepth 100000 in
set_option maxHeartbeats 2000000 in
theorem open_full (b C i : Int) (w : World) (h : OkR b C) (hi : 0 ≤ i) :
    Calls Tryz.prog 29 #[qAgg b C, .int .i64 i] w fun e w' => ∃ H, e = .returned (.tuple #[.pointer (some ⟨H, 0, none⟩), .int .i64 0]) ∧ w.heap.size ≤ H ∧ w'.heap[H]? = some (HObj b C Hs.new (.slice none 0 0)) ∧ Below w.heap.size w w' := by
  have hc := fun W => qCheck_any b C W
  simp only [if_pos h] at hc
  have HC := hide hc
  clear hc
  have HQ := hide (qm_two w 121 (.cells #[.int .i64 b, .int .i64 C] 23) b C)
  unfold qAgg at HC ⊢
  go_enter Tryz.func29, Tryz.ntmps29
  go_wp2_with (go_at_call 65; refine (HC.out _).mono ?_; rintro e w2 ⟨rfl, hb2⟩; have HM := hide (HQ.out.below hb2); clear hb2; obtain ⟨s0, s1⟩ := HM.out.two)
  have hs := HM.out.bel.size
  go_ret2
  exact ⟨_, rfl, hs, heap_new _ _, below_alloc HM.out.bel _⟩
set_option maxRecDepth 100000 in
set_option maxHeartbeats 2000000 in
theorem refOpen_full (b C i : Int) (w : World) (h : OkR b C) (hi : 0 ≤ i) :
    Calls Tryz.prog 36 #[qAgg b C, .int .i64 i] w fun e w' => ∃ H, e = .returned (.tuple #[.pointer (some ⟨H, 0, none⟩), .int .i64 0]) ∧ w.heap.size ≤ H ∧ w'.heap[H]? = some (RHObj b C Hs.new (.slice none 0 0)) ∧ Below w.heap.size w w' := by
  have HC := hide (fun w => valid_any b C w)
  rw [decide_eq_true h] at HC
  unfold qAgg at HC ⊢
  clear h
  go_enter Tryz.func36, Tryz.ntmps36
  go_wp2_with (go_at_call 73; refine (HC.out _).mono ?_; rintro e w2 ⟨rfl, hb1⟩; have hm1 := (qm_one w 23 b C).below hb1; obtain ⟨s0, s1⟩ := hm1.two; have HM1 := hide hm1; clear hb1 hm1)
  have hs := HM1.out.bel.size
  go_ret2
  exact ⟨_, rfl, hs, heap_new _ _, below_alloc HM1.out.bel _⟩
/-- The cells of the arena behind i pokes. -/
def pkb (b : Nat) (L : List Int) (i : Nat) : List Int := tab (b + L.length) fun j => if j < b then 0 else if j - b < i then at_ L (j - b) else 0
theorem pkb_len (b : Nat) (L : List Int) (i : Nat) : (pkb b L i).length = b + L.length := tab_length _ _
theorem pkb_zero (b : Nat) (L : List Int) : pkb b L 0 = List.replicate (b + L.length) 0 := by
  unfold pkb
  apply List.ext_getElem
  · simp [tab]
  · intro j h1 h2
    simp [tab]
theorem pkb_set (b : Nat) (L : List Int) (i : Nat) : (pkb b L i).set (b + i) (at_ L i) = pkb b L (i + 1) := by
  unfold pkb
  rw [tab_set]
  refine tab_congr fun v _ => ?_
  by_cases e : v = b + i
  · subst e
    rw [if_pos rfl, if_neg (by omega), if_pos (by omega), show b + i - b = i by omega]
  · rw [if_neg e]
    by_cases h : v < b
    · rw [if_pos h, if_pos h]
    · rw [if_neg h, if_neg h]
      by_cases h2 : v - b < i
      · rw [if_pos h2, if_pos (by omega)]
      · rw [if_neg h2, if_neg (by omega)]
theorem pkb_at {b : Nat} {L : List Int} {i j : Nat} (hj : j < b + L.length) : nth (pkb b L i) j = if j < b then 0 else if j - b < i then at_ L (j - b) else 0 := tab_at _ _ _ hj
set_option maxRecDepth 100000 in
theorem refPoke_in (Y b gc : Nat) (lv : Value) (s : Ast) (i : Nat) (x : Int) (w : World) (h : RIs w Y b gc lv s) (hi : i < s.cells.length) :
    Calls Tryz.prog 38 #[.pointer (some ⟨b, 0, none⟩), .int .i64 i, .int .u64 x] w fun r w' => r = .returned (.int .i64 0) ∧ RIs w' Y b gc lv { s with cells := s.cells.set i x } ∧ Chg (fun k => k = gc) w w' := by
  have c0 : w.cell? ⟨b, 0, none⟩ = some (.slice (some ⟨gc, 0, none⟩) s.cells.length s.cells.length) := cell_of h.hb rfl
  have e1 := words_cell h.hc i hi
  have fe := free_of h.hc i
  have h1 : (i : Int) < s.cells.length := by omega
  have H := hide h
  have hbg : ¬ b = gc := h.ne
  clear h
  go_enter Tryz.func38, Tryz.ntmps38
  go_wp2_with fail
  go_ret
  have k : Chg (fun k => k = gc) w (w.setCell ⟨gc, i, none⟩ (.int .u64 x)) := (Chg.refl (fun k => k = gc) w).setCell (p := ⟨gc, i, none⟩) rfl _
  have h := H.out
  refine ⟨rfl, ⟨?_, words_set h.hc i x, ownsRow_block h.hl (fun j hj => k.block j (owns_lt h.hl hj).2 (h.own_ne hj).2.1), h.bY, h.gY, h.ne, by simpa using h.len, Nat.le_trans h.yw k.size⟩, k⟩
  have hb := k.heap h.hb h.ne
  unfold RObj at hb ⊢
  simp only [List.length_set]
  exact hb
def FillOwn (w : World) (C : Nat) (l : List Tk) (e : Ending) (w' : World) : Prop := ∃ rv, e = .returned (.tuple #[rv, .int .i64 0]) ∧ w'.ownsRow w.heap.size 40 1 rv (2 + 3 * C) ((tab (2 + 3 * C) (gR l l.length)).map (Value.int .u64)) ∧ Below w.heap.size w w'
set_option maxRecDepth 100000 in
set_option maxHeartbeats 8000000 in
theorem refFillR_own (b : Int) (C : Nat) (v : Value) (l : List Tk) (w : World) (hl : TAt w v l) (h : OkR b C) (hn : hasNev l = false) (hfn : ¬ (C : Int) < l.length) : Calls Tryz.prog 31 #[qAgg b C, v] w (FillOwn w C l) := by
  obtain ⟨i0, hi, hz0, hz1, hz2⟩ := info_parts Tryz.info40
  obtain ⟨ao, c, rfl, k1, k2⟩ := hl.shape
  have HC := hide (fun w => valid_any b C w)
  rw [decide_eq_true h] at HC
  have HL := hide hl
  have HNO := hide (nev_no hn)
  have HFN := hide hfn
  obtain ⟨⟨a1, a2⟩, a3, a4⟩ := h
  unfold qAgg at HC ⊢
  clear hl hn a4 hfn
  obtain ⟨M, hM⟩ : ∃ M, M = l.length := ⟨_, rfl⟩
  have HM := hide hM
  have HGM := hide (gR_more l)
  have HGI := hide (fun j h => @gR_in l j h)
  have HGO := hide (fun j h => @gR_out l j h)
  rw [← hM] at k1 HL HFN HGM HGI HGO ⊢
  clear hM
  go_enter Tryz.func31, Tryz.ntmps31
  go_wp2_with (go_at_call 73; refine (HC.out _).mono ?_; rintro e w2 ⟨rfl, hb1⟩; have HM1 := hide ((qm_one w 23 b C).below hb1); clear hb1)
  go_loopw [6] (fun t wr => ∃ i : Nat, i ≤ M ∧ t = .int .i64 i ∧ wr = w2) (fun t _ => M - (RowKit.intOf t).toNat)
  case atStart => exact ⟨0, by omega, rfl, rfl⟩
  case round =>
    obtain ⟨i, him, rfl, rfl⟩ := hrel
    by_cases hil : i < M
    · obtain ⟨gl, ol, he, p0, p1⟩ := (HL.out.below HM1.out.bel).cellAt i (by have := HM.out; omega)
      subst he
      have hne := HNO.out i (by have := HM.out; omega)
      obtain ⟨x, hx⟩ : ∃ x, x = (tAt l i).1 := ⟨_, rfl⟩
      rw [← hx] at p0 hne
      have hne2 : ¬ x = 18446744073709551615 := hne
      clear hx p1 hne
      go_wp2
      go_roundw
      case rel => exact ⟨i + 1, by omega, by simp, by trivial⟩
      case measure => simp [RowKit.intOf]; omega
    · obtain rfl : i = M := by omega
      obtain ⟨s0, s1⟩ := HM1.out.two
      have hf := HFN.out
      · skip
        have hz2' : (i : Int) ≤ (C : Int) := by omega
        have hfn' : ¬ C < i := by omega
        have hbs : w.heap.size + 1 ≤ wr.heap.size := lt_of_heap HM1.out.bx
        have HT0 : Hid (tab 2 (gR l i) = [(i : Int), 0]) := by
          have := HM.out
          subst this
          rfl
        have HR0 : Hid (RS w b C (.slice (some ⟨wr.heap.size, 0, none⟩) 2 2) (tab 2 (gR l i)) (wr.alloc (.cells #[.int .u64 (i : Int), .int .u64 0] 40))) := ⟨HM1.out.below (below_alloc (Below.refl _ _) _), by rw [HT0.out]; exact own_two wr (w.heap.size + 1) _ _ hbs⟩
        clear HM1
        go_wp2
        clear s0 s1 HFN HC HT0
        generalize (wr.alloc (.cells #[.int .u64 (i : Int), .int .u64 0] 40)) = w3 at HR0 ⊢
        go_loopw [7, 8] (fun v t wr => ∃ j : Nat, j ≤ C ∧ t = .int .i64 j ∧ RS w b C v (tab (2 + 3 * j) (gR l i)) wr) (fun _ t _ => C - (RowKit.intOf t).toNat)
        case atStart => exact ⟨0, by omega, rfl, HR0.out⟩
        case round =>
          obtain ⟨j, hj, rfl, hrs⟩ := hrel
          clear HR0
          obtain ⟨s0, s1⟩ := hrs.m.two
          by_cases hlt : j < C
          · have HRS := hide hrs
            have HLN := hide (tab_length (2 + 3 * j) (gR l i))
            by_cases hin : j < i
            · obtain ⟨gl, ol, he, p0, p1⟩ := (HL.out.below hrs.m.bel).cellAt j (by have := HM.out; omega)
              subst he
              have HPO : Hid (∀ X, Below w.heap.size w X → X.cell? ⟨gl, ol + j * 2, none⟩ = some (.int .u64 (tAt l j).1) ∧ X.cell? ⟨gl, ol + j * 2 + 1, none⟩ = some (.int .u64 (tAt l j).2)) := fun X hX => by
                obtain ⟨_, _, he, p0, p1'⟩ := (HL.out.below hX).cellAt j (by have := HM.out; omega)
                simp only [Option.some.injEq, Addr.mk.injEq, and_true] at he
                obtain ⟨rfl, rfl⟩ := he
                exact ⟨p0, p1'⟩
              have HPP : Hid (∀ X, Below wr.heap.size wr X → X.cell? ⟨gl, ol + j * 2, none⟩ = some (.int .u64 (tAt l j).1) ∧ X.cell? ⟨gl, ol + j * 2 + 1, none⟩ = some (.int .u64 (tAt l j).2)) := fun X hX => HPO.out X (below_on hrs.m.bel hX)
              obtain ⟨g1, g2, g3⟩ := HGI.out j hin
              obtain ⟨x, hx⟩ : ∃ x, x = (tAt l j).1 := ⟨_, rfl⟩
              obtain ⟨y, hy⟩ : ∃ y, y = (tAt l j).2 := ⟨_, rfl⟩
              rw [← hx] at p0 g2
              rw [← hy] at p1 g3
              rw [← hx, ← hy] at HPO HPP
              have HNX : Hid (tab (2 + 3 * (j + 1)) (gR l i) = tab (2 + 3 * j) (gR l i) ++ [(j : Int) + 1, x, y]) := hide (by rw [HGM.out, g1, g2, g3])
              have hos := hrs.own
              rw [HLN.out] at hos
              have HOS := hide hos
              clear hos hrs hx hy g1 g2 g3
              go_wp2_with fail
              have hBZ : w.heap.size + 1 ≤ wr.heap.size := lt_of_heap HRS.out.m.bx
              have hwj : IntKind.u64.wrap (j : Int) = (j : Int) := IntWalk.u64_in _ (by omega)
              have hw64 : IntKind.u64.wrap ((j : Int) + 1) = (j : Int) + 1 := IntWalk.u64_in _ (by omega)
              go_region_held3 (fun x' => x'.cell? ⟨gl, ol + j * 2, none⟩ = some (.int .u64 x) ∧ x'.cell? ⟨gl, ol + j * 2 + 1, none⟩ = some (.int .u64 y))
                (first | go_keep | exact ⟨q0, q1⟩ | exact HPP.out _ (below_alloc (below_drew (Below.refl _ _)) _) | exact HPP.out _ (below_drew (below_alloc (Below.refl _ _) _)))
                ((refine step_append_lies _ (by rfl) _ _ _ (by rfl) (w.heap.size + 1) 40 i0 (.int .u64 0) 1 8 Tryz.underlying47 hi hz0 hz1 hz2 rfl (by omega) u7 (2 + 3 * j) ((tab (2 + 3 * j) (gR l i)).map (Value.int .u64)) (by rfl) (by first | exact (HOS.out.alloc _).drew | exact HOS.out.drew.alloc _) ⟨wr.heap.size, 0, none⟩ 3 3 [.int .u64 ((j : Int) + 1), .int .u64 x, .int .u64 y] (by rfl) (by rfl) (by first | exact three_at' wr _ _ _ _ | exact three_at wr.drew _ _ _ _) (by simp [Value.oneCell']) (by omega) (by unfold maxLen; omega) (by omega) (by simp; omega) (wr.heap.size + 1) (by simp) ?_; intro g cap w5 hownB hgrowB hatB hltB; have HR5 := hide (HRS.out.step HLN.out (by first | exact below_drew (below_alloc (Below.refl _ _) _) | exact below_alloc (below_drew (Below.refl _ _)) _) hownB hgrowB); obtain ⟨q0, q1⟩ := HPO.out _ HR5.out.m.bel; rw [← HNX.out] at HR5; clear hownB hgrowB hatB hltB))
              all_goals
                go_wp2
                go_roundw
                case rel => exact ⟨j + 1, by omega, by simp, HR5.out⟩
                case measure => simp [RowKit.intOf]; omega
            · obtain ⟨g1, g2, g3⟩ := HGO.out j hin
              have HNX : Hid (tab (2 + 3 * (j + 1)) (gR l i) = tab (2 + 3 * j) (gR l i) ++ [(j : Int), 0, 0]) := hide (by rw [HGM.out, g1, g2, g3])
              have hos := hrs.own
              rw [HLN.out] at hos
              have HOS := hide hos
              clear hrs g1 g2 g3 hos
              go_wp2_with (at_builtin; refine wpList_append_own _ rfl (.tmp 59) (.tmp 62) 47 rfl _ 40 i0 (.int .u64 0) 1 8 Tryz.underlying47 hi hz0 hz1 hz2 rfl (by decide) _ _ _ rfl (HOS.out.alloc _) ⟨wr.heap.size, 0, none⟩ 3 3 [.int .u64 (j : Int), .int .u64 0, .int .u64 0] rfl rfl (three_at wr _ _ _ _) (by simp [Value.oneCell']) (by unfold maxLen; omega) (by omega) (by have := HRS.out.m.bel.size; have := lt_of_heap HRS.out.m.bx; simp; omega) ?_; intro v5 w5 hownB hgrowB hqB; have HR5 := hide (HRS.out.step HLN.out (below_alloc (Below.refl _ _) _) hownB hgrowB); rw [← HNX.out] at HR5; clear hownB hgrowB hqB)
              go_roundw
              case rel => exact ⟨j + 1, by omega, by simp, HR5.out⟩
              case measure => simp [RowKit.intOf]; omega
          · obtain rfl : j = C := by omega
            have HA := hide hrs
            clear hrs
            go_wp2
            go_ret2
            have hz := HA.out.own
            rw [tab_length, HM.out] at hz
            exact ⟨u7, rfl, own_base (b := w.heap.size) hz (Nat.le_succ _), HA.out.m.bel⟩
end Go.Proofs.YtgjdjdgondpjeaaGreat

/- A table while it is laid. -/
namespace Go.Proofs.YtgjdjdgondpjeaaGreat
open Go.RowKit Go.Lib
set_option linter.unusedVariables false
set_option linter.unusedSimpArgs false
theorem ptrs_succ (f : Nat → Nat) (k : Nat) : ptrs f (k + 1) = ptrs f k ++ [ptr f k] := by simp [ptrs, List.range_succ]
theorem ptrs_congr {f g : Nat → Nat} {k : Nat} (h : ∀ j, j < k → f j = g j) : ptrs f k = ptrs g k := by
  unfold ptrs ptr
  refine List.map_congr_left fun j hj => ?_
  rw [h j (List.mem_range.1 hj)]
structure LL (w wr : World) (X ab gc rb rc Y Y2 Z b C : Nat) (s t : Ast) (vP vH vG : Value) (kP kH kG m : Nat) (qs ps rs : Nat → Nat) : Prop where
  bel : Below w.heap.size w wr
  zl : w.heap.size ≤ Z ∧ w.heap.size ≤ ab ∧ w.heap.size ≤ gc ∧ w.heap.size ≤ rb ∧ w.heap.size ≤ rc ∧ gc ≠ rc
  bx : wr.heap[w.heap.size]? = some (.cells #[.int .i64 (b : Int), .int .i64 (C : Int)] 23 (0, 0))
  x : wr.heap[X]? = some (.cells #[.int .i64 (b : Int), .int .i64 (C : Int), .pointer (some ⟨ab, 0, none⟩), vP, vH, .pointer (some ⟨rb, 0, none⟩), vG] 37 (0, 0))
  xl : w.heap.size ≤ X ∧ X < Z
  zw : Z ≤ wr.heap.size
  ar : AIs wr Y ab gc (.slice none 0 0) s
  rr : RIs wr Y2 rb rc (.slice none 0 0) t
  rp : wr.ownsRow Z 84 1 vP kP (ptrs ps kP)
  rh : wr.ownsRow Z 63 1 vH kH (ptrs qs kH)
  rg : wr.ownsRow Z 97 1 vG kG (ptrs rs kG)
  ob : ∀ j, j < m → wr.heap[qs j]? = some (HObj b C Hs.new (.slice none 0 0)) ∧ wr.heap[ps j]? = some (PObj ab j false) ∧ wr.heap[rs j]? = some (RHObj b C Hs.new (.slice none 0 0))
  inj : ∀ i j, i < j → j < m → qs i ≠ qs j ∧ ps i ≠ ps j ∧ rs i ≠ rs j
  lo : ∀ j, j < m → Z ≤ qs j ∧ Z ≤ ps j ∧ Z ≤ rs j
def lT (t : TypeId) : Prop := t = 37 ∨ t = 84 ∨ t = 63 ∨ t = 97
section
variable {w wr wr' : World} {X ab gc rb rc Y Y2 Z b C : Nat} {s t : Ast} {vP vH vG : Value} {kP kH kG m : Nat} {qs ps rs : Nat → Nat}
theorem LL.stay {S : Nat → Prop} (h : LL w wr X ab gc rb rc Y Y2 Z b C s t vP vH vG kP kH kG m qs ps rs) (c : Chg S wr wr') (hS : ∀ j, S j → w.heap.size ≤ j ∧ (j < wr.heap.size → ∃ cs t, wr.heap[j]? = some (.cells cs t (0, 0)) ∧ lT t)) :
    Below w.heap.size w wr' ∧ wr'.heap[w.heap.size]? = some (.cells #[.int .i64 (b : Int), .int .i64 (C : Int)] 23 (0, 0)) ∧ Z ≤ wr'.heap.size ∧ AIs wr' Y ab gc (.slice none 0 0) s ∧ RIs wr' Y2 rb rc (.slice none 0 0) t ∧
    (∀ j, j < m → wr'.heap[qs j]? = some (HObj b C Hs.new (.slice none 0 0)) ∧ wr'.heap[ps j]? = some (PObj ab j false) ∧ wr'.heap[rs j]? = some (RHObj b C Hs.new (.slice none 0 0))) := by
  have no : ∀ {j : Nat} {cs : Array Value} {t : TypeId}, wr.heap[j]? = some (.cells cs t (0, 0)) → ¬ lT t → ¬ S j := fun {j cs t} hj h1 e => by
    obtain ⟨cs', t', h', ho⟩ := (hS j e).2 (lt_of_heap hj)
    rw [ty_of hj h'] at ho
    exact h1 ho
  refine ⟨c.below h.bel (fun j hj => (hS j hj).1) h.bel.size, c.heap h.bx (no h.bx (by unfold lT; decide)), Nat.le_trans h.zw c.size, h.ar.kept c (no h.ar.hb (by unfold lT; decide)) (no h.ar.hc (by unfold lT; decide)) (fun i hi => by cases hi), h.rr.kept c (no h.rr.hb (by unfold lT; decide)) (no h.rr.hc (by unfold lT; decide)) (fun i hi => by cases hi), fun j hj => ?_⟩
  obtain ⟨a1, a2, a3⟩ := h.ob j hj
  exact ⟨c.heap a1 (no a1 (by unfold lT; decide)), c.heap a2 (no a2 (by unfold lT; decide)), c.heap a3 (no a3 (by unfold lT; decide))⟩
theorem LL.below (h : LL w wr X ab gc rb rc Y Y2 Z b C s t vP vH vG kP kH kG m qs ps rs) (hb : Below wr.heap.size wr wr') : LL w wr' X ab gc rb rc Y Y2 Z b C s t vP vH vG kP kH kG m qs ps rs := by
  obtain ⟨h1, h2, h3, h4, h5, h6⟩ := h.stay (S := fun _ => False) (Chg.of_below hb) (fun j hj => hj.elim)
  have row : ∀ {ty : TypeId} {v : Value} {k : Nat} {xs : List Value}, wr.ownsRow Z ty 1 v k xs → wr'.ownsRow Z ty 1 v k xs := fun ho => own_stayR ho (fun g hg => hb.block g (ho.lt g hg).2)
  exact ⟨h1, h.zl, h2, (hb.block _ (lt_of_heap h.x)).trans h.x, h.xl, h3, h4, h5, row h.rp, row h.rh, row h.rg, h6, h.inj, h.lo⟩
/-- The cells of the arenas turn. -/
theorem LL.poke {s' : Ast} (h : LL w wr X ab gc rb rc Y Y2 Z b C s t vP vH vG kP kH kG m qs ps rs) (ha : AIs wr' Y ab gc (.slice none 0 0) s') (c : Chg (fun k => k = ab ∨ k = gc) wr wr') : LL w wr' X ab gc rb rc Y Y2 Z b C s' t vP vH vG kP kH kG m qs ps rs := by
  have no : ∀ {j : Nat} {cs : Array Value} {t : TypeId}, wr.heap[j]? = some (.cells cs t (0, 0)) → (t ≠ 116 ∧ (t ≠ 40 ∨ j ≠ gc)) → ¬ (j = ab ∨ j = gc) := fun {j cs t} hj h1 e => by
    rcases e with e | e
    · exact ne_ty hj h.ar.hb h1.1 e
    · rcases h1.2 with q | q
      · exact ne_ty hj h.ar.hc q e
      · exact q e
  have row : ∀ {ty : TypeId} {v : Value} {k : Nat} {xs : List Value}, ty ≠ 116 → ty ≠ 40 → wr.ownsRow Z ty 1 v k xs → wr'.ownsRow Z ty 1 v k xs := fun e1 e2 ho => own_stayR ho (fun g hg => by
    obtain ⟨_, cs, h3⟩ := own_tyz ho hg
    exact c.block _ (lt_of_heap h3) (no h3 ⟨e1, .inl e2⟩))
  refine ⟨c.below h.bel (fun j hj => by rcases hj with rfl | rfl; exact h.zl.2.1; exact h.zl.2.2.1) h.bel.size, h.zl, c.heap h.bx (no h.bx (by simp)), c.heap h.x (no h.x (by simp)), h.xl, Nat.le_trans h.zw c.size, ha, h.rr.kept c (no h.rr.hb (by simp)) (no h.rr.hc ⟨by decide, .inr (fun e => h.zl.2.2.2.2.2 e.symm)⟩) (fun i hi => by cases hi), row (by decide) (by decide) h.rp, row (by decide) (by decide) h.rh, row (by decide) (by decide) h.rg, fun j hj => ?_, h.inj, h.lo⟩
  obtain ⟨a1, a2, a3⟩ := h.ob j hj
  exact ⟨c.heap a1 (no a1 (by simp)), c.heap a2 (no a2 (by simp)), c.heap a3 (no a3 (by simp))⟩
theorem LL.rpoke {t' : Ast} (h : LL w wr X ab gc rb rc Y Y2 Z b C s t vP vH vG kP kH kG m qs ps rs) (ha : RIs wr' Y2 rb rc (.slice none 0 0) t') (c : Chg (fun k => k = rc) wr wr') : LL w wr' X ab gc rb rc Y Y2 Z b C s t' vP vH vG kP kH kG m qs ps rs := by
  have no : ∀ {j : Nat} {cs : Array Value} {t : TypeId}, wr.heap[j]? = some (.cells cs t (0, 0)) → (t ≠ 40 ∨ j ≠ rc) → ¬ (j = rc) := fun {j cs t} hj h1 e => by
    rcases h1 with q | q
    · exact ne_ty hj h.rr.hc q e
    · exact q e
  have row : ∀ {ty : TypeId} {v : Value} {k : Nat} {xs : List Value}, ty ≠ 40 → wr.ownsRow Z ty 1 v k xs → wr'.ownsRow Z ty 1 v k xs := fun e2 ho => own_stayR ho (fun g hg => by
    obtain ⟨_, cs, h3⟩ := own_tyz ho hg
    exact c.block _ (lt_of_heap h3) (no h3 (.inl e2)))
  refine ⟨c.below h.bel (fun j hj => by subst hj; exact h.zl.2.2.2.2.1) h.bel.size, h.zl, c.heap h.bx (no h.bx (by simp)), c.heap h.x (no h.x (by simp)), h.xl, Nat.le_trans h.zw c.size, h.ar.kept c (no h.ar.hb (by simp)) (no h.ar.hc (.inr h.zl.2.2.2.2.2)) (fun i hi => by cases hi), ha, row (by decide) h.rp, row (by decide) h.rh, row (by decide) h.rg, fun j hj => ?_, h.inj, h.lo⟩
  obtain ⟨a1, a2, a3⟩ := h.ob j hj
  exact ⟨c.heap a1 (no a1 (by simp)), c.heap a2 (no a2 (by simp)), c.heap a3 (no a3 (by simp))⟩
/-- One handle of each more. -/
theorem LL.more (h : LL w wr X ab gc rb rc Y Y2 Z b C s t vP vH vG m m m m qs ps rs) {q p r : Nat} (hq : wr.heap[q]? = some (HObj b C Hs.new (.slice none 0 0))) (hp : wr.heap[p]? = some (PObj ab m false)) (hr : wr.heap[r]? = some (RHObj b C Hs.new (.slice none 0 0))) (hn : ∀ j, j < m → qs j ≠ q ∧ ps j ≠ p ∧ rs j ≠ r) (hl : Z ≤ q ∧ Z ≤ p ∧ Z ≤ r) :
    LL w wr X ab gc rb rc Y Y2 Z b C s t vP vH vG m m m (m + 1) (upd qs m q) (upd ps m p) (upd rs m r) := by
  have e : ∀ (f : Nat → Nat) a, ptrs (upd f m a) m = ptrs f m := fun f a => ptrs_congr (fun j hj => upd_other _ _ (by omega))
  refine ⟨h.bel, h.zl, h.bx, h.x, h.xl, h.zw, h.ar, h.rr, by rw [e]; exact h.rp, by rw [e]; exact h.rh, by rw [e]; exact h.rg, fun j hj => ?_, fun i j hij hj => ?_, fun j hj => ?_⟩
  · by_cases e : j = m
    · subst e; rw [upd_same, upd_same, upd_same]; exact ⟨hq, hp, hr⟩
    · rw [upd_other _ _ e, upd_other _ _ e, upd_other _ _ e]; exact h.ob j (by omega)
  · rw [upd_other _ _ (show i ≠ m by omega), upd_other _ _ (show i ≠ m by omega), upd_other _ _ (show i ≠ m by omega)]
    by_cases e : j = m
    · subst e; rw [upd_same, upd_same, upd_same]; exact hn i hij
    · rw [upd_other _ _ e, upd_other _ _ e, upd_other _ _ e]; exact h.inj i j hij (by omega)
  · by_cases e : j = m
    · subst e; rw [upd_same, upd_same, upd_same]; exact hl
    · rw [upd_other _ _ e, upd_other _ _ e, upd_other _ _ e]; exact h.lo j (by omega)
theorem LL.pushP (h : LL w wr X ab gc rb rc Y Y2 Z b C s t vP vH vG kP kH kG m qs ps rs) {w1 : World} {g c : Nat} {o : Obj} (hown : w1.ownsRow Z 84 1 (.slice (some ⟨g, 0, none⟩) (kP + 1) c) (kP + 1) (ptrs ps kP ++ [ptr ps kP])) (hgr : (wr.alloc o).grownBy w1 vP.ownBlock) :
    LL w (w1.setCell ⟨X, 3, none⟩ (.slice (some ⟨g, 0, none⟩) (kP + 1) c)) X ab gc rb rc Y Y2 Z b C s t (.slice (some ⟨g, 0, none⟩) (kP + 1) c) vH vG (kP + 1) kH kG m qs ps rs ∧ w1.heap[X]? = wr.heap[X]? := by
  have hxw := lt_of_heap h.x
  have hlt : ∀ j, vP.ownBlock = some j → Z ≤ j ∧ j < wr.heap.size := fun j hj => h.rp.lt j hj
  have hX : w1.heap[X]? = wr.heap[X]? := by
    rw [hgr.block X (by simp; omega) (fun e => by have := hlt X e.symm; have := h.xl; omega), Below.heap_alloc _ _ _ hxw]
  have c0 : Chg (fun j => j = X ∨ vP.ownBlock = some j) wr w1 := ((Chg.refl _ wr).alloc o).grown hgr (fun k e => .inl (.inr e))
  have c1 : Chg (fun j => j = X ∨ vP.ownBlock = some j) wr (w1.setCell ⟨X, 3, none⟩ (.slice (some ⟨g, 0, none⟩) (kP + 1) c)) := c0.setCell (p := ⟨X, 3, none⟩) (.inl rfl) _
  obtain ⟨h1, h2, h3, h4, h5, h6⟩ := h.stay c1 (fun j hj => by
    rcases hj with rfl | e
    · exact ⟨h.xl.1, fun _ => ⟨_, _, h.x, .inl rfl⟩⟩
    · obtain ⟨hz, cs, ht⟩ := own_tyz h.rp e
      exact ⟨Nat.le_trans h.zl.1 hz, fun _ => ⟨cs, _, ht, by simp [lT]⟩⟩)
  have keep : ∀ {ty : TypeId} {v : Value} {k : Nat} {xs : List Value}, (ty ≠ 37 ∧ ty ≠ 84) → wr.ownsRow Z ty 1 v k xs → (w1.setCell ⟨X, 3, none⟩ (.slice (some ⟨g, 0, none⟩) (kP + 1) c)).ownsRow Z ty 1 v k xs := fun ⟨e1, e2⟩ ho => own_stayR ho (fun j hj => by
    obtain ⟨_, cs, h3⟩ := own_tyz ho hj
    refine c1.block _ (lt_of_heap h3) (fun e => ?_)
    rcases e with e | e
    · exact ne_ty h3 h.x e1 e
    · obtain ⟨_, cs', h4⟩ := own_tyz h.rp e
      exact ne_ty h3 h4 e2 rfl)
  refine ⟨⟨h1, h.zl, h2, ?_, h.xl, h3, h4, h5, ?_, keep (by decide) h.rh, keep (by decide) h.rg, h6, h.inj, h.lo⟩, hX⟩
  · rw [heap_set (hX.trans h.x)]; rfl
  · rw [ptrs_succ]
    exact own_stayR hown (fun j hj => Below.heap_setCell _ _ _ _ (by have := (hown.lt j hj).1; have := h.xl; show j ≠ X; omega))
theorem LL.pushH (h : LL w wr X ab gc rb rc Y Y2 Z b C s t vP vH vG kP kH kG m qs ps rs) {w1 : World} {g c : Nat} {o : Obj} (hown : w1.ownsRow Z 63 1 (.slice (some ⟨g, 0, none⟩) (kH + 1) c) (kH + 1) (ptrs qs kH ++ [ptr qs kH])) (hgr : (wr.alloc o).grownBy w1 vH.ownBlock) :
    LL w (w1.setCell ⟨X, 4, none⟩ (.slice (some ⟨g, 0, none⟩) (kH + 1) c)) X ab gc rb rc Y Y2 Z b C s t vP (.slice (some ⟨g, 0, none⟩) (kH + 1) c) vG kP (kH + 1) kG m qs ps rs ∧ w1.heap[X]? = wr.heap[X]? := by
  have hxw := lt_of_heap h.x
  have hlt : ∀ j, vH.ownBlock = some j → Z ≤ j ∧ j < wr.heap.size := fun j hj => h.rh.lt j hj
  have hX : w1.heap[X]? = wr.heap[X]? := by
    rw [hgr.block X (by simp; omega) (fun e => by have := hlt X e.symm; have := h.xl; omega), Below.heap_alloc _ _ _ hxw]
  have c0 : Chg (fun j => j = X ∨ vH.ownBlock = some j) wr w1 := ((Chg.refl _ wr).alloc o).grown hgr (fun k e => .inl (.inr e))
  have c1 : Chg (fun j => j = X ∨ vH.ownBlock = some j) wr (w1.setCell ⟨X, 4, none⟩ (.slice (some ⟨g, 0, none⟩) (kH + 1) c)) := c0.setCell (p := ⟨X, 4, none⟩) (.inl rfl) _
  obtain ⟨h1, h2, h3, h4, h5, h6⟩ := h.stay c1 (fun j hj => by
    rcases hj with rfl | e
    · exact ⟨h.xl.1, fun _ => ⟨_, _, h.x, .inl rfl⟩⟩
    · obtain ⟨hz, cs, ht⟩ := own_tyz h.rh e
      exact ⟨Nat.le_trans h.zl.1 hz, fun _ => ⟨cs, _, ht, by simp [lT]⟩⟩)
  have keep : ∀ {ty : TypeId} {v : Value} {k : Nat} {xs : List Value}, (ty ≠ 37 ∧ ty ≠ 63) → wr.ownsRow Z ty 1 v k xs → (w1.setCell ⟨X, 4, none⟩ (.slice (some ⟨g, 0, none⟩) (kH + 1) c)).ownsRow Z ty 1 v k xs := fun ⟨e1, e2⟩ ho => own_stayR ho (fun j hj => by
    obtain ⟨_, cs, h3⟩ := own_tyz ho hj
    refine c1.block _ (lt_of_heap h3) (fun e => ?_)
    rcases e with e | e
    · exact ne_ty h3 h.x e1 e
    · obtain ⟨_, cs', h4⟩ := own_tyz h.rh e
      exact ne_ty h3 h4 e2 rfl)
  refine ⟨⟨h1, h.zl, h2, ?_, h.xl, h3, h4, h5, keep (by decide) h.rp, ?_, keep (by decide) h.rg, h6, h.inj, h.lo⟩, hX⟩
  · rw [heap_set (hX.trans h.x)]; rfl
  · rw [ptrs_succ]
    exact own_stayR hown (fun j hj => Below.heap_setCell _ _ _ _ (by have := (hown.lt j hj).1; have := h.xl; show j ≠ X; omega))
theorem LL.pushG (h : LL w wr X ab gc rb rc Y Y2 Z b C s t vP vH vG kP kH kG m qs ps rs) {w1 : World} {g c : Nat} {o : Obj} (hown : w1.ownsRow Z 97 1 (.slice (some ⟨g, 0, none⟩) (kG + 1) c) (kG + 1) (ptrs rs kG ++ [ptr rs kG])) (hgr : (wr.alloc o).grownBy w1 vG.ownBlock) :
    LL w (w1.setCell ⟨X, 6, none⟩ (.slice (some ⟨g, 0, none⟩) (kG + 1) c)) X ab gc rb rc Y Y2 Z b C s t vP vH (.slice (some ⟨g, 0, none⟩) (kG + 1) c) kP kH (kG + 1) m qs ps rs ∧ w1.heap[X]? = wr.heap[X]? := by
  have hxw := lt_of_heap h.x
  have hlt : ∀ j, vG.ownBlock = some j → Z ≤ j ∧ j < wr.heap.size := fun j hj => h.rg.lt j hj
  have hX : w1.heap[X]? = wr.heap[X]? := by
    rw [hgr.block X (by simp; omega) (fun e => by have := hlt X e.symm; have := h.xl; omega), Below.heap_alloc _ _ _ hxw]
  have c0 : Chg (fun j => j = X ∨ vG.ownBlock = some j) wr w1 := ((Chg.refl _ wr).alloc o).grown hgr (fun k e => .inl (.inr e))
  have c1 : Chg (fun j => j = X ∨ vG.ownBlock = some j) wr (w1.setCell ⟨X, 6, none⟩ (.slice (some ⟨g, 0, none⟩) (kG + 1) c)) := c0.setCell (p := ⟨X, 6, none⟩) (.inl rfl) _
  obtain ⟨h1, h2, h3, h4, h5, h6⟩ := h.stay c1 (fun j hj => by
    rcases hj with rfl | e
    · exact ⟨h.xl.1, fun _ => ⟨_, _, h.x, .inl rfl⟩⟩
    · obtain ⟨hz, cs, ht⟩ := own_tyz h.rg e
      exact ⟨Nat.le_trans h.zl.1 hz, fun _ => ⟨cs, _, ht, by simp [lT]⟩⟩)
  have keep : ∀ {ty : TypeId} {v : Value} {k : Nat} {xs : List Value}, (ty ≠ 37 ∧ ty ≠ 97) → wr.ownsRow Z ty 1 v k xs → (w1.setCell ⟨X, 6, none⟩ (.slice (some ⟨g, 0, none⟩) (kG + 1) c)).ownsRow Z ty 1 v k xs := fun ⟨e1, e2⟩ ho => own_stayR ho (fun j hj => by
    obtain ⟨_, cs, h3⟩ := own_tyz ho hj
    refine c1.block _ (lt_of_heap h3) (fun e => ?_)
    rcases e with e | e
    · exact ne_ty h3 h.x e1 e
    · obtain ⟨_, cs', h4⟩ := own_tyz h.rg e
      exact ne_ty h3 h4 e2 rfl)
  refine ⟨⟨h1, h.zl, h2, ?_, h.xl, h3, h4, h5, keep (by decide) h.rp, keep (by decide) h.rh, ?_, h6, h.inj, h.lo⟩, hX⟩
  · rw [heap_set (hX.trans h.x)]; rfl
  · rw [ptrs_succ]
    exact own_stayR hown (fun j hj => Below.heap_setCell _ _ _ _ (by have := (hown.lt j hj).1; have := h.xl; show j ≠ X; omega))
end
end Go.Proofs.YtgjdjdgondpjeaaGreat

/- lay 10: a table at its start. -/
namespace Go.Proofs.YtgjdjdgondpjeaaGreat
open Go.RowKit Go.Lib
set_option linter.unusedVariables false
set_option linter.unusedSimpArgs false
theorem info84 : (Tryz.prog.info? 84).map (fun i => (i.zero, i.size, i.bytes)) = some (some (.pointer none), 1, 8) := by kernel_rfl
theorem info63 : (Tryz.prog.info? 63).map (fun i => (i.zero, i.size, i.bytes)) = some (some (.pointer none), 1, 8) := by kernel_rfl
theorem info97 : (Tryz.prog.info? 97).map (fun i => (i.zero, i.size, i.bytes)) = some (some (.pointer none), 1, 8) := by kernel_rfl
theorem words_get {l : List Int} {i : Nat} (h : i < l.length) : (l.map (Value.int .u64))[i]? = some (.int .u64 (at_ l i)) := by
  simp [at_, List.getElem?_eq_getElem h]
def s0 (b C : Nat) (l : List Tk) : Ast := { Ast.new (b + (2 + 3 * C)) true with cells := pkb b (tab (2 + 3 * C) (gR l l.length)) (2 + 3 * C) }
/-- A table at its start. -/
def LayP (w : World) (b C : Nat) (l : List Tk) (n : Nat) (e : Ending) (w' : World) : Prop :=
  ∃ (X ab gc rb rc Y Y2 Z : Nat) (vP vH vG : Value) (qs ps rs : Nat → Nat), e = .returned (.pointer (some ⟨X, 0, none⟩)) ∧ LL w w' X ab gc rb rc Y Y2 Z b C (s0 b C l) (s0 b C l) vP vH vG n n n n qs ps rs
theorem mdecR {i n : Nat} (h : i < n) : n - (RowKit.intOf (.int .i64 ((i : Int) + 1))).toNat < n - (RowKit.intOf (.int .i64 (i : Int))).toNat := by
  simp [RowKit.intOf]; omega
set_option maxRecDepth 100000 in
set_option maxHeartbeats 8000000 in
theorem lay_any (b C n : Nat) (v : Value) (l : List Tk) (w : World) (hl : TAt w v l) (htk : Tok l) (hC1 : 2 ≤ C) (hC2 : C ≤ 65536) (hbm : b + (2 + 3 * C) ≤ 16777216) (hnv : hasNev l = false) (hlc : l.length ≤ C) (hn : n ≤ 64) :
    Calls Tryz.prog 10 #[qAgg b C, v, .int .i64 n] w (LayP w b C l n) := by
  have hok : OkR (b : Int) (C : Int) := ⟨⟨by omega, by omega⟩, by omega, by omega⟩
  have hfc : ¬ (C : Int) < (l.length : Int) := by omega
  have HCE := hide (fun W => refCellsR_any b C W)
  simp only [if_pos hok] at HCE
  have HNEW := hide (fun W => new_any (b + (2 + 3 * C)) true W (by omega))
  have HRN := hide (fun W => refNew_any (b + (2 + 3 * C)) true W (by omega))
  have hcst : ((b + (2 + 3 * C) : Nat) : Int) = (b : Int) + (2 + 3 * (C : Int)) := by omega
  rw [hcst] at HNEW HRN
  have hsum : IntKind.i64.wrap ((b : Int) + (2 + 3 * (C : Int))) = (b : Int) + (2 + 3 * (C : Int)) := IntWalk.i64_in _ (by omega)
  have HFI := hide (fun W (hb : Below w.heap.size w W) => ringFill_good b C (2 + 3 * C) v l W (hl.below hb) htk hok hnv hfc rfl)
  have HRF := hide (fun W (hb : Below w.heap.size w W) => refFillR_own b C v l W (hl.below hb) hok hnv hfc)
  have HOP := hide (fun i W (hi : 0 ≤ i) => open_full b C i W hok hi)
  have HRO := hide (fun i W (hi : 0 ≤ i) => refOpen_full b C i W hok hi)
  have HN64 := hide hn
  have HBM := hide hbm
  obtain ⟨ao, cc, rfl, hcc⟩ := hl.shape
  obtain ⟨X0, hX0⟩ : ∃ X0, X0 = w.alloc (.cells #[.int .i64 (b : Int), .int .i64 (C : Int)] 23) := ⟨_, rfl⟩
  have HB := hide (show Below w.heap.size w X0 by rw [hX0]; exact below_alloc (Below.refl _ _) _)
  have HA := hide (show X0.heap[w.heap.size]? = some (.cells #[.int .i64 (b : Int), .int .i64 (C : Int)] 23 (0, 0)) by rw [hX0]; exact heap_new _ _)
  have a0 := cell_of HA.out (i := 0) rfl; have a1 := cell_of HA.out (i := 1) rfl
  unfold qAgg at HCE HFI HRF HOP HRO ⊢
  clear hl htk hnv hok hfc hcst hcc
  rw [hX0] at a0 a1
  go_enter Tryz.func10, Tryz.ntmps10
  go_wp2_with fail
  rw [← hX0]
  clear hX0 a0 a1
  refine (HCE.out X0).mono ?_
  rintro e w1 ⟨rfl, hb1⟩
  replace HA := hide ((hb1.block _ (lt_of_heap HA.out)).trans HA.out)
  replace HB := hide (below_on HB.out hb1)
  have a0 := cell_of HA.out (i := 0) rfl; have a1 := cell_of HA.out (i := 1) rfl
  clear hb1 HCE
  go_wp2_with fail
  refine (HNEW.out w1).mono ?_
  rintro e w2 ⟨rfl, ha2, hs2, hb2⟩
  have hpn : ∀ w, (binOp .eql 31 (.pointer (some ⟨w1.heap.size + 1, 0, none⟩)) (.pointer none)).run Tryz.prog w = .ok (.bool false) w := fun w => rfl
  have HS1 := hide HB.out.size
  replace HA := hide ((hb2.block _ (lt_of_heap HA.out)).trans HA.out)
  replace HB := hide (below_on HB.out hb2)
  have HAR := hide ha2
  have HS2 := hide hs2
  clear ha2 hs2 hb2 HNEW a0 a1
  have a0 := cell_of HA.out (i := 0) rfl; have a1 := cell_of HA.out (i := 1) rfl
  have HKA : Hid (∀ X, Below w2.heap.size w2 X → X.cell? ⟨w.heap.size, 0, none⟩ = some (.int .i64 b) ∧ X.cell? ⟨w.heap.size, 1, none⟩ = some (.int .i64 C)) := hide (fun X hX => by
    have z := (hX.block _ (lt_of_heap HA.out)).trans HA.out
    exact ⟨cell_of z rfl, cell_of z rfl⟩)
  go_upto_region 6 with fail
  refine wp_region_noPanic ?_
  go_region_held3 (fun x => x.cell? ⟨w.heap.size, 0, none⟩ = some (.int .i64 b) ∧ x.cell? ⟨w.heap.size, 1, none⟩ = some (.int .i64 C)) (first | exact ⟨a0, a1⟩ | exact ⟨q0, q1⟩ | go_keep)
    (first
      | (go_at_call 37; refine (HRN.out _).mono ?_; rintro e w3 ⟨rfl, hr3, hs3, hb3⟩; have HB3 := hide (below_on (a := w2) (below_drew (Below.refl _ _)) hb3); have HR3 := hide hr3; have HS3 := hide (show w3.heap.size = w2.heap.size + 2 from hs3); obtain ⟨q0, q1⟩ := HKA.out w3 HB3.out; clear hr3 hs3 hb3)
      | fail)
  refine NoPanic.normal ?_
  obtain ⟨w4, hw4⟩ : ∃ w4, w4 = w3.alloc (.cells #[.int .i64 (b : Int), .int .i64 (C : Int), .pointer (some ⟨w1.heap.size + 1, 0, none⟩), .slice none 0 0, .slice none 0 0, .pointer (some ⟨w2.heap.size + 1, 0, none⟩), .slice none 0 0] 37) := ⟨_, rfl⟩
  have hb4 : Below w3.heap.size w3 w4 := by rw [hw4]; exact below_alloc (Below.refl _ _) _
  have HXX := hide (show w4.heap[w3.heap.size]? = some (.cells #[.int .i64 (b : Int), .int .i64 (C : Int), .pointer (some ⟨w1.heap.size + 1, 0, none⟩), .slice none 0 0, .slice none 0 0, .pointer (some ⟨w2.heap.size + 1, 0, none⟩), .slice none 0 0] 37 (0, 0)) by rw [hw4]; exact heap_new _ _)
  have HB24 := hide (below_on HB3.out hb4)
  replace HAR := hide (HAR.out.below HB24.out)
  have HRR := hide (HR3.out.below hb4)
  replace HA := hide ((HB24.out.block _ (lt_of_heap HA.out)).trans HA.out)
  replace HB := hide (below_on HB.out HB24.out)
  have hbox := hw4
  clear a0 a1 q0 q1 HKA
  have a0 := cell_of HA.out (i := 0) rfl; have a1 := cell_of HA.out (i := 1) rfl
  rw [hw4] at a0 a1
  have HS4 := hide hb4.size
  clear HR3 hb4 hbox
  go_wp2_with fail
  rw [← hw4]
  clear hw4 a0 a1
  refine (HFI.out w4 HB.out).mono ?_
  rintro e w5 ⟨hb5, ⟨h5, _⟩ | ⟨_, gf, hgf, rfl, hf5⟩⟩
  · exact absurd rfl h5
  rw [tab_length]
  have HGF := hide (show w4.heap.size ≤ gf ∧ gf < w5.heap.size from ⟨hgf, lt_of_heap hf5⟩)
  have HB45 := hide hb5
  have HF5 := hide hf5
  replace HA := hide ((hb5.block _ (lt_of_heap HA.out)).trans HA.out)
  replace HB := hide (below_on HB.out hb5)
  have a0 := cell_of HA.out (i := 0) rfl; have a1 := cell_of HA.out (i := 1) rfl
  clear hb5 hgf hf5 HFI
  go_wp2_with fail
  refine (HRF.out w5 HB.out).mono ?_
  rintro e w6 ⟨rv, rfl, ho6, hb6⟩
  obtain ⟨gw, cw, rfl, hgw, hgw2, hcw⟩ : ∃ gw cw, rv = .slice (some ⟨gw, 0, none⟩) (2 + 3 * C) cw ∧ w5.heap.size ≤ gw ∧ gw < w6.heap.size ∧ 2 + 3 * C ≤ cw := by
    obtain ⟨_, ⟨_, hz⟩ | ⟨g, cap, cur, hv, hg, hh, hnc, _⟩⟩ := id ho6
    · omega
    · exact ⟨g, cap, hv, hg, lt_of_heap hh, hnc⟩
  have HGW := hide (show w5.heap.size ≤ gw ∧ gw < w6.heap.size from ⟨hgw, hgw2⟩)
  have HO6 := hide ho6
  have HB46 := hide (below_on HB45.out hb6)
  have HF6 := hide (show ArrU w6 gf (tab (2 + 3 * C) (gR l l.length)) from (hb6.block _ HGF.out.2).trans HF5.out)
  replace HA := hide ((hb6.block _ (lt_of_heap HA.out)).trans HA.out)
  replace HB := hide (below_on HB.out hb6)
  have HZ6 := hide (show w5.heap.size ≤ w6.heap.size from hb6.size)
  clear hb6 ho6 hgw hgw2 HRF a0 a1 HF5
  have hlt3 := lt_of_heap HXX.out
  have HL0 := hide (show LL w w6 w3.heap.size (w1.heap.size + 1) w1.heap.size (w2.heap.size + 1) w2.heap.size (w1.heap.size + 2) (w2.heap.size + 2) w6.heap.size b C { Ast.new (b + (2 + 3 * C)) true with cells := pkb b (tab (2 + 3 * C) (gR l l.length)) 0 } { Ast.new (b + (2 + 3 * C)) true with cells := pkb b (tab (2 + 3 * C) (gR l l.length)) 0 } (.slice none 0 0) (.slice none 0 0) (.slice none 0 0) 0 0 0 0 (fun _ => 0) (fun _ => 0) (fun _ => 0) from by
    have e : ({ Ast.new (b + (2 + 3 * C)) true with cells := pkb b (tab (2 + 3 * C) (gR l l.length)) 0 } : Ast) = Ast.new (b + (2 + 3 * C)) true := by rw [pkb_zero, tab_length]; rfl
    rw [e]
    have := HS1.out; have := HS2.out; have := HS3.out; have := HS4.out; have := HB24.out.size; have := HB46.out.size; have := HB3.out.size
    refine ⟨HB.out, ⟨HB.out.size, by omega, by omega, by omega, by omega, by omega⟩, HA.out, (HB46.out.block _ (lt_of_heap HXX.out)).trans HXX.out, ⟨by omega, by omega⟩, Nat.le_refl _, HAR.out.below HB46.out, HRR.out.below HB46.out, World.ownsRow_nil _ _ _ _, World.ownsRow_nil _ _ _ _, World.ownsRow_nil _ _ _ _, fun j hj => absurd hj (Nat.not_lt_zero _), fun i j hij hj => absurd hj (Nat.not_lt_zero _), fun j hj => absurd hj (Nat.not_lt_zero _)⟩)
  have HNE := hide (show gf ≠ w1.heap.size ∧ gf ≠ w1.heap.size + 1 ∧ gf ≠ w2.heap.size ∧ gw ≠ w1.heap.size ∧ gw ≠ w1.heap.size + 1 ∧ gw ≠ w2.heap.size from by
    have := HS2.out; have := HS3.out; have := HS4.out; have := HB45.out.size; have := HGF.out; have := HGW.out
    omega)
  clear HXX HAR HRR HB24 HB45 HS1 HS2 HS3 HS4 HB3 HB46 hlt3 HZ6 HA HB HN64
  generalize hLs : tab (2 + 3 * C) (gR l l.length) = Ls at HL0 HF6 HO6
  have HLs := hide hLs
  have HLn := hide (show Ls.length = 2 + 3 * C by rw [← hLs, tab_length])
  have hn64 := hn
  obtain ⟨N, hN⟩ : ∃ N, N = 2 + 3 * C := ⟨_, rfl⟩
  have HNE2 := hide hN
  have hNC : ((2 + 3 * C : Nat) : Int) = (N : Int) := by omega
  have hN2 : N ≤ 200000 := by omega
  generalize hX : w3.heap.size = X at HL0 ⊢
  generalize hab : w1.heap.size + 1 = ab at HL0 HNE ⊢
  generalize hgc : w1.heap.size = gc at HL0 HNE
  generalize hrb : w2.heap.size + 1 = rb at HL0
  generalize hrc : w2.heap.size = rc at HL0 HNE
  generalize hY : gc + 2 = Y at HL0
  generalize hY2 : rc + 2 = Y2 at HL0
  generalize hZ : w6.heap.size = Z at HL0
  rw [← hN] at HLn HO6 ⊢
  obtain ⟨LMS, hLMS⟩ : ∃ LMS : World → Nat → Nat → Prop, LMS = fun wr i j => LL w wr X ab gc rb rc Y Y2 Z b C { Ast.new (b + (2 + 3 * C)) true with cells := pkb b Ls i } { Ast.new (b + (2 + 3 * C)) true with cells := pkb b Ls j } (.slice none 0 0) (.slice none 0 0) (.slice none 0 0) 0 0 0 0 (fun _ => 0) (fun _ => 0) (fun _ => 0) := ⟨_, rfl⟩
  have HMM := hide (show LMS w6 0 0 by rw [hLMS]; exact HL0.out)
  have HLD := hide hLMS
  have HPA := hide (show ∀ wr i, i < N → LMS wr i i → Calls Tryz.prog 28 #[.pointer (some ⟨ab, 0, none⟩), .int .i64 ((b : Int) + i), .int .u64 (at_ Ls i)] wr fun r w' => r = .returned (.int .i64 0) ∧ LMS w' (i + 1) i ∧ Chg (fun k => k = ab ∨ k = gc) wr w' from fun wr i hi hm => by
    rw [HLD.out] at hm ⊢
    have hp := poke_in _ _ _ _ _ (b + i) (at_ Ls i) wr hm.ar (by show b + i < (pkb b Ls i).length; rw [pkb_len, HLn.out]; omega)
    rw [show ((b + i : Nat) : Int) = (b : Int) + i by omega] at hp
    refine hp.mono ?_
    rintro e w' ⟨rfl, ha, hc⟩
    refine ⟨rfl, ?_, hc⟩
    have := hm.poke ha hc
    simpa only [pkb_set b Ls i] using this)
  have HPR := hide (show ∀ wr i, i < N → LMS wr (i + 1) i → Calls Tryz.prog 38 #[.pointer (some ⟨rb, 0, none⟩), .int .i64 ((b : Int) + i), .int .u64 (at_ Ls i)] wr fun r w' => r = .returned (.int .i64 0) ∧ LMS w' (i + 1) (i + 1) ∧ Chg (fun k => k = rc) wr w' from fun wr i hi hm => by
    rw [HLD.out] at hm ⊢
    have hp := refPoke_in _ _ _ _ _ (b + i) (at_ Ls i) wr hm.rr (by show b + i < (pkb b Ls i).length; rw [pkb_len, HLn.out]; omega)
    rw [show ((b + i : Nat) : Int) = (b : Int) + i by omega] at hp
    refine hp.mono ?_
    rintro e w' ⟨rfl, ha, hc⟩
    refine ⟨rfl, ?_, hc⟩
    have := hm.rpoke ha hc
    simpa only [pkb_set b Ls i] using this)
  have HBX := hide (show ∀ wr i j, LMS wr i j → (wr.cell? ⟨X, 5, none⟩ = some (.pointer (some ⟨rb, 0, none⟩)) ∧ wr.cell? ⟨w.heap.size, 0, none⟩ = some (.int .i64 (b : Int))) from fun wr i j hm => by
    rw [HLD.out] at hm; exact ⟨cell_of hm.x rfl, cell_of hm.bx rfl⟩)
  have HBY := hide (show ∀ wr wr' i j, LMS wr i j → Below wr.heap.size wr wr' → LMS wr' i j from fun wr wr' i j hm hb => by
    rw [HLD.out] at hm ⊢; exact hm.below hb)
  have HFull : Hid (∀ (wr : World), ArrU wr gf Ls → ∀ i, i < N → wr.cell? ⟨gf, i, none⟩ = some (.int .u64 (at_ Ls i))) := hide (fun wr ha i hi => ha.cell i (by rw [HLn.out]; exact hi))
  have HWant : Hid (∀ (wr : World), wr.ownsRow w5.heap.size 40 1 (.slice (some ⟨gw, 0, none⟩) N cw) N (Ls.map (Value.int .u64)) → ∀ i, i < N → wr.cell? ⟨gw, i, none⟩ = some (.int .u64 (at_ Ls i))) := hide (fun wr ha i hi => own_at ha (words_get (by rw [HLn.out]; exact hi)) hi)
  have HC1 : Hid (∀ (wr w' : World), Chg (fun k => k = ab ∨ k = gc) wr w' → (ArrU wr gf Ls → ArrU w' gf Ls) ∧ (wr.ownsRow w5.heap.size 40 1 (.slice (some ⟨gw, 0, none⟩) N cw) N (Ls.map (Value.int .u64)) → w'.ownsRow w5.heap.size 40 1 (.slice (some ⟨gw, 0, none⟩) N cw) N (Ls.map (Value.int .u64)))) := hide (fun wr w' c => ⟨fun ha => c.heap ha (fun e => by have := HNE.out; rcases e with e | e <;> omega), fun ho => own_stayR ho (fun g hg => c.block _ (ho.lt g hg).2 (fun e => by cases hg; have e' : gw = ab ∨ gw = gc := e; have := HNE.out; rcases e' with e | e <;> omega))⟩)
  have HC2 : Hid (∀ (wr w' : World), Chg (fun k => k = rc) wr w' → (ArrU wr gf Ls → ArrU w' gf Ls) ∧ (wr.ownsRow w5.heap.size 40 1 (.slice (some ⟨gw, 0, none⟩) N cw) N (Ls.map (Value.int .u64)) → w'.ownsRow w5.heap.size 40 1 (.slice (some ⟨gw, 0, none⟩) N cw) N (Ls.map (Value.int .u64)))) := hide (fun wr w' c => ⟨fun ha => c.heap ha (fun e => by have e' : gf = rc := e; have := HNE.out; omega), fun ho => own_stayR ho (fun g hg => c.block _ (ho.lt g hg).2 (fun e => by cases hg; have e' : gw = rc := e; have := HNE.out; omega))⟩)
  clear hLMS HL0 hLs hX hab hgc hrb hrc hY hY2 hZ
  go_wp2_with fail
  go_loopw [16] (fun t wr => ∃ i : Nat, i ≤ N ∧ t = .int .i64 (i : Int) ∧ LMS wr i i ∧ ArrU wr gf Ls ∧ wr.ownsRow w5.heap.size 40 1 (.slice (some ⟨gw, 0, none⟩) N cw) N (Ls.map (Value.int .u64))) (fun t _ => N - (RowKit.intOf t).toNat)
  case atStart => exact ⟨0, Nat.zero_le _, rfl, HMM.out, HF6.out, HO6.out⟩
  case round =>
    obtain ⟨i, hin, rfl, hm, hf, ho⟩ := hrel
    have HM1 := hide hm; have HF1 := hide hf; have HO1 := hide ho
    clear HMM HF6 HO6 hm hf ho
    by_cases hlt : i < N
    · have hli : (i : Int) < (N : Int) := by omega
      have x1 := HFull.out wr HF1.out i hlt
      have x2 := HWant.out wr HO1.out i hlt
      obtain ⟨_, x0⟩ := HBX.out _ _ _ HM1.out
      have hbi : IntKind.i64.wrap ((b : Int) + (i : Int)) = (b : Int) + (i : Int) := IntWalk.i64_in _ (by omega)
      have HPC := hide (fun V (k : Below wr.heap.size wr V) => HPA.out V i hlt (HBY.out wr V _ _ HM1.out k))
      have HFB := hide (fun V (k : Below wr.heap.size wr V) => show ArrU V gf Ls from (k.block _ (lt_of_heap HF1.out)).trans HF1.out)
      have HOB := hide (fun V (k : Below wr.heap.size wr V) => show V.ownsRow w5.heap.size 40 1 (.slice (some ⟨gw, 0, none⟩) N cw) N (Ls.map (Value.int .u64)) from own_stayR HO1.out (fun g hg => k.block _ (HO1.out.lt g hg).2))
      obtain ⟨x, hx⟩ : ∃ x, x = at_ Ls i := ⟨_, rfl⟩
      have HXE := hide hx
      rw [← hx] at x1 x2 HPC
      clear hx
      go_wp2_with fail
      go_quiet (fail)
      obtain ⟨wq, hwq⟩ : ∃ wq, wq = wr.drewN nq := ⟨_, rfl⟩
      have hbq : Below wr.heap.size wr wq := by rw [hwq]; exact below_drN _ _
      have x1' := (below_cell hbq (block_of_cell x1)).trans x1
      have x2' := (below_cell hbq (block_of_cell x2)).trans x2
      have x0' := (below_cell hbq (block_of_cell x0)).trans x0
      rw [← hwq]
      clear hwq x0 x1 x2
      have HBQ := hide hbq
      clear hbq
      go_upto_region 16 with fail
      refine wp_region_noPanic ?_
      go_region_held3 (fun x' => x'.cell? ⟨w.heap.size, 0, none⟩ = some (.int .i64 b) ∧ x'.cell? ⟨gf, i, none⟩ = some (.int .u64 x)) (first | with_reducible exact ⟨x0', x1'⟩ | with_reducible exact ⟨y0, y1⟩ | go_keep)
        (first
          | (go_at_call 28; refine (HPC.out _ (below_drew HBQ.out)).mono ?_; rintro e wa ⟨rfl, hma, hca⟩; have HM2 := hide hma; have HF2 := hide ((HC1.out _ _ hca).1 (HFB.out _ (below_drew HBQ.out))); have HO2 := hide ((HC1.out _ _ hca).2 (HOB.out _ (below_drew HBQ.out))); have y0 := (HBX.out _ _ _ hma).2; have y1 : wa.cell? ⟨gf, i, none⟩ = some (.int .u64 x) := (by rw [HXE.out]; exact HFull.out wa HF2.out i hlt); clear hma hca)
          | fail)
      all_goals
        refine NoPanic.normal ?_
        obtain ⟨z5, z0⟩ := HBX.out _ _ _ HM2.out
        have z2 : wa.cell? ⟨gw, i, none⟩ = some (.int .u64 x) := by rw [HXE.out]; exact HWant.out wa HO2.out i hlt
        have HPD := hide (fun V (k : Below wa.heap.size wa V) => HPR.out V i hlt (HBY.out wa V _ _ HM2.out k))
        rw [← HXE.out] at HPD
        clear x0' x1' x2' y0 y1
        go_upto_region 17 with fail
        refine wp_region_noPanic ?_
        go_region_held3 (fun x' => x'.cell? ⟨X, 5, none⟩ = some (.pointer (some ⟨rb, 0, none⟩)) ∧ x'.cell? ⟨w.heap.size, 0, none⟩ = some (.int .i64 b) ∧ x'.cell? ⟨gw, i, none⟩ = some (.int .u64 x)) (first | with_reducible exact ⟨z5, z0, z2⟩ | with_reducible exact ⟨y5, y0, y2⟩ | go_keep)
          (first
            | (go_at_call 38; refine (HPD.out _ (below_drew (Below.refl _ _))).mono ?_; rintro e wb ⟨rfl, hmb, hcb⟩; have HM3 := hide hmb; have HF3 := hide ((HC2.out _ _ hcb).1 (show ArrU wa.drew gf Ls from HF2.out)); have HO3 := hide ((HC2.out _ _ hcb).2 (show wa.drew.ownsRow w5.heap.size 40 1 (.slice (some ⟨gw, 0, none⟩) N cw) N (Ls.map (Value.int .u64)) from HO2.out)); obtain ⟨y5, y0⟩ := HBX.out _ _ _ hmb; have y2 : wb.cell? ⟨gw, i, none⟩ = some (.int .u64 x) := (by rw [HXE.out]; exact HWant.out wb HO3.out i hlt); clear hmb hcb)
            | fail)
        all_goals
          refine NoPanic.normal ?_
          go_wp2_with fail
          exact ⟨⟨i + 1, hlt, by simp, HM3.out, HF3.out, HO3.out⟩, mdecR hlt⟩
    · obtain rfl : i = N := by omega
      have hLM := HM1.out
      rw [HLD.out] at hLM
      have HSE : Hid (({ Ast.new (b + (2 + 3 * C)) true with cells := pkb b Ls i } : Ast) = s0 b C l) := by
        unfold Hid s0; rw [HLs.out, HNE2.out]
      rw [HSE.out] at hLM
      have HL := hide hLM
      obtain ⟨i84, hi84, hz840, hz841, hz842⟩ := info_parts info84
      obtain ⟨i63, hi63, hz630, hz631, hz632⟩ := info_parts info63
      obtain ⟨i97, hi97, hz970, hz971, hz972⟩ := info_parts info97
      clear hLM HM1 HF1 HO1 HPA HPR HBX HBY HFull HWant HC1 HC2 HLD HLs HSE HNE2
      obtain ⟨ss, hss⟩ : ∃ ss, ss = s0 b C l := ⟨_, rfl⟩
      have HSS := hide hss
      rw [← hss] at HL
      clear hss
      go_wp2_with fail
      go_loopw [17] (fun t wr => ∃ (k : Nat) (vP vH vG : Value) (qs ps rs : Nat → Nat), k ≤ n ∧ t = .int .i64 (k : Int) ∧ LL w wr X ab gc rb rc Y Y2 Z b C ss ss vP vH vG k k k k qs ps rs) (fun t _ => n - (RowKit.intOf t).toNat)
      case atStart => exact ⟨0, _, _, _, _, _, _, Nat.zero_le _, rfl, HL.out⟩
      case round =>
        obtain ⟨k, vP, vH, vG, qs, ps, rs, hkn, rfl, hL⟩ := hrel
        have HL1 := hide hL
        clear HL hL
        by_cases hkl : k < n
        · have hki : (k : Int) < (n : Int) := by omega
          go_wp2_with fail
          refine (port_any ab (k : Int) wr (by omega)).mono ?_
          rintro e wa ⟨rfl, hwa⟩
          have hba : Below wr.heap.size wr wa := by rw [hwa]; exact below_alloc (Below.refl _ _) _
          have HPO := hide (show wa.heap[wr.heap.size]? = some (PObj ab (k : Int) false) by rw [hwa]; exact heap_new _ _)
          have HLa := hide (HL1.out.below hba)
          have HNP := hide (show ∀ j, j < k → ps j ≠ wr.heap.size from fun j hj e => by have := lt_of_heap (HL1.out.ob j hj).2.1; omega)
          have HZP := hide HL1.out.zw
          have a0 := cell_of HLa.out.bx (i := 0) rfl; have a1 := cell_of HLa.out.bx (i := 1) rfl
          have HWR := hide (show wr.heap.size < wa.heap.size from lt_of_heap HPO.out)
          generalize wr.heap.size = p at *
          clear hwa hba
          go_wp2_with fail
          refine (HOP.out k wa (by omega)).mono ?_
          rintro e wb ⟨q, rfl, hql, hqo, hbb⟩
          have HLb := hide (HLa.out.below hbb)
          have HPOb := hide ((hbb.block _ (lt_of_heap HPO.out)).trans HPO.out)
          have HQO := hide hqo
          have HNQ := hide (show ∀ j, j < k → qs j ≠ q from fun j hj e => by have := lt_of_heap (HLa.out.ob j hj).1; omega)
          have HZQ := hide (show Z ≤ q from Nat.le_trans HLa.out.zw hql)
          clear hbb hql hqo a0 a1
          have a0 := cell_of HLb.out.bx (i := 0) rfl; have a1 := cell_of HLb.out.bx (i := 1) rfl
          go_wp2_with fail
          refine (HRO.out k wb (by omega)).mono ?_
          rintro e wc ⟨r, rfl, hrl, hro, hbc⟩
          have HLc := hide ((HLb.out.below hbc).more (q := q) (p := p) (r := r) ((hbc.block _ (lt_of_heap HQO.out)).trans HQO.out) ((hbc.block _ (lt_of_heap HPOb.out)).trans HPOb.out) hro (fun j hj => ⟨HNQ.out j hj, HNP.out j hj, fun e => by have := lt_of_heap (HLb.out.ob j hj).2.2; omega⟩) ⟨HZQ.out, HZP.out, Nat.le_trans HLb.out.zw hrl⟩)
          have hpn1 : ∀ w, (binOp .eql 84 (.pointer (some ⟨p, 0, none⟩)) (.pointer none)).run Tryz.prog w = .ok (.bool false) w := fun w => rfl
          have hpn2 : ∀ w, (binOp .eql 63 (.pointer (some ⟨q, 0, none⟩)) (.pointer none)).run Tryz.prog w = .ok (.bool false) w := fun w => rfl
          obtain ⟨oP, cP, hvP⟩ := owns_shape HLc.out.rp
          obtain ⟨oH, cH, hvH⟩ := owns_shape HLc.out.rh
          obtain ⟨oG, cG, hvG⟩ := owns_shape HLc.out.rg
          subst hvP hvH hvG
          clear hbc hrl hro HLb HPOb HQO HNQ HNP HZQ HZP HLa HPO HL1 HWR a0 a1
          have s3 : wc.cell? ⟨X, 3, none⟩ = some (.slice oP k cP) := cell_of HLc.out.x rfl
          go_upto_region 27 with (first
            | (at_builtin; refine wpList_append_lies _ rfl (.tmp 155) (.tmp 157) 32 rfl Z 84 i84 (.pointer none) 1 8 Tryz.underlying32 hi84 hz840 hz841 hz842 rfl (by decide) _ k _ rfl (HLc.out.rp.alloc _) ⟨wc.heap.size, 0, none⟩ 1 1 [.pointer (some ⟨p, 0, none⟩)] rfl rfl (arr_at wc _ _) (by simp [Value.oneCell']) (by omega) (by unfold maxLen; omega) (by omega) (by have := HLc.out.zw; simp; omega) _ rfl ?_; intro gP dP wd hown hgr _ _; obtain ⟨hlx, hxe⟩ := HLc.out.pushP (g := gP) (c := dP) (by rw [show ptr (upd ps k p) k = .pointer (some ⟨p, 0, none⟩) by unfold ptr; rw [upd_same]]; exact hown) hgr; have HLd := hide hlx; have hxd := hxe.trans HLc.out.x; have d3 := cell_of hxd (i := 3) rfl; have df3 := free_of hxd 3; clear hown hgr hlx hxe)
            | fail)
          generalize (wd.setCell ⟨X, 3, none⟩ (.slice (some ⟨gP, 0, none⟩) (k + 1) dP)) = we at HLd ⊢
          clear s3 d3 df3 hxd HLc
          have s4 : we.cell? ⟨X, 4, none⟩ = some (.slice oH k cH) := cell_of HLd.out.x rfl
          go_upto_region 28 with (first
            | (at_builtin; refine wpList_append_lies _ rfl (.tmp 165) (.tmp 167) 33 rfl Z 63 i63 (.pointer none) 1 8 Tryz.underlying33 hi63 hz630 hz631 hz632 rfl (by decide) _ k _ rfl (HLd.out.rh.alloc _) ⟨we.heap.size, 0, none⟩ 1 1 [.pointer (some ⟨q, 0, none⟩)] rfl rfl (arr_at we _ _) (by simp [Value.oneCell']) (by omega) (by unfold maxLen; omega) (by omega) (by have := HLd.out.zw; simp; omega) _ rfl ?_; intro gH dH wf hown hgr _ _; obtain ⟨hlx, hxe⟩ := HLd.out.pushH (g := gH) (c := dH) (by rw [show ptr (upd qs k q) k = .pointer (some ⟨q, 0, none⟩) by unfold ptr; rw [upd_same]]; exact hown) hgr; have HLe := hide hlx; have hxd := hxe.trans HLd.out.x; have d4 := cell_of hxd (i := 4) rfl; have df4 := free_of hxd 4; clear hown hgr hlx hxe)
            | fail)
          generalize (wf.setCell ⟨X, 4, none⟩ (.slice (some ⟨gH, 0, none⟩) (k + 1) dH)) = wg at HLe ⊢
          clear s4 d4 df4 hxd HLd
          have s6 : wg.cell? ⟨X, 6, none⟩ = some (.slice oG k cG) := cell_of HLe.out.x rfl
          go_upto_region 20 with (first
            | (at_builtin; refine wpList_append_lies _ rfl (.tmp 175) (.tmp 177) 35 rfl Z 97 i97 (.pointer none) 1 8 Tryz.underlying35 hi97 hz970 hz971 hz972 rfl (by decide) _ k _ rfl (HLe.out.rg.alloc _) ⟨wg.heap.size, 0, none⟩ 1 1 [.pointer (some ⟨r, 0, none⟩)] rfl rfl (arr_at wg _ _) (by simp [Value.oneCell']) (by omega) (by unfold maxLen; omega) (by omega) (by have := HLe.out.zw; simp; omega) _ rfl ?_; intro gG dG wh hown hgr _ _; obtain ⟨hlx, hxe⟩ := HLe.out.pushG (g := gG) (c := dG) (by rw [show ptr (upd rs k r) k = .pointer (some ⟨r, 0, none⟩) by unfold ptr; rw [upd_same]]; exact hown) hgr; have HLf := hide hlx; have hxd := hxe.trans HLe.out.x; have d6 := cell_of hxd (i := 6) rfl; have df6 := free_of hxd 6; clear hown hgr hlx hxe)
            | fail)
          generalize (wh.setCell ⟨X, 6, none⟩ (.slice (some ⟨gG, 0, none⟩) (k + 1) dG)) = wi at HLf ⊢
          clear s6 d6 df6 hxd HLe
          go_wp2_with fail
          exact ⟨⟨k + 1, _, _, _, _, _, _, hkl, by simp, HLf.out⟩, mdecR hkl⟩
        · obtain rfl : k = n := by omega
          go_wp2_with fail
          go_ret
          exact ⟨X, ab, gc, rb, rc, Y, Y2, Z, vP, vH, vG, qs, ps, rs, rfl, by rw [← HSS.out]; exact HL1.out⟩
end Go.Proofs.YtgjdjdgondpjeaaGreat
