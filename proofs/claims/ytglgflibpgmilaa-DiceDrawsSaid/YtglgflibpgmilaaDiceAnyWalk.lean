/- DiceAny: the walk. -/
import Derived.Test.YtglgflibpgmilaaSame
namespace Go.Proofs.Ytglgflibpgmilaa
open Go.RowKit Go.Lib

/-- The word by which Below(k) makes j. -/
def wd (k j : Nat) : Nat := 18446744073709551615 / k * j + ((18446744073709551615 % k + 1) * j + k - 1) / k

theorem wd_mul (k j : Nat) (hk : 0 < k) : j * 18446744073709551616 ≤ wd k j * k ∧ wd k j * k ≤ j * 18446744073709551616 + (k - 1) := by
  unfold wd
  have hM : 18446744073709551615 / k * k + 18446744073709551615 % k = 18446744073709551615 := Nat.div_add_mod' _ _
  generalize 18446744073709551615 / k = p at hM ⊢
  generalize 18446744073709551615 % k = r at hM ⊢
  have h1 := Nat.div_add_mod' ((r + 1) * j + k - 1) k
  have h2 := Nat.mod_lt ((r + 1) * j + k - 1) hk
  generalize ((r + 1) * j + k - 1) / k = q at h1 ⊢
  generalize ((r + 1) * j + k - 1) % k = m at h1 h2
  have e : (p * j + q) * k = j * (p * k) + q * k := by rw [Nat.add_mul, Nat.mul_assoc, Nat.mul_comm p, Nat.mul_assoc, Nat.mul_comm k p]
  have e2 : j * 18446744073709551616 = j * (p * k) + (r + 1) * j := by
    have : 18446744073709551616 = p * k + (r + 1) := by omega
    rw [this, Nat.mul_add, Nat.mul_comm j (r + 1)]
  rw [e, e2]
  generalize (r + 1) * j = z at *
  generalize j * (p * k) = y at *
  generalize q * k = x at *
  omega

theorem wd_pick (k j : Nat) (hj : j < k) (hk : k < 18446744073709551616) : wd k j * k / 18446744073709551616 = j := by
  have h := wd_mul k j (by omega)
  apply Nat.div_eq_of_lt_le
  · exact h.1
  · have : (j + 1) * 18446744073709551616 = j * 18446744073709551616 + 18446744073709551616 := by rw [Nat.add_mul, Nat.one_mul]
    omega

theorem wd_lt (k j : Nat) (hj : j < k) (hk : k < 18446744073709551616) : wd k j < 18446744073709551616 := by
  have h := wd_mul k j (by omega)
  rcases Nat.lt_or_ge (wd k j) 18446744073709551616 with hlt | hge
  · exact hlt
  · exfalso
    have h1 : 18446744073709551616 * k ≤ wd k j * k := Nat.mul_le_mul_right k hge
    have h2 : (j + 1) * 18446744073709551616 ≤ k * 18446744073709551616 := Nat.mul_le_mul_right _ hj
    rw [Nat.mul_comm 18446744073709551616 k] at h1
    have h3 : (j + 1) * 18446744073709551616 = j * 18446744073709551616 + 18446744073709551616 := by rw [Nat.add_mul, Nat.one_mul]
    omega

/-- The number that is asked for at the place i: of the choices, below i + 1. -/
def jj (cs : List Int) (i : Nat) : Nat := (cs[i - 1]?.getD 0 % 18446744073709551616).toNat % (i + 1)
theorem jj_lt (cs : List Int) (i : Nat) : jj cs i < i + 1 := Nat.mod_lt _ (by omega)

def gen (cs : List Int) : Nat → List Int → List Int × List Int
  | 0, l => ([], l)
  | i + 1, l => (((wd (i + 2) (jj cs (i + 1)) : Nat) : Int) :: (gen cs i (swap l (i + 1) (jj cs (i + 1)))).1, (gen cs i (swap l (i + 1) (jj cs (i + 1)))).2)

theorem jj_int (cs : List Int) (i : Nat) : (IntKind.u64.wrap (cs[i - 1]?.getD 0)).tmod ((i : Int) + 1) = (jj cs i : Nat) := by
  unfold jj
  rw [IntKind.wrap_u64]
  generalize cs[i - 1]?.getD 0 = c
  have h0 : 0 ≤ c % 18446744073709551616 := Int.emod_nonneg _ (by decide)
  obtain ⟨m, hm⟩ := Int.eq_ofNat_of_zero_le h0
  rw [hm, Int.toNat_natCast, Int.tmod_eq_emod_of_nonneg (by omega)]
  simp [Int.natCast_emod]

theorem gen_words (cs : List Int) (i : Nat) (hi : i < 1000000) : ∀ l, Words (gen cs i l).1 := by
  induction i with
  | zero => intro l x hx; simp [gen] at hx
  | succ i ih =>
    intro l x hx
    simp only [gen, List.mem_cons] at hx
    rcases hx with rfl | hx
    · have := wd_lt (i + 2) (jj cs (i + 1)) (jj_lt cs (i + 1)) (by omega)
      omega
    · exact ih (by omega) _ x hx

theorem gen_length (cs : List Int) (i : Nat) : ∀ l, (gen cs i l).1.length = i := by
  induction i with
  | zero => intro l; rfl
  | succ i ih => intro l; simp [gen, ih]

theorem gen_shuf (cs : List Int) (s : St) (i : Nat) (hi : i < 1000000) : ∀ l, shuf i (gen cs i l).1 s l = ([], s, (gen cs i l).2) := by
  induction i with
  | zero => intro l; rfl
  | succ i ih =>
    intro l
    simp only [gen, shuf, drawn, stLeft, List.tail_cons]
    have e : pick ((wd (i + 2) (jj cs (i + 1)) : Nat) : Int) (i + 2) = jj cs (i + 1) := by
      unfold pick
      rw [Int.toNat_natCast]
      exact wd_pick _ _ (jj_lt cs (i + 1)) (by omega)
    rw [e]
    exact ih (by omega) _

theorem iota_succ (k : Nat) : iota (k + 1) = iota k ++ [(k : Int)] := by simp [iota, List.range_succ]
theorem iota_length (k : Nat) : (iota k).length = k := by simp [iota]

theorem want_step {w1 wr w2 : World} {v v' : Value} {k : Nat} {o : Obj} (HO : Hid (wr.ownsRow w1.heap.size 3 1 v k ((iota k).map (Value.int .i64)))) (HL : Hid (Below w1.heap.size w1 wr))
    (hown : w2.ownsRow w1.heap.size 3 1 v' (k + 1) ((iota k).map (Value.int .i64) ++ [.int .i64 (k : Int)])) (hgrow : (wr.alloc o).grownBy w2 v.ownBlock) :
    w2.ownsRow w1.heap.size 3 1 v' (k + 1) ((iota (k + 1)).map (Value.int .i64)) ∧ Below w1.heap.size w1 w2 := by
  constructor
  · rw [iota_succ, List.map_append]; exact hown
  · have hs := HL.out.size
    refine (HL.out.alloc hs _).grown hgrow (by simp; omega) ?_
    intro j hj
    obtain ⟨_, ⟨rfl, _⟩ | ⟨g, cap, cur, rfl, hg, _⟩⟩ := HO.out
    · simp [Value.ownBlock] at hj
    · simp [Value.ownBlock] at hj; omega

/-- A block that begins with these numbers. -/
def PreArr (w : World) (g : Nat) (l : List Int) : Prop :=
  ∃ cur : Array Value, w.heap[g]? = some (.cells cur 3 (0, 0)) ∧ ∀ i, i < l.length → cur[i]? = some (.int .i64 (l[i]?.getD 0))
theorem PreArr.cell {w : World} {g : Nat} {l : List Int} (h : PreArr w g l) (i : Nat) (hi : i < l.length) : w.cell? ⟨g, i, none⟩ = some (.int .i64 (l[i]?.getD 0)) := by
  obtain ⟨cur, hh, hc⟩ := h
  exact cell_of hh (hc i hi)
theorem PreArr.free {w : World} {g : Nat} {l : List Int} (h : PreArr w g l) (i : Nat) : w.frozen? ⟨g, i, none⟩ = false := by
  obtain ⟨cur, hh, _⟩ := h
  exact free_of hh i
theorem PreArr.set {w : World} {g : Nat} {l : List Int} (h : PreArr w g l) (i : Nat) (x : Int) : PreArr (w.setCell ⟨g, i, none⟩ (.int .i64 x)) g (l.set i x) := by
  obtain ⟨cur, hh, hc⟩ := h
  refine ⟨_, heap_set hh _, fun j hj => ?_⟩
  rw [List.length_set] at hj
  have hcj := hc j hj
  have hjs : j < cur.size := by
    rcases Nat.lt_or_ge j cur.size with h | h
    · exact h
    · rw [Array.getElem?_eq_none h] at hcj; cases hcj
  rw [Array.getElem?_setIfInBounds, List.getElem?_set]
  by_cases e : i = j
  · subst e; simp [hjs, hj]
  · simp [e, hcj]

theorem want_shape {w : World} {B n : Nat} {v : Value} (h : w.ownsRow B 3 1 v (n + 1) ((iota (n + 1)).map (Value.int .i64))) :
    ∃ g cap, B ≤ g ∧ n + 1 ≤ cap ∧ cap ≤ 9223372036854775807 ∧ v = .slice (some ⟨g, 0, none⟩) (n + 1) cap ∧ PreArr w g (iota (n + 1)) := by
  obtain ⟨_, ⟨_, h0⟩ | ⟨g, cap, cur, rfl, hg, hh, hnc, hcm, hcur, htake⟩⟩ := h
  · omega
  · refine ⟨g, cap, hg, hnc, hcm, rfl, cur, hh, fun i hi => ?_⟩
    rw [iota_length] at hi
    have e1 : (cur.toList.take ((n + 1) * 1))[i]? = ((iota (n + 1)).map (Value.int .i64))[i]? := by rw [htake]
    rw [List.getElem?_take_of_lt (by omega)] at e1
    have e2 : cur[i]? = cur.toList[i]? := by simp
    rw [e2, e1]
    have hi' : i < (iota (n + 1)).length := by rw [iota_length]; exact hi
    simp [List.getElem?_eq_getElem hi']

theorem words_step {w1 wr w2 : World} {v v' : Value} {g : Nat} {acc l : List Int} {o : Obj} {x : Int} (HO : Hid (wr.ownsRow w1.heap.size 22 1 v acc.length (acc.map (Value.int .u64)))) (HP : Hid (PreArr wr g l)) (HL : Hid (Below w1.heap.size w1 wr))
    (hown : w2.ownsRow w1.heap.size 22 1 v' (acc.length + 1) (acc.map (Value.int .u64) ++ [.int .u64 x])) (hgrow : (wr.alloc o).grownBy w2 v.ownBlock) :
    w2.ownsRow w1.heap.size 22 1 v' (acc ++ [x]).length ((acc ++ [x]).map (Value.int .u64)) ∧ PreArr w2 g l ∧ Below w1.heap.size w1 w2 := by
  have hs := HL.out.size
  refine ⟨by simpa using hown, ?_, ?_⟩
  · obtain ⟨cur, hh, hc⟩ := HP.out
    have hgl := lt_of_heap hh
    refine ⟨cur, ?_, hc⟩
    have h1 : (wr.alloc o).heap[g]? = some (.cells cur 3 (0, 0)) := (Below.heap_alloc wr o g hgl).trans hh
    rw [hgrow.block g (by simp; omega) ?_]
    · exact h1
    · intro e
      obtain ⟨_, ⟨rfl, _⟩ | ⟨g', cap, cur', rfl, hg', hh', _⟩⟩ := HO.out
      · simp [Value.ownBlock] at e
      · simp [Value.ownBlock] at e
        subst e
        rw [hh] at hh'
        simp at hh'
  · refine (HL.out.alloc hs _).grown hgrow (by simp; omega) ?_
    intro j hj
    obtain ⟨_, ⟨rfl, _⟩ | ⟨g', cap, cur', rfl, hg', _⟩⟩ := HO.out
    · simp [Value.ownBlock] at hj
    · simp [Value.ownBlock] at hj; omega

theorem owns_apart {w : World} {B g : Nat} {v : Value} {n : Nat} {xs : List Value} {l : List Int} (h : w.ownsRow B 22 1 v n xs) (hp : PreArr w g l) : v.ownBlock ≠ some g := by
  intro e
  obtain ⟨cur, hh, _⟩ := hp
  obtain ⟨_, ⟨rfl, _⟩ | ⟨g', cap, cur', rfl, hg', hh', _⟩⟩ := h
  · simp [Value.ownBlock] at e
  · simp [Value.ownBlock] at e
    subst e
    rw [hh] at hh'
    simp at hh'

theorem any_step (w1 w2 : World) (v' : Value) (n0 i j g x : Nat) (cs acc l : List Int) (hpos : 1 ≤ i) (hin : i ≤ n0) (hll : l.length = n0 + 1) (hacc : acc.length + i = n0)
    (HJ : Hid (j = jj cs i)) (HW : Hid (wd (i + 1) j = x)) (HG1 : Hid (acc ++ (gen cs i l).1 = (gen cs n0 (iota (n0 + 1))).1)) (HG2 : Hid ((gen cs i l).2 = (gen cs n0 (iota (n0 + 1))).2))
    (HR : Hid (w2.ownsRow w1.heap.size 22 1 v' (acc ++ [(x : Int)]).length ((acc ++ [(x : Int)]).map (Value.int .u64)) ∧ PreArr w2 g l ∧ Below w1.heap.size w1 w2)) (hgB : w1.heap.size ≤ g) :
    ∃ (i' : Nat) (acc' l' : List Int), Value.int .i64 ((i : Int) - 1) = .int .i64 i' ∧ i' ≤ n0 ∧ l'.length = n0 + 1 ∧ acc'.length + i' = n0 ∧
      ((w2.setCell ⟨g, i, none⟩ (.int .i64 (l[j]?.getD 0))).setCell ⟨g, j, none⟩ (.int .i64 (l[i]?.getD 0))).drew.ownsRow w1.heap.size 22 1 v' acc'.length (acc'.map (Value.int .u64)) ∧
      PreArr ((w2.setCell ⟨g, i, none⟩ (.int .i64 (l[j]?.getD 0))).setCell ⟨g, j, none⟩ (.int .i64 (l[i]?.getD 0))).drew g l' ∧
      acc' ++ (gen cs i' l').1 = (gen cs n0 (iota (n0 + 1))).1 ∧ (gen cs i' l').2 = (gen cs n0 (iota (n0 + 1))).2 ∧
      Below w1.heap.size w1 ((w2.setCell ⟨g, i, none⟩ (.int .i64 (l[j]?.getD 0))).setCell ⟨g, j, none⟩ (.int .i64 (l[i]?.getD 0))).drew := by
  obtain ⟨m, rfl⟩ : ∃ m, i = m + 1 := ⟨i - 1, by omega⟩
  obtain ⟨h1, h2, h3⟩ := HR.out
  have hap := owns_apart h1 h2
  have g1 := HG1.out
  have g2 := HG2.out
  simp only [gen] at g1 g2
  rw [← HJ.out, HW.out] at g1
  rw [← HJ.out] at g2
  refine ⟨m, acc ++ [(x : Int)], swap l (m + 1) j, by simp, by omega, by rw [swap_length]; exact hll, by simp; omega, ?_, ?_, ?_, g2, ?_⟩
  · exact (ownsRow_setCell_other (ownsRow_setCell_other h1 hap _) hap _).drew
  · exact ((h2.set (m + 1) _).set j _)
  · rw [List.append_assoc]; exact g1
  · exact ((h3.setCell hgB _).setCell hgB _).drew

theorem newSt_ok (seed : Nat) : (newSt seed).Ok := ⟨Scat.mix_lt _, Scat.mix_lt _, Scat.mix_lt _, Scat.mix_lt _⟩

theorem any_end (cs : List Int) (n0 : Nat) (hn : n0 < 1000000) (acc l : List Int) (b g : Nat) (w : World) (HG1 : Hid (acc = (gen cs n0 (iota (n0 + 1))).1)) (HG2 : Hid (l = (gen cs n0 (iota (n0 + 1))).2))
    (hA : Arr w g (shuf (n0 + 1 - 1) acc (newSt 1) (iota (n0 + 1))).2.2)
    (hD : DiceIs w b (shuf (n0 + 1 - 1) acc (newSt 1) (iota (n0 + 1))).1 (shuf (n0 + 1 - 1) acc (newSt 1) (iota (n0 + 1))).2.1 (0 + (n0 + 1 - 1 : Nat))) :
    Arr w g l ∧ DiceIs w b [] (newSt 1) (n0 : Int) := by
  have e : shuf (n0 + 1 - 1) acc (newSt 1) (iota (n0 + 1)) = ([], newSt 1, l) := by
    rw [HG1.out, HG2.out]; exact gen_shuf cs (newSt 1) n0 hn _
  rw [e] at hA hD
  refine ⟨hA, ?_⟩
  have e2 : (0 : Int) + ((n0 + 1 - 1 : Nat) : Int) = (n0 : Int) := by omega
  rw [e2] at hD
  exact hD

theorem Arr.row {w : World} {g : Nat} {l : List Int} (h : Arr w g l) (n : Nat) (hn : l.length = n) (hm : n ≤ 9223372036854775807) : RowAt .i64 w (.slice (some ⟨g, 0, none⟩) n n) l := by
  subst hn
  refine ⟨some ⟨g, 0, none⟩, l.length, rfl, Nat.le_refl _, hm, (fun e => by cases e), fun a ha i hi => ?_⟩
  cases ha
  rw [Addr.add_lit, Nat.zero_add, h.cell i hi]
  simp [List.getD]
theorem PreArr.row {w : World} {g : Nat} {l : List Int} (h : PreArr w g l) (n cap : Nat) (hn : l.length = n) (hc : n ≤ cap) (hm : cap ≤ 9223372036854775807) : RowAt .i64 w (.slice (some ⟨g, 0, none⟩) n cap) l := by
  subst hn
  refine ⟨some ⟨g, 0, none⟩, cap, rfl, hc, hm, (fun e => by cases e), fun a ha i hi => ?_⟩
  cases ha
  rw [Addr.add_lit, Nat.zero_add, h.cell i hi]
  simp [List.getD]
theorem any_rows (wr w2 w3 : World) (g g3 b n0 cap : Nat) (l : List Int) (hll : l.length = n0 + 1) (hgc : n0 + 1 ≤ cap) (hcm : cap ≤ 9223372036854775807) (hP : PreArr wr g l) (hB2 : Below wr.heap.size wr w2)
    (hbs : wr.heap.size ≤ b) (hB3 : But b w2 w3) (hA : Arr w3 g3 l) :
    RowAt .i64 w3 (.slice (some ⟨g3, 0, none⟩) (n0 + 1) (n0 + 1)) l ∧ RowAt .i64 w3 (.slice (some ⟨g, 0, none⟩) (n0 + 1) cap) l := by
  refine ⟨hA.row _ hll (by omega), ?_⟩
  obtain ⟨cur, hh, hc⟩ := hP
  have hgl := lt_of_heap hh
  have h2 : w2.heap[g]? = some (.cells cur 3 (0, 0)) := (hB2.block g hgl).trans hh
  have h3 : w3.heap[g]? = some (.cells cur 3 (0, 0)) := hB3.heap h2 (by omega)
  exact PreArr.row ⟨cur, h3, hc⟩ _ _ hll hgc hcm

set_option maxRecDepth 100000 in
set_option maxHeartbeats 1000000 in
theorem any_walk (a0 : Option Addr) (n0 c0 : Nat) (cs : List Int) (w : World) (hlen : cs.length = n0) (hc : n0 ≤ c0)
    (hcell : ∀ g o, a0 = some ⟨g, o, none⟩ → ∀ i, i < n0 → w.cell? ⟨g, o + i, none⟩ = some (.int .i64 (cs[i]?.getD 0))) (hn : n0 < 1000) (ha : n0 = 0 ∨ ∃ g o, a0 = some ⟨g, o, none⟩) :
    Calls Try.prog 10 #[.slice a0 n0 c0] w fun e w' => e = .returned (.bool true) ∧ Below w.heap.size w w' := by
  obtain ⟨i0, hi, hz0, hz1, hz2⟩ := info_parts Try.info3
  obtain ⟨i1, hi1, hy0, hy1, hy2⟩ := info_parts Try.info22
  have HC := hide hcell
  clear hcell
  have hd1 : decide ((1000 : Int) < (n0 : Int) + 1) = false := by simp; omega
  go_enter Try.func10, Try.ntmps10
  go_wp2_with fail
  refine (live_any _).mono ?_
  rintro e w1 ⟨rfl, hbel⟩
  have HL1 := hide hbel
  clear hbel
  go_wp2_with fail
  go_loopw [5, 6] (fun v t wr => ∃ k : Nat, k ≤ n0 + 1 ∧ t = .int .i64 k ∧ wr.ownsRow w1.heap.size 3 1 v k ((iota k).map (Value.int .i64)) ∧ Below w1.heap.size w1 wr) (fun _ t _ => n0 + 1 - (RowKit.intOf t).toNat)
  case atStart => exact ⟨0, by omega, rfl, World.ownsRow_nil _ _ _ _, Below.refl _ _⟩
  case round =>
    obtain ⟨k, hk, rfl, hown, hL⟩ := hrel
    by_cases hlt : k < n0 + 1
    · have HO := hide hown; have HL := hide hL
      clear hown hL
      go_wp2_with (at_builtin; refine wpList_append_own _ rfl _ _ 58 rfl w1.heap.size 3 i0 (.int .i64 0) 1 8 Try.underlying58 hi hz0 hz1 hz2 rfl (by decide) _ _ _ rfl (HO.out.alloc _) ⟨wr.heap.size, 0, none⟩ 1 1 [.int .i64 k] rfl rfl ?c1 ?c2 ?c3 ?c4 ?c5 ?_)
      case c1 =>
        intro j u hj
        match j, hj with
        | 0, hj => simp at hj; subst hj; simp [Addr.add]
      case c2 => intro u hu; simp at hu; subst hu; rfl
      case c3 => unfold maxLen; omega
      case c4 => omega
      case c5 => have := HL.out.size; simp; omega
      intro v' w2 hown' hgrow _
      have R := want_step HO HL hown' hgrow
      have HR := hide R
      clear R hown' hgrow HO HL
      go_wp2
      go_roundw
      case rel => exact ⟨k + 1, by omega, by go_num, HR.out.1, HR.out.2⟩
      case measure => simp [RowKit.intOf]; omega
    · have hkn : k = n0 + 1 := by omega
      rw [hkn] at hown
      have HO := hide hown; have HL := hide hL
      clear hown hL hkn
      go_wp2
      obtain ⟨g, cap, hgB, hgc, hcm, rfl, hP⟩ := want_shape HO.out
      have HP := hide hP
      clear hP HO
      go_loopw [4, 7] (fun v t wr => ∃ (i : Nat) (acc l : List Int), t = .int .i64 i ∧ i ≤ n0 ∧ l.length = n0 + 1 ∧ acc.length + i = n0 ∧ wr.ownsRow w1.heap.size 22 1 v acc.length (acc.map (Value.int .u64)) ∧ PreArr wr g l ∧
          acc ++ (gen cs i l).1 = (gen cs n0 (iota (n0 + 1))).1 ∧ (gen cs i l).2 = (gen cs n0 (iota (n0 + 1))).2 ∧ Below w1.heap.size w1 wr) (fun _ t _ => (RowKit.intOf t).toNat)
      case atStart => exact ⟨n0, [], iota (n0 + 1), rfl, Nat.le_refl _, iota_length _, by simp, World.ownsRow_nil _ _ _ _, HP.out, by simp, rfl, HL.out⟩
      case round =>
        clear HP HL
        rename_i wr0 _
        obtain ⟨i, acc, l, rfl, hin, hll, hacc, hown, hP, hg1, hg2, hL⟩ := hrel
        by_cases hpos : 1 ≤ i
        · rcases ha with rfl | ⟨g0, o0, rfl⟩
          · omega
          have hcell0 := HC.out g0 o0 rfl (i - 1) (by omega)
          have hb0 := block_of_cell hcell0
          have hcell1 : wr.cell? ⟨g0, o0 + (i - 1), none⟩ = some (.int .i64 (cs[i - 1]?.getD 0)) := by
            have h1 := (HL1.out.cell (p := ⟨g0, o0 + (i - 1), none⟩) hb0).trans hcell0
            exact (hL.cell (p := ⟨g0, o0 + (i - 1), none⟩) (Nat.lt_of_lt_of_le hb0 HL1.out.size)).trans h1
          have HO := hide hown; have HP := hide hP; have HG1 := hide hg1; have HG2 := hide hg2; have HL := hide hL
          clear hown hP hg1 hg2 hL hcell0 hb0
          obtain ⟨j, hj⟩ : ∃ j, j = jj cs i := ⟨_, rfl⟩
          have hjl : j < i + 1 := hj ▸ jj_lt cs i
          obtain ⟨p, hp⟩ : ∃ p : Nat, p = 18446744073709551615 / (i + 1) := ⟨_, rfl⟩
          obtain ⟨r, hr⟩ : ∃ r : Nat, r = 18446744073709551615 % (i + 1) := ⟨_, rfl⟩
          have hrl : r < i + 1 := hr ▸ Nat.mod_lt _ (by omega)
          have hwd : wd (i + 1) j = p * j + ((r + 1) * j + (i + 1) - 1) / (i + 1) := by rw [hp, hr]; rfl
          have hwl := wd_lt (i + 1) j hjl (by omega)
          have ej : (IntKind.u64.wrap (cs[i - 1]?.getD 0)).tmod ((i : Int) + 1) = (j : Int) := by rw [hj]; exact jj_int cs i
          have ep : (18446744073709551615 : Int) / ((i : Int) + 1) = (p : Int) := by rw [hp]; simp [Int.natCast_ediv]
          have er : (18446744073709551615 : Int) % ((i : Int) + 1) = (r : Int) := by rw [hr]; simp [Int.natCast_emod]
          have hpj : p * j ≤ 18446744073709551615 := by
            have : p * j ≤ wd (i + 1) j := by rw [hwd]; exact Nat.le_add_right _ _
            omega
          have hrj : (r + 1) * j ≤ 1000 * 1000 := Nat.mul_le_mul (by omega) (by omega)
          obtain ⟨t, ht⟩ : ∃ t, t = (r + 1) * j := ⟨_, rfl⟩
          obtain ⟨q, hq⟩ : ∃ q, q = (t + (i + 1) - 1) / (i + 1) := ⟨_, rfl⟩
          rw [← ht] at hwd hrj
          rw [← hq] at hwd
          have et : IntKind.u64.wrap (((r : Int) + 1) * (j : Int)) = (t : Int) := by
            have : ((r : Int) + 1) * (j : Int) = (t : Int) := by rw [ht]; simp
            rw [this, IntKind.wrap_u64]; omega
          have eq : ((t : Int) + ((i : Int) + 1) - 1) / ((i : Int) + 1) = (q : Int) := by
            have : (t : Int) + ((i : Int) + 1) - 1 = ((t + (i + 1) - 1 : Nat) : Int) := by omega
            rw [this, hq]; simp [Int.natCast_ediv]
          have hsum : p * j + q ≤ 18446744073709551615 := by omega
          clear hq ht
          have HJ := hide hj; have HW := hide hwd; have HWL := hide hwl
          clear hj hwd hwl hp hr
          go_wp2_with (at_builtin; refine wpList_append_own _ rfl _ _ 23 rfl w1.heap.size 22 i1 (.int .u64 0) 1 8 Try.underlying23 hi1 hy0 hy1 hy2 rfl (by decide) _ _ _ rfl (HO.out.alloc _) ⟨wr.heap.size, 0, none⟩ 1 1 [.int .u64 ((p : Int) * (j : Int) + (q : Int))] rfl rfl ?d1 ?d2 ?d3 ?d4 ?d5 ?_)
          case d1 =>
            intro z u hz
            match z, hz with
            | 0, hz => simp at hz; subst hz; simp [Addr.add]
          case d2 => intro u hu; simp at hu; subst hu; rfl
          case d3 => unfold maxLen; omega
          case d4 => omega
          case d5 => have := HL.out.size; simp; omega
          intro v' w2 hown' hgrow _
          have R := words_step HO HP HL hown' hgrow
          have hA3 := R.2.1
          have c1 := hA3.cell i (by omega)
          have c2 := hA3.cell j (by omega)
          have f1 := hA3.free i
          have f2 := hA3.free j
          obtain ⟨v3, c3⟩ := cell?_setCell_some (w := w2) (p := ⟨g, i, none⟩) (x := .int .i64 (l[j]?.getD 0)) (q := ⟨g, j, none⟩) (v := .int .i64 (l[j]?.getD 0)) c2
          have f3 : (w2.setCell ⟨g, i, none⟩ (.int .i64 (l[j]?.getD 0))).frozen? ⟨g, j, none⟩ = false := (hA3.set i _).free j
          have HR := hide R
          clear R hown' hgrow HO HP HL hA3 hcell1
          go_wp2
          have bi : (i : Int) < (n0 : Int) + 1 := by omega
          have bj : (j : Int) < (n0 : Int) + 1 := by omega
          go_region
          go_wp2
          go_roundw
          case rel => exact any_step w1 w2 v' n0 i j g (p * j + q) cs acc l hpos hin hll hacc HJ HW HG1 HG2 (by simpa using HR) hgB
          case measure => simp [RowKit.intOf]; omega
        · obtain rfl : i = 0 := by omega
          simp only [gen, List.append_nil] at hg1 hg2
          have hb8 : acc.length * 8 ≤ 140737488355328 := by omega
          have HO := hide (RowAt.of_owns hown); have HP := hide hP; have HG1 := hide hg1; have HG2 := hide hg2; have HL := hide hL
          clear hown hP hg1 hg2 hL
          go_wp2_with fail
          refine (new_any 1 _ acc _ HO.out hb8 (by omega)).mono ?_
          rintro e w2 ⟨b, v2, rfl, hbs, hh, hw, hbel⟩
          have HD := hide (show DiceIs w2 b acc (newSt 1) 0 from ⟨_, v2, hh, hw, .inl rfl⟩)
          have HB2 := hide hbel; have HBS := hide hbs
          clear hh hw hbel hbs
          go_wp2_with fail
          have hord := order_any w2 b (n0 + 1) acc (newSt 1) 0 HD.out (newSt_ok 1) (by rw [HG1.out]; exact gen_words cs n0 (by omega) _) (by omega) (by omega) (by omega)
          rw [show (((n0 + 1 : Nat)) : Int) = (n0 : Int) + 1 from by omega] at hord
          refine hord.mono ?_
          clear hord
          rintro e w3 ⟨g3, rfl, hg3, hA3, hD3, hB3⟩
          have K := hide (any_end cs n0 (by omega) acc _ b g3 w3 HG1 HG2 hA3 hD3)
          have HB3 := hide hB3; have HG3 := hide hg3
          clear hA3 hD3 hB3 hg3
          go_wp2_with fail
          have hrow := any_rows wr w2 w3 g g3 b n0 cap l hll hgc hcm HP.out HB2.out HBS.out HB3.out K.out.1
          refine (same_any _ _ l w3 hrow.1 hrow.2).mono ?_
          clear hrow
          rintro e w4 ⟨rfl, hbel4⟩
          have HB4 := hide hbel4
          clear hbel4
          go_wp2_with fail
          refine (used_dice w4 b _ _ _ (K.out.2.below HB4.out)).mono ?_
          rintro e w4 ⟨rfl, rfl⟩
          go_wp2_with fail
          go_ret
          refine ⟨rfl, ?_⟩
          have s1 : Below w.heap.size w wr := HL1.out.trans (HL.out.mono HL1.out.size)
          have s2 : Below w.heap.size w w2 := s1.trans (HB2.out.mono s1.size)
          have s3 : Below w.heap.size w w3 := But.below s2 HB3.out (Nat.le_trans s1.size HBS.out) s2.size
          exact s3.trans (HB4.out.mono s3.size)
set_option maxRecDepth 100000 in
theorem any_long (a0 : Option Addr) (n0 c0 : Nat) (w : World) (hm : n0 ≤ 9223372036854775806) (hn : 1000 ≤ n0) :
    Calls Try.prog 10 #[.slice a0 n0 c0] w fun e w' => e = .returned (.bool true) ∧ Below w.heap.size w w' := by
  have hd1 : (1000 : Int) < (n0 : Int) + 1 := by omega
  go_enter Try.func10, Try.ntmps10
  go_wp2_with fail
  refine (live_any _).mono ?_
  rintro e w1 ⟨rfl, hbel⟩
  have HL1 := hide hbel
  clear hbel
  go_wp2_with fail
  go_ret
  exact ⟨rfl, HL1.out⟩
end Go.Proofs.Ytglgflibpgmilaa
