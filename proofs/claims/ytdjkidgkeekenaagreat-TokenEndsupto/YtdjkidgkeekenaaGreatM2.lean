/- TokenBalances: the walk. -/
import Derived.Test.YtdjkidgkeekenaaGreatM1
namespace Go.Proofs.YtdjkidgkeekenaaGreat
open Go.RowKit Go.Lib
set_option linter.unusedVariables false
set_option linter.unusedSimpArgs false
set_option maxRecDepth 100000 in
theorem rest_any (i n : Int) (w : World) (hn : 0 < n) (hn2 : n ≤ 9223372036854775807) :
    Calls Tryz.prog 23 #[.int .i64 i, .int .i64 n] w fun r w' => r = .returned (.int .i64 (i % n)) ∧ w' = w := by
  have hne : ¬ n = 0 := by omega
  have E := hide (emod_of_tmod i n hn)
  have hb := Int.tmod_lt_of_pos i hn
  by_cases h : i.tmod n < 0
  · have hb2 : -9223372036854775807 < i.tmod n := by
      have := Int.tmod_lt_of_pos (-i) hn
      rw [Int.neg_tmod] at this
      omega
    go_enter Tryz.func23, Tryz.ntmps23
    go_wp2
    go_ret
    rw [E.out, if_pos h]
    exact ⟨rfl, rfl⟩
  · go_enter Tryz.func23, Tryz.ntmps23
    go_wp2
    go_ret
    rw [E.out, if_neg (by omega)]
    exact ⟨rfl, rfl⟩
theorem field45 (a d : Int) (p q r : Bool) (w : World) : (Instr.field 51 (.agg #[.int .i64 a, .bool p, .bool q, .int .i64 d, .bool r]) 0).run Tryz.prog w = .ok (.int .i64 a) w := by kernel_rfl
/-- The sums so far. -/
def sB (ds : Nat → Nd) (j : Nat) : Int := sumF (fun j => (ds j).bal) j
def sC (cs : List Int) (j : Nat) : Int := sumF (fun j => nth cs (4 + j)) j
structure SumB (n : Nat) (ds : Nat → Nd) (cs : List Int) : Prop where
  b : ∀ j, j ≤ n → -67108928 ≤ sB ds j ∧ sB ds j ≤ 67108928
  c : ∀ j, j ≤ n → 0 ≤ sC cs j ∧ sC cs j ≤ 4294971392
  cj : ∀ j, j < n → 0 ≤ nth cs (4 + j) ∧ nth cs (4 + j) ≤ 67108928
  bj : ∀ j, j < n → -1048577 ≤ (ds j).bal ∧ (ds j).bal ≤ 1048577
  eq : sB ds n = sC cs n
theorem Sys.sums {n K : Nat} {ds : Nat → Nd} {cs : List Int} (h : Sys n K ds cs) (hn : n ≤ 64) (hK : K ≤ 1048577) : SumB n ds cs := by
  have cj : ∀ j, j < n → 0 ≤ nth cs (4 + j) ∧ nth cs (4 + j) ≤ 67108928 := fun j hj => ⟨(h.wd (4 + j) (by omega)).1, by have := h.mail hn hj; omega⟩
  have bj : ∀ j, j < n → -1048577 ≤ (ds j).bal ∧ (ds j).bal ≤ 1048577 := fun j hj => by have := (h.wf j hj).ba; omega
  refine ⟨fun j hj => ?_, fun j hj => ?_, cj, bj, h.sum⟩
  · have h1 := sumF_le (f := fun j => (ds j).bal) (n := j) (K := 1048577) (fun i hi => (bj i (by omega)).2)
    have h2 := sumF_ge (f := fun j => (ds j).bal) (n := j) (K := 1048577) (fun i hi => (bj i (by omega)).1)
    unfold sB
    have : (j : Int) * 1048577 ≤ 64 * 1048577 := Int.mul_le_mul_of_nonneg_right (by omega) (by omega)
    omega
  · have h1 := sumF_le (f := fun j => nth cs (4 + j)) (n := j) (K := 67108928) (fun i hi => (cj i (by omega)).2)
    have h2 := (sumF_pos (f := fun j => nth cs (4 + j)) (n := j) (fun i hi => (cj i (by omega)).1)).1
    unfold sC
    have : (j : Int) * 67108928 ≤ 64 * 67108928 := Int.mul_le_mul_of_nonneg_right (by omega) (by omega)
    omega
theorem tot_ge {ls : List (List Int)} : ∀ {n i : Nat}, i < n → (rowL ls i).length ≤ tot ls n
  | 0, _, h => by omega
  | n + 1, i, h => by
    unfold tot
    by_cases e : i = n
    · subst e; omega
    · have := tot_ge (ls := ls) (show i < n by omega); omega
theorem nth_cl0 (n t : Nat) (h : t < 4 + n) : nth (cl0 n) t = if t = 3 then 1 else 0 := by
  have := tab_at (4 + n) (fun t => if t = 3 then (1 : Int) else 0) t h
  unfold at_ at this
  unfold nth cl0
  rw [List.getD_eq_getElem?_getD]; exact this
theorem sumF_zero {f : Nat → Int} : ∀ {n : Nat}, (∀ j, j < n → f j = 0) → sumF f n = 0
  | 0, _ => rfl
  | n + 1, h => by unfold sumF; rw [sumF_zero (fun j hj => h j (by omega)), h n (by omega)]; rfl
theorem sys_new {ls : List (List Int)} {aw : List Int} {b : Int} (hck : CkA ls aw b 0) (hbu : b ≤ 9223372036854775807) : Sys ls.length 0 (fun j => Nd.new ls aw b j) (cl0 ls.length) := by
  have hz : ∀ x : Int, x = 0 → W64 x := fun x e => by unfold W64; omega
  rcases hck with ⟨_, e⟩ | ⟨h1, h2, ⟨_, e⟩ | ⟨hrow, ⟨_, e⟩ | ⟨ht, ⟨_, e⟩ | ⟨hok, ⟨_, e⟩ | ⟨hb, _⟩⟩⟩⟩⟩
  · cases e
  · cases e
  · cases e
  · cases e
  · cases e
  have hl : ∀ j, j < ls.length → (rowL ls j).length ≤ 10000 := fun j hj => by have := tot_ge (ls := ls) hj; omega
  refine ⟨cl0_len _, fun j hj => ?_, ?_, fun i hi => ?_⟩
  · have hlj := hl j hj
    refine ⟨rfl, rfl, hj, h2, hrow j hj, hlj, ⟨(by show 0 ≤ b; omega), hbu⟩, ?_, ⟨Int.le_refl _, (by show (0 : Int) ≤ ((rowL ls j).length : Int); omega)⟩, ⟨by simp [Nd.new], by simp [Nd.new]⟩, (by show 1 ≤ 11; omega), fun e => (by cases e), fun e => (by cases e), fun e => ?_, hz _ rfl, hz _ rfl, hz _ rfl⟩
    · show 0 ≤ (if (j : Int) ∈ aw then ((rowL ls j).length : Int) else 0) ∧ (if (j : Int) ∈ aw then ((rowL ls j).length : Int) else 0) ≤ ((rowL ls j).length : Int)
      split <;> omega
    · have : (3 : Nat) ≤ 1 := e
      omega
  · rw [sumF_zero (f := fun j => (Nd.new ls aw b j).bal) (fun j _ => rfl)]
    rw [sumF_zero (f := fun j => nth (cl0 ls.length) (4 + j)) (fun j hj => by rw [nth_cl0 _ _ (by omega), if_neg (by omega)])]
  · rw [nth_cl0 _ _ hi]
    unfold W64
    split <;> omega
theorem row_ptr {W : World} {Z n : Nat} {t : TypeId} {v : Value} {f : Nat → Nat} (h : W.ownsRow Z t 1 v n (ptrs f n)) (hn : 0 < n) : ∃ g c, v = .slice (some ⟨g, 0, none⟩) n c := by
  obtain ⟨_, ⟨_, e⟩ | ⟨g, cap, cur, e, _⟩⟩ := h
  · omega
  · exact ⟨g, cap, e⟩
theorem own_at {W : World} {Z n g c : Nat} {t : TypeId} {xs : List Value} (h : W.ownsRow Z t 1 (.slice (some ⟨g, 0, none⟩) n c) n xs) {i : Nat} {u : Value} (hu : xs[i]? = some u) (hi : i < n) : W.cell? ⟨g, i, none⟩ = some u := by
  obtain ⟨_, ⟨e, _⟩ | ⟨g', cap, cur, e, _, hc, _, _, _, ht⟩⟩ := h
  · cases e
  · simp only [Value.slice.injEq, Option.some.injEq, Addr.mk.injEq] at e
    obtain ⟨⟨rfl, _⟩, _⟩ := e
    refine cell_of hc ?_
    rw [← Array.getElem?_toList, ← List.getElem?_take_of_lt (j := n * 1) (by omega), ht]
    exact hu
theorem ptrs_get (f : Nat → Nat) {n i : Nat} (hi : i < n) : (ptrs f n)[i]? = some (.pointer (some ⟨f i, 0, none⟩)) := by simp [ptrs, ptr, hi]
theorem tb_cells {w wr : World} {X b gc Y Z n K gP cP gN cN : Nat} {lv : Value} {s : Ast} {qs ps : Nat → Nat} {sv : Nat → Value} {gs : Nat → Bool} {ds : Nat → Nd} (h : TBm w wr X b gc Y Z n lv s (.slice (some ⟨gP, 0, none⟩) n cP) (.slice (some ⟨gN, 0, none⟩) n cN) qs ps sv gs ds K) {i : Nat} (hi : i < n) :
    wr.cell? ⟨X, 0, none⟩ = some (.pointer (some ⟨b, 0, none⟩)) ∧ wr.cell? ⟨X, 1, none⟩ = some (.slice (some ⟨gP, 0, none⟩) n cP) ∧ wr.cell? ⟨X, 2, none⟩ = some (.slice (some ⟨gN, 0, none⟩) n cN) ∧ wr.cell? ⟨gN, i, none⟩ = some (.pointer (some ⟨qs i, 0, none⟩)) ∧ wr.cell? ⟨gP, i, none⟩ = some (.pointer (some ⟨ps i, 0, none⟩)) := by
  obtain ⟨pb, vG, hx⟩ := h.x
  exact ⟨cell_of hx rfl, cell_of hx rfl, cell_of hx rfl, own_at h.rn (ptrs_get qs hi) hi, own_at h.rp (ptrs_get ps hi) hi⟩
theorem img_at {W : World} {Z n g c : Nat} {cs : List Int} (h : W.ownsRow Z 36 1 (.slice (some ⟨g, 0, none⟩) n c) n (cs.map (Value.int .u64))) (hn : n = cs.length) {i : Nat} (hi : i < n) : W.cell? ⟨g, i, none⟩ = some (.int .u64 (nth cs i)) := by
  refine own_at h ?_ hi
  have : i < cs.length := by omega
  simp [nth, List.getElem?_eq_getElem this]
end Go.Proofs.YtdjkidgkeekenaaGreat
