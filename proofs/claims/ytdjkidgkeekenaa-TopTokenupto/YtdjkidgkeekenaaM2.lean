/- The circle's rows, sums and start. -/
import Derived.Test.YtdjkidgkeekenaaN5
import Derived.Test.YtdjkidgkeekenaaHold
import Derived.Deep.AppendLies
import Derived.Deep.Cut
import Derived.Deep.CutRange
namespace Go.Proofs.Ytdjkidgkeekenaa
open Go.RowKit Go.Lib Go.MuLone
set_option linter.unusedVariables false
set_option linter.unusedSimpArgs false
theorem ty_of {w : World} {j : Nat} {cs cs' : Array Value} {s t : TypeId} {fr : Nat × Nat} (h : w.heap[j]? = some (.cells cs s (0, 0))) (k : w.heap[j]? = some (.cells cs' t fr)) : t = s := by
  rw [h] at k
  exact (Obj.cells.inj (Option.some.inj k)).2.1.symm
def pk (L : List Int) (i : Nat) : List Int := tab L.length (fun t => if t < i then at_ L t else 0)
theorem pk_set (L : List Int) (i : Nat) (hi : i < L.length) : (pk L i).set i (at_ L i) = pk L (i + 1) := by
  unfold pk
  rw [tab_set]
  refine tab_congr fun v hv => ?_
  by_cases e : v = i
  · subst e; simp
  · rw [if_neg e]
    by_cases e2 : v < i
    · rw [if_pos e2, if_pos (by omega)]
    · rw [if_neg e2, if_neg (by omega)]
theorem pk_full (L : List Int) : pk L L.length = L := by
  unfold pk
  apply List.ext_getElem
  · simp [tab]
  · intro i h1 h2
    simp [tab, at_, h2]
theorem pk_zero (L : List Int) : pk L 0 = List.replicate L.length 0 := by
  unfold pk
  apply List.ext_getElem
  · simp [tab]
  · intro i h1 h2
    simp [tab]
theorem pk_len (L : List Int) (i : Nat) : (pk L i).length = L.length := tab_length _ _
def ptr (q : Nat) : Value := .pointer (some ⟨q, 0, none⟩)
def ptrs (f : Nat → Nat) (i : Nat) : List Value := (List.range i).map fun j => ptr (f j)
theorem ptrs_succ (f : Nat → Nat) (i : Nat) : ptrs f (i + 1) = ptrs f i ++ [ptr (f i)] := by simp [ptrs, List.range_succ]
theorem ptrs_congr {f g : Nat → Nat} {i : Nat} (h : ∀ j, j < i → f j = g j) : ptrs f i = ptrs g i := by
  unfold ptrs
  apply List.map_congr_left
  intro j hj
  rw [h j (List.mem_range.1 hj)]
theorem own_ty {w : World} {lo n : Nat} {t : TypeId} {v : Value} {xs : List Value} (h : w.ownsRow lo t 1 v n xs) {g : Nat} (hg : v.ownBlock = some g) : lo ≤ g ∧ g < w.heap.size ∧ ∃ cs, w.heap[g]? = some (.cells cs t (0, 0)) := by
  obtain ⟨a, b⟩ := h.lt g hg
  refine ⟨a, b, ?_⟩
  obtain ⟨_, ⟨rfl, _⟩ | ⟨g', cap, cur, rfl, hg', hc, _⟩⟩ := h
  · cases hg
  · cases hg; exact ⟨cur, hc⟩
theorem own_ty8 {w : World} {lo n z : Nat} {t : TypeId} {v : Value} {xs : List Value} (h : w.ownsRow lo t z v n xs) {g : Nat} (hg : v.ownBlock = some g) : lo ≤ g ∧ ∃ cs, w.heap[g]? = some (.cells cs t (0, 0)) := by
  obtain ⟨_, ⟨rfl, _⟩ | ⟨g', cap, cur, rfl, hg', hc, _⟩⟩ := h
  · cases hg
  · cases hg; exact ⟨hg', cur, hc⟩
theorem Nd.next_sends (d : Nd) (x : Int) : (d.next x).sends = d.sends := by
  unfold Nd.next
  split <;> first | rfl | (split <;> first | rfl | (split <;> rfl))
theorem field45 (a d : Int) (p q r : Bool) (w : World) : (Instr.field 61 (.agg #[.int .i64 a, .bool p, .bool q, .int .i64 d, .bool r]) 0).run Try.prog w = .ok (.int .i64 a) w := by kernel_rfl
/-- The sums so far. -/
def sB (ds : Nat → Nd) (j : Nat) : Int := sumF (fun j => (ds j).bal) j
def sC (cs : List Int) (j : Nat) : Int := sumF (fun j => nth cs (4 + j)) j
structure SumB (n : Nat) (ds : Nat → Nd) (cs : List Int) : Prop where
  b : ∀ j, j ≤ n → -67108928 ≤ sB ds j ∧ sB ds j ≤ 67108928
  c : ∀ j, j ≤ n → 0 ≤ sC cs j ∧ sC cs j ≤ 4294971392
  cj : ∀ j, j < n → 0 ≤ nth cs (4 + j) ∧ nth cs (4 + j) ≤ 67108928
  bj : ∀ j, j < n → -1048577 ≤ (ds j).bal ∧ (ds j).bal ≤ 1048577
  eq : sB ds n = sC cs n
theorem Sys.sums {n K : Nat} {ds : Nat → Nd} {cs : List Int} (h : Sys n K ds cs) (hn : n ≤ 64) (hK : K ≤ 1048577) : SumB n ds cs := by
  have cj : ∀ j, j < n → 0 ≤ nth cs (4 + j) ∧ nth cs (4 + j) ≤ 67108928 := fun j hj => ⟨(h.wd (4 + j) (by omega)).1, by have := h.mail hn hj; omega⟩
  have bj : ∀ j, j < n → -1048577 ≤ (ds j).bal ∧ (ds j).bal ≤ 1048577 := fun j hj => by have := (h.wf j hj).ba; omega
  refine ⟨fun j hj => ?_, fun j hj => ?_, cj, bj, h.sum⟩
  · have h1 := sumF_le (f := fun j => (ds j).bal) (n := j) (K := 1048577) (fun i hi => (bj i (by omega)).2)
    have h2 := sumF_ge (f := fun j => (ds j).bal) (n := j) (K := 1048577) (fun i hi => (bj i (by omega)).1)
    unfold sB
    have : (j : Int) * 1048577 ≤ 64 * 1048577 := Int.mul_le_mul_of_nonneg_right (by omega) (by omega)
    omega
  · have h1 := sumF_le (f := fun j => nth cs (4 + j)) (n := j) (K := 67108928) (fun i hi => (cj i (by omega)).2)
    have h2 := (sumF_pos (f := fun j => nth cs (4 + j)) (n := j) (fun i hi => (cj i (by omega)).1)).1
    unfold sC
    have : (j : Int) * 67108928 ≤ 64 * 67108928 := Int.mul_le_mul_of_nonneg_right (by omega) (by omega)
    omega
theorem tot_ge {ls : List (List Int)} : ∀ {n i : Nat}, i < n → (rowL ls i).length ≤ tot ls n
  | 0, _, h => by omega
  | n + 1, i, h => by
    unfold tot
    by_cases e : i = n
    · subst e; omega
    · have := tot_ge (ls := ls) (show i < n by omega); omega
theorem nth_cl0 (n t : Nat) (h : t < 4 + n) : nth (cl0 n) t = if t = 3 then 1 else 0 := by
  have := tab_at (4 + n) (fun t => if t = 3 then (1 : Int) else 0) t h
  unfold at_ at this
  unfold nth cl0
  rw [List.getD_eq_getElem?_getD]; exact this
theorem sumF_zero {f : Nat → Int} : ∀ {n : Nat}, (∀ j, j < n → f j = 0) → sumF f n = 0
  | 0, _ => rfl
  | n + 1, h => by unfold sumF; rw [sumF_zero (fun j hj => h j (by omega)), h n (by omega)]; rfl
theorem sys_new {ls : List (List Int)} {aw : List Int} {b : Int} (hck : CkA ls aw b 0) (hbu : b ≤ 9223372036854775807) : Sys ls.length 0 (fun j => Nd.new ls aw b j) (cl0 ls.length) := by
  have hz : ∀ x : Int, x = 0 → W64 x := fun x e => by unfold W64; omega
  rcases hck with ⟨_, e⟩ | ⟨h1, h2, ⟨_, e⟩ | ⟨hrow, ⟨_, e⟩ | ⟨ht, ⟨_, e⟩ | ⟨hok, ⟨_, e⟩ | ⟨hb, _⟩⟩⟩⟩⟩
  · cases e
  · cases e
  · cases e
  · cases e
  · cases e
  have hl : ∀ j, j < ls.length → (rowL ls j).length ≤ 10000 := fun j hj => by have := tot_ge (ls := ls) hj; omega
  refine ⟨cl0_len _, fun j hj => ?_, ?_, fun i hi => ?_⟩
  · have hlj := hl j hj
    refine ⟨rfl, rfl, hj, h2, hrow j hj, hlj, ⟨(by show 0 ≤ b; omega), hbu⟩, ?_, ⟨Int.le_refl _, (by show (0 : Int) ≤ ((rowL ls j).length : Int); omega)⟩, ⟨by simp [Nd.new], by simp [Nd.new]⟩, (by show 1 ≤ 11; omega), fun e => (by cases e), fun e => (by cases e), fun e => ?_, hz _ rfl, hz _ rfl, hz _ rfl⟩
    · show 0 ≤ (if (j : Int) ∈ aw then ((rowL ls j).length : Int) else 0) ∧ (if (j : Int) ∈ aw then ((rowL ls j).length : Int) else 0) ≤ ((rowL ls j).length : Int)
      split <;> omega
    · have : (3 : Nat) ≤ 1 := e
      omega
  · rw [sumF_zero (f := fun j => (Nd.new ls aw b j).bal) (fun j _ => rfl)]
    rw [sumF_zero (f := fun j => nth (cl0 ls.length) (4 + j)) (fun j hj => by rw [nth_cl0 _ _ (by omega), if_neg (by omega)])]
  · rw [nth_cl0 _ _ hi]
    unfold W64
    split <;> omega
theorem row_ptr {W : World} {Z n : Nat} {t : TypeId} {v : Value} {f : Nat → Nat} (h : W.ownsRow Z t 1 v n (ptrs f n)) (hn : 0 < n) : ∃ g c, v = .slice (some ⟨g, 0, none⟩) n c := by
  obtain ⟨_, ⟨_, e⟩ | ⟨g, cap, cur, e, _⟩⟩ := h
  · omega
  · exact ⟨g, cap, e⟩
theorem own_at {W : World} {Z n g c : Nat} {t : TypeId} {xs : List Value} (h : W.ownsRow Z t 1 (.slice (some ⟨g, 0, none⟩) n c) n xs) {i : Nat} {u : Value} (hu : xs[i]? = some u) (hi : i < n) : W.cell? ⟨g, i, none⟩ = some u := by
  obtain ⟨_, ⟨e, _⟩ | ⟨g', cap, cur, e, _, hc, _, _, _, ht⟩⟩ := h
  · cases e
  · simp only [Value.slice.injEq, Option.some.injEq, Addr.mk.injEq] at e
    obtain ⟨⟨rfl, _⟩, _⟩ := e
    refine cell_of hc ?_
    rw [← Array.getElem?_toList, ← List.getElem?_take_of_lt (j := n * 1) (by omega), ht]
    exact hu
theorem ptrs_get (f : Nat → Nat) {n i : Nat} (hi : i < n) : (ptrs f n)[i]? = some (.pointer (some ⟨f i, 0, none⟩)) := by simp [ptrs, ptr, hi]
theorem img_at {W : World} {Z n g c : Nat} {cs : List Int} (h : W.ownsRow Z 41 1 (.slice (some ⟨g, 0, none⟩) n c) n (cs.map (Value.int .u64))) (hn : n = cs.length) {i : Nat} (hi : i < n) : W.cell? ⟨g, i, none⟩ = some (.int .u64 (nth cs i)) := by
  refine own_at h ?_ hi
  have : i < cs.length := by omega
  simp [nth, List.getElem?_eq_getElem this]
end Go.Proofs.Ytdjkidgkeekenaa
