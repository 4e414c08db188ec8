/- The circle at its start, and at its end. -/
import Derived.Test.YtdjkidgkeekenaaTSa
import Derived.Test.YtdjkidgkeekenaaM2
namespace Go.Proofs.Ytdjkidgkeekenaa
open Go.RowKit Go.Lib Go.MuLone
set_option linter.unusedVariables false
theorem CkA.len {ls : List (List Int)} {aw : List Int} {b : Int} (h : CkA ls aw b 0) : 1 ≤ ls.length ∧ ls.length ≤ 64 ∧ tot ls ls.length ≤ 10000 ∧ okN ls.length aw := by
  rcases h with ⟨_, e⟩ | ⟨h1, h2, ⟨_, e⟩ | ⟨hrow, ⟨_, e⟩ | ⟨ht, ⟨_, e⟩ | ⟨hok, ⟨_, e⟩ | ⟨hb, _⟩⟩⟩⟩⟩
  · cases e
  · cases e
  · cases e
  · cases e
  · cases e
  · exact ⟨h1, h2, by omega, hok⟩
theorem inv_new {ls : List (List Int)} {aw : List Int} {b : Int} (hck : CkA ls aw b 0) (hbu : b ≤ 9223372036854775807) : Inv ls.length 0 ((fun j => Nd.new ls aw b j), cl0 ls.length) := by
  obtain ⟨h1, h2, _, _⟩ := hck.len
  have e : ∀ t, t < 4 + ls.length → nth (cl0 ls.length) t = if t = 3 then 1 else 0 := fun t ht => nth_cl0 _ _ ht
  have p1 : ∀ j, (Nd.new ls aw b j).ph = 1 := fun _ => rfl
  refine ⟨sys_new hck hbu, ⟨⟨0, h1, ?_, fun j hj _ => by show 1 ≤ 5; omega, .inl ⟨by rw [p1]; decide, by rw [p1]; decide, ⟨0, h1, ?_, ?_, ?_⟩, fun q => ?_, fun q => ?_⟩⟩, fun j hj q => ?_, fun j hj q => ?_, .inl ?_, fun j hj q => ?_, fun j hj q => ?_, fun q => ?_⟩⟩
  · show nth (cl0 ls.length) 1 = _
    rw [e 1 (by omega), if_neg (by omega)]; rfl
  · show nth (cl0 ls.length) 2 = _
    rw [e 2 (by omega), if_neg (by omega)]; rfl
  · simp
  · exact .inr (.inr (.inr (by show nth (cl0 ls.length) 3 ≠ 0; rw [e 3 (by omega), if_pos rfl]; omega)))
  · rw [p1] at q; omega
  · rw [p1] at q; omega
  · have : (1 : Nat) = 2 := q
    omega
  · have : (1 : Nat) = 4 := q
    omega
  · show nth (cl0 ls.length) 0 = 0
    rw [e 0 (by omega), if_neg (by omega)]
  · have : (1 : Nat) = 0 := q
    omega
  · have : (1 : Nat) = 11 := q
    omega
  · rcases q with q | q
    · have q' : nth (cl0 ls.length) 0 = 1 := q
      rw [e 0 (by omega), if_neg (by omega)] at q'
      omega
    · have : (1 : Nat) = 11 := q
      omega
theorem sumF_tot (ls : List (List Int)) (f : Nat → Int) : ∀ n, (∀ j, j < n → f j = 2 * ((rowL ls j).length : Int)) → sumF f n = 2 * (tot ls n : Int)
  | 0, _ => by simp [sumF, tot]
  | n + 1, h => by
    have := sumF_tot ls f n (fun j hj => h j (by omega))
    simp only [sumF, tot]
    rw [this, h n (by omega)]
    simp
    omega
theorem ev_new (ls : List (List Int)) (aw : List Int) (b : Int) : Ev ls.length ((fun j => Nd.new ls aw b j), cl0 ls.length) ≤ 2 * (tot ls ls.length : Int) := by
  unfold Ev
  rw [sumF_tot ls _ ls.length (fun j hj => by
    show 2 * (((rowL ls j).length : Int) - 0) + nth (cl0 ls.length) (4 + j) = _
    rw [nth_cl0 _ _ (by omega), if_neg (by omega)]
    omega)]
  exact Int.le_refl _
theorem aw_new (ls : List (List Int)) (aw : List Int) (b : Int) (n : Nat) : Aw n aw (fun j => Nd.new ls aw b j) := by
  intro j hj ha
  constructor
  · show ((rowL ls j).length : Int) ≤ (if (j : Int) ∈ aw then ((rowL ls j).length : Int) else 0) + 0
    rw [if_pos ha]; omega
  · intro q
    have : decide ((j : Int) ∈ aw) = false := q
    simp [ha] at this
/-- The picks of a list, one after the other. -/
def pkL (n : Nat) (σ : Cir) : List Int → Cir
  | [] => σ
  | x :: r => pkL n (stp σ (x % (n : Int)).toNat) r
/-- All is over. -/
def Ov (n : Nat) (ds : Nat → Nd) : Prop := ∀ j, j < n → (ds j).ph = 0
theorem Ov.same {n i : Nat} {σ : Cir} (h : Ov n σ.1) (hi : i < n) : stp σ i = σ := if_pos (h i hi)
theorem Ov.rest {n : Nat} {σ : Cir} (hn : 0 < n) (a m : Nat) (h : Ov n (trn n σ a m).1) : ∀ k, trn n σ a (m + k) = trn n σ a m
  | 0 => rfl
  | k + 1 => by
    have e := Ov.rest hn a m h k
    have : trn n σ a (m + k + 1) = stp (trn n σ a (m + k)) ((a + (m + k)) % n) := rfl
    rw [show m + (k + 1) = m + k + 1 from rfl, this, e]
    exact Ov.same h (Nat.mod_lt _ hn)
/-- At the end of the turns all is over. -/
theorem fin_ov {n K A a most : Nat} {σ : Cir} (hn0 : 0 < n) (hn : n ≤ 64) (h : Inv n K σ) (he : Ev n σ ≤ 2 * (A : Int)) (hA : A ≤ 10000) (hK : K ≤ 1000000000) (hm : n * (100 * A + 100 * n + 200) ≤ most) : Ov n (trn n σ a most).1 := by
  obtain ⟨m, h1, _, h3⟩ := fin hn0 hn A h he hA hK a
  obtain ⟨k, rfl⟩ : ∃ k, most = m + k := ⟨most - m, by omega⟩
  rw [Ov.rest hn0 a m h3 k]
  exact h3
theorem Inv.done {n K : Nat} {σ : Cir} (h : Inv n K σ) (hn0 : 0 < n) (ho : Ov n σ.1) : nth σ.2 0 = 1 ∧ Quiet n σ.1 (nth σ.2) := by
  have := h.tx.p0 0 hn0 (ho 0 hn0)
  exact ⟨this, h.tx.dq (.inl this)⟩
end Go.Proofs.Ytdjkidgkeekenaa
