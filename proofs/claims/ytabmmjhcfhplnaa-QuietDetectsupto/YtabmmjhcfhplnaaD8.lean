/- QuietDetects: one round. -/
import Derived.Test.YtabmmjhcfhplnaaD7
namespace Go.Proofs.Ytabmmjhcfhplnaa
open Go.RowKit Go.Lib Go.MuLone
set_option linter.unusedVariables false
set_option linter.unusedSimpArgs false
def FW (q5 : Nat) (ws : List Wk) : Nat → W4 := fun k => wv q5 (wkd ws k)
theorem fw_set {q5 k : Nat} {ws : List Wk} {x : Wk} (hk : k < ws.length) : upd (FW q5 ws) k (wv q5 x) = FW q5 (ws.set k x) := by
  funext j
  unfold upd FW
  rw [wkd_set hk]
  split <;> rfl
/-- Nobody is busy: the operation's block is of no account. -/
theorem fw_free {q q' : Nat} {ws : List Wk} (h : ∀ k, (wkd ws k).busy = false) : FW q ws = FW q' ws := by
  funext j
  unfold FW wv
  rw [h j]
  rfl
theorem wkd_out {ws : List Wk} {k : Nat} (h : ws.length ≤ k) : wkd ws k = Wk.w0 := by
  unfold wkd
  simp [List.getD, h]
theorem no_busy {ws : List Wk} (h : sm Wk.bf ws = 0) (k : Nat) : (wkd ws k).busy = false := by
  by_cases hk : k < ws.length
  · have := sm_ge Wk.bf ws k hk
    cases hb : (wkd ws k).busy with
    | false => rfl
    | true => simp [Wk.bf, hb] at this; omega
  · rw [wkd_out (by omega)]; rfl
theorem sm_le {f g : Wk → Nat} (h : ∀ w, f w ≤ g w) (ws : List Wk) : sm f ws ≤ sm g ws := by
  induction ws with
  | nil => exact Nat.le_refl _
  | cons a l ih => simp only [sm, List.map_cons, List.sum_cons] at ih ⊢; have := h a; omega
theorem bs_ge (mc : Nat → Nat) (bag : List Nat) : bag.length ≤ bs mc 2 bag := by
  induction bag with
  | nil => exact Nat.le_refl _
  | cons a l ih => simp only [bs, List.map_cons, List.sum_cons, List.length_cons] at ih ⊢; omega
theorem DI.P_le {mc : Nat → Nat} {N n P d fresh : Nat} {ws : List Wk} {bag : List Nat} (h : DI mc N n P d ws bag fresh) : P ≤ mt mc N ws bag fresh := by
  have h1 := bs_ge mc bag
  have h2 : sm Wk.hf ws ≤ sm (Wk.wf mc 2) ws := sm_le (fun w => by
    unfold Wk.hf Wk.wf
    split
    · exact Nat.le_refl _
    · split
      · exact Nat.le_refl _
      · omega) ws
  unfold mt wt
  rcases h.mode with ⟨_, _, h3, _⟩ | ⟨_, h3, _⟩ | ⟨_, h3, _⟩ <;> omega
theorem DI.bag_le {mc : Nat → Nat} {N n P d fresh : Nat} {ws : List Wk} {bag : List Nat} (h : DI mc N n P d ws bag fresh) : bag.length ≤ mt mc N ws bag fresh := by
  have h1 := bs_ge mc bag
  unfold mt wt
  omega
/-- Between two rounds. -/
structure RI (w0 w : World) (Y b gc : Nat) (lv : Value) (G n B F Yb gm : Nat) (mcur : Array Value) (L : List Nat) (s : Ast) (P d : Nat) (bv : Value) (bag : List Nat) (fresh : Nat) (ws : List Wk) (q5 M0 : Nat) : Prop where
  m : DM w0 w Y b gc lv G n B F Yb gm mcur L s P d bv bag fresh (FW q5 ws)
  i : DI (mcOf L) L.length n P d ws bag fresh
  lg : s.log.length + mt (mcOf L) L.length ws bag fresh ≤ M0
  b5 : ∀ k, k < n → (wkd ws k).busy = true → w.heap[q5]? = some (QOp.obj ⟨0, 0, 5, 0⟩) ∧ w0.heap.size ≤ q5
/-- An operation is open, its access to come. -/
structure MI (w0 w : World) (Y b gc : Nat) (lv : Value) (G n B F Yb gm : Nat) (mcur : Array Value) (L : List Nat) (s : Ast) (P d : Nat) (bv : Value) (bag : List Nat) (fresh : Nat) (ws : List Wk) (q5 M0 k t q ph : Nat) (lo : Bool) : Prop where
  m : DM w0 w Y b gc lv G n B F Yb gm mcur L s P d bv bag fresh (upd (FW q5 ws) k ⟨.int .i64 (t : Int), .int .i64 ((wkd ws k).child : Int), .pointer (some ⟨q, 0, none⟩), .bool lo⟩)
  i : DI (mcOf L) L.length n P d ws bag fresh
  lg : s.log.length + mt (mcOf L) L.length ws bag fresh ≤ M0
  op : w.heap[q]? = some (QOp.obj ⟨0, 0, ph, 0⟩)
  q0 : w0.heap.size ≤ q
  hk : k < n
  at_ : (wkd ws k).at_ = some t
  kind : (ph = 1 ∧ lo = false ∧ (wkd ws k).busy = false ∧ (wkd ws k).child < mcOf L t) ∨ (ph = 2 ∧ lo = true ∧ (wkd ws k).busy = false ∧ mcOf L t ≤ (wkd ws k).child) ∨ (ph = 5 ∧ lo = true ∧ (wkd ws k).busy = true)
section
variable {w0 w w' : World} {Y b gc G n B F Yb gm P d fresh k t q q5 p M0 ph cm : Nat} {lv bv : Value} {mcur : Array Value} {L bag : List Nat} {s : Ast} {ws : List Wk} {who : Int} {lo : Bool}
theorem fw_a (ha : (wkd ws k).at_ = some t) : (FW q5 ws k).a = .int .i64 (t : Int) := by simp [FW, wv, ha]
theorem fw_n (ha : (wkd ws k).at_ = none) : (FW q5 ws k).a = .int .i64 (-1) := by simp [FW, wv, ha]
/-- A task in hand. -/
theorem ri_hold (h : RI w0 w Y b gc lv G n B F Yb gm mcur L s P d bv bag fresh ws q5 M0) (hk : k < n) (ha : (wkd ws k).at_ = some t) (hb : (wkd ws k).busy = false) (hN : L.length ≤ cm) :
    Calls Try.prog 9 #[.pointer (some ⟨G, k * 4, none⟩), .slice (some ⟨gm, 0, none⟩) L.length cm, .pointer (some ⟨B, 0, none⟩)] w fun e w' => e = .returned (.bool true) ∧ ∃ q ph lo, MI w0 w' Y b gc lv G n B F Yb gm mcur L s P d bv bag fresh ws q5 M0 k t q ph lo := by
  refine (dm_hold (cm := cm) h.m hk (fw_a ha) rfl (Nat.lt_of_lt_of_le (h.i.hand k t ha) h.i.lim) hN).mono ?_
  rintro e w' ⟨q, rfl, a1, a2, a3⟩
  have hs := h.m.bel.size
  by_cases hm : mcOf L t ≤ (wkd ws k).child
  · rw [decide_eq_true hm] at a1 a2
    exact ⟨rfl, q, 2, true, ⟨a1, h.i, h.lg, a2, by omega, hk, ha, .inr (.inl ⟨rfl, rfl, hb, hm⟩)⟩⟩
  · rw [decide_eq_false hm] at a1 a2
    exact ⟨rfl, q, 1, false, ⟨a1, h.i, h.lg, a2, by omega, hk, ha, .inl ⟨rfl, rfl, hb, by omega⟩⟩⟩
/-- A task out of the bag. -/
theorem ri_take (h : RI w0 w Y b gc lv G n B F Yb gm mcur L s P d bv (bag ++ [t]) fresh ws q5 M0) (hk : k < n) (ha : (wkd ws k).at_ = none) (hN : L.length ≤ cm) (hM : M0 ≤ 1048576 * 400) (hb : bag.length ≤ 419430400) :
    Calls Try.prog 9 #[.pointer (some ⟨G, k * 4, none⟩), .slice (some ⟨gm, 0, none⟩) L.length cm, .pointer (some ⟨B, 0, none⟩)] w fun e w' => e = .returned (.bool true) ∧ ∃ q ph lo bv' ws', MI w0 w' Y b gc lv G n B F Yb gm mcur L s P d bv' bag fresh ws' q5 M0 k t q ph lo ∧ mt (mcOf L) L.length ws' bag fresh = mt (mcOf L) L.length ws (bag ++ [t]) fresh := by
  have hkl : k < ws.length := by rw [h.i.len]; exact hk
  refine (dm_take (cm := cm) h.m hk (fw_n ha) (Nat.lt_of_lt_of_le (h.i.bag_ t (by simp)) h.i.lim) hN hb).mono ?_
  rintro e w' ⟨q, bv', rfl, a1, a2, a3⟩
  have hs := h.m.bel.size
  obtain ⟨lo, hlo⟩ : ∃ lo, lo = decide (mcOf L t ≤ 0) := ⟨_, rfl⟩
  obtain ⟨d1, d2⟩ := h.i.take hk ha lo
  have hx : wkd (ws.set k ⟨some t, 0, lo, false⟩) k = ⟨some t, 0, lo, false⟩ := by rw [wkd_set hkl, if_pos rfl]
  have hf : ∀ x, upd (FW q5 ws) k x = upd (FW q5 (ws.set k ⟨some t, 0, lo, false⟩)) k x := fun x => by rw [← fw_set hkl, upd_upd]
  rw [← hlo, hf] at a1
  rw [← hlo] at a2
  refine ⟨rfl, q, if lo = true then 2 else 1, lo, bv', _, ⟨by rw [hx]; exact a1, d1, by rw [d2]; exact h.lg, a2, by omega, hk, by rw [hx], ?_⟩, d2⟩
  rw [hx]
  by_cases hm : mcOf L t ≤ 0
  · rw [decide_eq_true hm] at hlo; subst hlo; exact .inr (.inl ⟨rfl, rfl, rfl, hm⟩)
  · rw [decide_eq_false hm] at hlo; subst hlo; exact .inl ⟨rfl, rfl, rfl, by simp only; omega⟩
/-- The one that is busy. -/
theorem ri_busy (h : RI w0 w Y b gc lv G n B F Yb gm mcur L s P d bv bag fresh ws q5 M0) (hk : k < n) (hb : (wkd ws k).busy = true) : ∃ t, MI w0 w Y b gc lv G n B F Yb gm mcur L s P d bv bag fresh ws q5 M0 k t q5 5 true := by
  cases ha : (wkd ws k).at_ with
  | none => have := h.i.idle k ha; rw [hb] at this; cases this
  | some t =>
    obtain ⟨h1, h2⟩ := h.b5 k hk hb
    refine ⟨t, ⟨?_, h.i, h.lg, h1, h2, hk, ha, .inr (.inr ⟨rfl, rfl, hb⟩)⟩⟩
    have e : (⟨.int .i64 (t : Int), .int .i64 ((wkd ws k).child : Int), .pointer (some ⟨q5, 0, none⟩), .bool true⟩ : W4) = FW q5 ws k := by simp [FW, wv, ha, hb, h.i.lowb k hb]
    have e2 : upd (FW q5 ws) k (FW q5 ws k) = FW q5 ws := by funext j; unfold upd; split; rename_i e; rw [e]; rfl
    rw [e, e2]
    exact h.m
end
end Go.Proofs.Ytabmmjhcfhplnaa
