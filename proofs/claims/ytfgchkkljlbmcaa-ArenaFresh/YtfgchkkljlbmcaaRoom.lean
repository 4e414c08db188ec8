/- room: an arena with some ports. -/
import Derived.Test.YtfgchkkljlbmcaaHeads
namespace Go.Proofs.Ytfgchkkljlbmcaa
open Go.RowKit Go.Lib Go.MuLone

/-- Blocks of unlike types are unlike blocks. -/
theorem ne_of_type {w : World} {a b : Nat} {x y : Array Value} {s t : TypeId} {f g : Nat × Nat} (ha : w.heap[a]? = some (.cells x s f)) (hb : w.heap[b]? = some (.cells y t g)) (h : s ≠ t) : a ≠ b := by
  rintro rfl
  rw [ha] at hb
  simp only [Option.some.injEq, Obj.cells.injEq] at hb
  exact h hb.2.1
theorem own_type {w : World} {Y n z : Nat} {e : TypeId} {v : Value} {l : List Value} (h : w.ownsRow Y e z v n l) {k : Nat} (hk : v.ownBlock = some k) : ∃ cur, w.heap[k]? = some (.cells cur e (0, 0)) := by
  obtain ⟨_, ⟨rfl, _⟩ | ⟨g, cap, cur, rfl, hg, hh, _⟩⟩ := h
  · cases hk
  · cases hk; exact ⟨cur, hh⟩
def ptrs (ps : List Nat) : List Value := ps.map fun p => .pointer (some ⟨p, 0, none⟩)

/-- An arena, ports of it in a row, all made since w0. -/
structure Room (w0 w : World) (Y b gc : Nat) (lv : Value) (s : Ast) (pv : Value) (ps : List Nat) (gs : Nat → Bool) : Prop where
  ar : AIs w Y b gc lv s
  row : w.ownsRow w0.heap.size 48 1 pv ps.length (ptrs ps)
  po : ∀ (j p : Nat), ps[j]? = some p → w.heap[p]? = some (PObj b j (gs j)) ∧ w0.heap.size ≤ p
  bel : Below w0.heap.size w0 w
  b0 : w0.heap.size ≤ b
  g0 : w0.heap.size ≤ gc

variable {w0 w : World} {Y b gc : Nat} {lv pv : Value} {s : Ast} {ps : List Nat} {gs : Nat → Bool}

theorem Room.pb (h : Room w0 w Y b gc lv s pv ps gs) {j p : Nat} (hj : ps[j]? = some p) : p ≠ b := ne_of_type (h.po j p hj).1 h.ar.hb (by decide)
theorem Room.pg (h : Room w0 w Y b gc lv s pv ps gs) {j p : Nat} (hj : ps[j]? = some p) : p ≠ gc := ne_of_type (h.po j p hj).1 h.ar.hc (by decide)
theorem Room.pl (h : Room w0 w Y b gc lv s pv ps gs) {j p : Nat} (hj : ps[j]? = some p) : lv.ownBlock ≠ some p := by
  intro e
  obtain ⟨cur, hc⟩ := own_type h.ar.hl e
  exact ne_of_type (h.po j p hj).1 hc (by decide) rfl
theorem Room.pp (h : Room w0 w Y b gc lv s pv ps gs) {i j p q : Nat} (hi : ps[i]? = some p) (hj : ps[j]? = some q) (hne : i ≠ j) : p ≠ q := by
  rintro rfl
  have h1 := (h.po i p hi).1
  rw [(h.po j p hj).1] at h1
  simp [PObj] at h1
  omega
theorem Room.rowb (h : Room w0 w Y b gc lv s pv ps gs) {k : Nat} (hk : pv.ownBlock = some k) : k ≠ b ∧ k ≠ gc ∧ (∀ (j p : Nat), ps[j]? = some p → k ≠ p) ∧ lv.ownBlock ≠ some k := by
  obtain ⟨cur, hc⟩ := own_type h.row hk
  refine ⟨ne_of_type hc h.ar.hb (by decide), ne_of_type hc h.ar.hc (by decide), fun j p hj => ne_of_type hc (h.po j p hj).1 (by decide), fun e => ?_⟩
  obtain ⟨cur', hc'⟩ := own_type h.ar.hl e
  exact ne_of_type hc hc' (by decide) rfl

/-- What turns the arena's own blocks and one port leaves the others alone. -/
theorem Room.turn (h : Room w0 w Y b gc lv s pv ps gs) {w' : World} {lv' : Value} {s' : Ast} {S : Nat → Prop} (k : Chg S w w') (ha : AIs w' Y b gc lv' s') {j p : Nat} {g : Bool} (hj : ps[j]? = some p) (hp : w'.heap[p]? = some (PObj b j g))
    (hS : ∀ i, S i → i = b ∨ i = gc ∨ i = p ∨ lv.ownBlock = some i) : Room w0 w' Y b gc lv' s' pv ps (fun i => if i = j then g else gs i) := by
  refine ⟨ha, ?_, ?_, k.below h.bel ?_ h.bel.size, h.b0, h.g0⟩
  · refine ownsRow_block h.row (fun i hi => k.block i (owns_lt h.row hi).2 (fun e => ?_))
    have q := h.rowb hi
    rcases hS i e with e | e | e | e
    · exact q.1 e
    · exact q.2.1 e
    · exact q.2.2.1 j p hj e
    · exact q.2.2.2 e
  · intro i q hi
    by_cases hij : i = j
    · subst hij
      rw [hj] at hi
      cases hi
      simp only [if_true]
      exact ⟨hp, (h.po i p hj).2⟩
    · simp only [if_neg hij]
      refine ⟨k.heap (h.po i q hi).1 (fun e => ?_), (h.po i q hi).2⟩
      rcases hS q e with e | e | e | e
      · exact h.pb hi e
      · exact h.pg hi e
      · exact h.pp hi hj hij e
      · exact h.pl hi e
  · intro i hi
    rcases hS i hi with e | e | e | e
    · rw [e]; exact h.b0
    · rw [e]; exact h.g0
    · rw [e]; exact (h.po j p hj).2
    · have := (owns_lt h.ar.hl e).1
      have := h.ar.bY
      have := h.b0
      omega
/-- What turns the arena alone. -/
theorem Room.look (h : Room w0 w Y b gc lv s pv ps gs) {w' : World} {lv' : Value} {s' : Ast} {S : Nat → Prop} (k : Chg S w w') (ha : AIs w' Y b gc lv' s')
    (hS : ∀ i, S i → i = b ∨ i = gc ∨ lv.ownBlock = some i) : Room w0 w' Y b gc lv' s' pv ps gs := by
  refine ⟨ha, ?_, ?_, k.below h.bel ?_ h.bel.size, h.b0, h.g0⟩
  · refine ownsRow_block h.row (fun i hi => k.block i (owns_lt h.row hi).2 (fun e => ?_))
    have q := h.rowb hi
    rcases hS i e with e | e | e
    · exact q.1 e
    · exact q.2.1 e
    · exact q.2.2.2 e
  · intro i q hi
    refine ⟨k.heap (h.po i q hi).1 (fun e => ?_), (h.po i q hi).2⟩
    rcases hS q e with e | e | e
    · exact h.pb hi e
    · exact h.pg hi e
    · exact h.pl hi e
  · intro i hi
    rcases hS i hi with e | e | e
    · rw [e]; exact h.b0
    · rw [e]; exact h.g0
    · have := (owns_lt h.ar.hl e).1
      have := h.ar.bY
      have := h.b0
      omega
theorem Room.news (h : Room w0 w Y b gc lv s pv ps gs) {w' : World} (k : Below w.heap.size w w') : Room w0 w' Y b gc lv s pv ps gs :=
  h.look (S := fun _ => False) (Chg.of_below k) (h.ar.below k) (fun _ e => e.elim)

theorem Try.info48 : (Try.prog.info? 48).map (fun i => (i.zero, i.size, i.bytes)) = some (some (.pointer none), 1, 8) := by kernel_rfl

theorem room_step {w0 wr w2 : World} {Y b gc : Nat} {pv v' : Value} {s : Ast} {ps : List Nat} (h : Room w0 wr Y b gc (.slice none 0 0) s pv ps (fun _ => false)) (o : Obj)
    (hown : w2.ownsRow w0.heap.size 48 1 v' (ps.length + 1) (ptrs ps ++ [.pointer (some ⟨wr.heap.size, 0, none⟩)])) (hgrow : ((wr.alloc (PObj b ps.length false)).alloc o).grownBy w2 pv.ownBlock) :
    Room w0 w2 Y b gc (.slice none 0 0) s v' (ps ++ [wr.heap.size]) (fun _ => false) := by
  have k1 : Chg (fun j => pv.ownBlock = some j) wr w2 := (((Chg.refl _ wr).alloc _).alloc _).grown hgrow (fun k hk => .inl hk)
  have hbl := lt_of_heap h.ar.hb
  have hgl := lt_of_heap h.ar.hc
  have hn : w2.heap[wr.heap.size]? = some (PObj b ps.length false) := by
    rw [hgrow.block _ (by simp; omega) (fun e => by have := (owns_lt h.row e.symm).2; omega)]
    exact heap_old (heap_new wr _) o
  refine ⟨h.ar.kept k1 (fun e => (h.rowb e).1 rfl) (fun e => (h.rowb e).2.1 rfl) (fun i hi => by cases hi), ?_, ?_, k1.below h.bel (fun i hi => (owns_lt h.row hi).1) h.bel.size, h.b0, h.g0⟩
  · have e : ptrs (ps ++ [wr.heap.size]) = ptrs ps ++ [.pointer (some ⟨wr.heap.size, 0, none⟩)] := by simp [ptrs]
    rw [e, List.length_append]
    exact hown
  · intro j p hj
    rcases Nat.lt_or_ge j ps.length with hlt | hge
    · rw [List.getElem?_append_left hlt] at hj
      exact ⟨k1.heap (h.po j p hj).1 (fun e => (h.rowb e).2.2.1 j p hj rfl), (h.po j p hj).2⟩
    · rw [List.getElem?_append_right hge] at hj
      have : j = ps.length := by
        rcases Nat.lt_or_ge (j - ps.length) 1 with h1 | h1
        · omega
        · rw [List.getElem?_eq_none (by simpa using h1)] at hj; cases hj
      subst this
      simp at hj
      subst hj
      exact ⟨hn, h.bel.size⟩

set_option maxRecDepth 100000 in
set_option maxHeartbeats 1000000 in
theorem room_any (n : Int) (m : Nat) (w : World) (hm : (m : Int) ≤ 1000) :
    Calls Try.prog 18 #[.int .i64 n, .int .i64 m] w fun r w' => ∃ b gc pv ps, r = .returned (.tuple #[.pointer (some ⟨b, 0, none⟩), pv]) ∧ ps.length = m ∧
      Room w w' w'.heap.size b gc (.slice none 0 0) (Ast.new (1 + (n % 8).toNat) true) pv ps (fun _ => false) := by
  obtain ⟨i0, hi, hz0, hz1, hz2⟩ := info_parts Try.info48
  obtain ⟨q, hq⟩ : ∃ q : Nat, n % 8 = (q : Int) := ⟨(n % 8).toNat, by omega⟩
  have hq8 : (q : Int) < 8 := by omega
  have HN := hide (new_any (1 + q) true w (by omega))
  have HQ := hide (show 1 + (n % 8).toNat = 1 + q by omega)
  go_enter Try.func18, Try.ntmps18
  go_wp2_with fail
  refine (index_any _ 8 _ (by decide) (by decide)).mono ?_
  rintro e w' ⟨rfl, hw⟩
  subst w'
  rw [hq]
  go_wp2_with fail
  rw [show (1 : Int) + (q : Int) = ((1 + q : Nat) : Int) by omega]
  refine HN.out.mono ?_
  rintro e w1 ⟨rfl, ha, hsz, hbel⟩
  have HA : Hid (Room w w1 (w.heap.size + 2) (w.heap.size + 1) w.heap.size (.slice none 0 0) (Ast.new (1 + q) true) (.slice none 0 0) [] (fun _ => false)) :=
    ⟨ha, World.ownsRow_nil _ _ _ _, fun j p hj => by simp at hj, hbel, by omega, Nat.le_refl _⟩
  clear ha hsz hbel HN hq
  go_wp2_with (go_at_call 31; refine (no_any _ _).mono ?_; rintro e w' ⟨rfl, hw⟩; subst w')
  obtain ⟨S, hS⟩ : ∃ S, S = Ast.new (1 + q) true := ⟨_, rfl⟩
  rw [← hS] at HA
  generalize w.heap.size + 2 = Y at HA
  generalize hB : w.heap.size + 1 = b at HA ⊢
  generalize hG : w.heap.size = gc at HA
  clear hB hG
  go_loopw [8, 9] (fun pv t wr => ∃ (ps : List Nat) (k : Nat), ps.length = k ∧ k ≤ m ∧ t = .int .i64 k ∧ Hid (Room w wr Y b gc (.slice none 0 0) S pv ps (fun _ => false))) (fun _ t _ => m - (RowKit.intOf t).toNat)
  case atStart => exact ⟨[], 0, rfl, by omega, rfl, HA⟩
  case round =>
    clear HA
    obtain ⟨ps, k, hpk, hk, rfl, HI⟩ := hrel
    by_cases hlt : k < m
    · have hk0 : (0 : Int) ≤ k := by omega
      go_wp2_with fail
      refine (port_any _ k _ hk0).mono ?_
      rintro e wp ⟨rfl, hw⟩
      subst hw
      go_wp2_with (first | (go_at_call 31; refine (no_any _ _).mono ?_; rintro e w' ⟨rfl, hw⟩; subst w') | (at_builtin; refine wpList_append_own _ rfl _ _ 39 rfl w.heap.size 48 i0 (.pointer none) 1 8 Try.underlying39 hi hz0 hz1 hz2 rfl (by decide) _ _ _ rfl ((HI.out.row.alloc _).alloc _) ⟨wr.heap.size + 1, 0, none⟩ 1 1 [.pointer (some ⟨wr.heap.size, 0, none⟩)] rfl rfl ?c1 ?c2 ?c3 ?c4 ?c5 ?_))
      case c1 =>
        intro j u hj
        match j, hj with
        | 0, hj => simp at hj; subst hj; simp [Addr.add]
      case c2 => intro u hu; simp at hu; subst hu; rfl
      case c3 => unfold maxLen; omega
      case c4 => omega
      case c5 => have := HI.out.bel.size; simp; omega
      intro v' w2 hown' hgrow _
      rw [← hpk] at hgrow hown'
      have HR := hide (room_step HI.out _ hown' hgrow)
      clear hown' hgrow HI
      go_wp2
      go_roundw
      case rel => exact ⟨ps ++ [wr.heap.size], k + 1, by simp [hpk], by omega, by go_num, HR⟩
      case measure => simp [RowKit.intOf]; omega
    · obtain rfl : k = m := by omega
      go_wp2
      go_ret2
      refine ⟨b, gc, _, ps, rfl, hpk, ?_⟩
      have h := HI.out
      rw [HQ.out, ← hS]
      exact ⟨h.ar.rise h.ar.yw (Nat.le_refl _), h.row, h.po, h.bel, h.b0, h.g0⟩
end Go.Proofs.Ytfgchkkljlbmcaa
