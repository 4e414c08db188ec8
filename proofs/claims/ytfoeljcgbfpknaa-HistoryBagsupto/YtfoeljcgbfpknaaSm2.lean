/- isEvent; the open span of one; end. -/
import Derived.Test.YtfoeljcgbfpknaaSm
namespace Go.Proofs.Ytfoeljcgbfpknaa
open Go.RowKit Go.Lib
set_option linter.unusedVariables false
set_option linter.unusedSimpArgs false
def isE (e : Ev) : Bool := decide (0 ≤ e.who ∧ 1 ≤ e.kind ∧ e.kind ≤ 6 ∧ 0 ≤ e.tm ∧ (e.kind = 1 ∨ e.kind = 4 ∨ (e.key = 0 ∧ e.load = 0)))
theorem okE_is (e : Ev) (last : Int) : okE e last = (isE e && !decide (e.tm < last)) := by
  unfold okE isE
  by_cases h : e.tm < last
  · rw [decide_eq_true h, decide_eq_false (fun g => by omega)]; simp
  · rw [decide_eq_false h]
    simp only [Bool.not_false, Bool.and_true]
    apply decide_eq_decide.2
    constructor
    · rintro ⟨a, b, c, d, e, f⟩; exact ⟨a, b, c, d, f⟩
    · rintro ⟨a, b, c, d, f⟩; exact ⟨a, b, c, d, by omega, f⟩
set_option maxRecDepth 100000 in
set_option maxHeartbeats 1000000 in
theorem isE_any (e : Ev) (w : World) : Calls Try.prog 72 #[.agg e.arr] w fun x w' => x = .returned (.bool (isE e)) ∧ Below w.heap.size w w' := by
  obtain ⟨tm, who, kind, key, load⟩ := e
  simp only [Ev.arr]
  have HN := hide (fun w => has_any kind w)
  have hq := eql_task
  by_cases h0 : tm < 0
  · have hE : isE ⟨tm, who, kind, key, load⟩ = false := by unfold isE; rw [decide_eq_false (fun h => by simp only at h; omega)]
    rw [hE]
    go_enter Try.func72, Try.ntmps72
    go_wp2
    go_ret
    exact ⟨rfl, below_alloc (Below.refl _ _) _⟩
  ·
    by_cases h1 : who < 0
    · have hE : isE ⟨tm, who, kind, key, load⟩ = false := by unfold isE; rw [decide_eq_false (fun h => by simp only at h; omega)]
      rw [hE]
      go_enter Try.func72, Try.ntmps72
      go_wp2
      go_ret
      exact ⟨rfl, below_alloc (Below.refl _ _) _⟩
    ·
      by_cases g2 : kind = 2
      · have hE : isE ⟨tm, who, kind, key, load⟩ = decide (key = 0 ∧ load = 0) := by
          unfold isE
          apply decide_eq_decide.2
          simp only
          omega
        rw [hE]
        clear hE
        subst g2
        go_enter Try.func72, Try.ntmps72
        go_wp2
        go_ret
        exact ⟨by simp [Bool.beq_eq_decide_eq], below_alloc (Below.refl _ _) _⟩
      ·
        by_cases g3 : kind = 3
        · have hE : isE ⟨tm, who, kind, key, load⟩ = decide (key = 0 ∧ load = 0) := by
            unfold isE
            apply decide_eq_decide.2
            simp only
            omega
          rw [hE]
          clear hE
          subst g3
          go_enter Try.func72, Try.ntmps72
          go_wp2
          go_ret
          exact ⟨by simp [Bool.beq_eq_decide_eq], below_alloc (Below.refl _ _) _⟩
        ·
          by_cases g5 : kind = 5
          · have hE : isE ⟨tm, who, kind, key, load⟩ = decide (key = 0 ∧ load = 0) := by
              unfold isE
              apply decide_eq_decide.2
              simp only
              omega
            rw [hE]
            clear hE
            subst g5
            go_enter Try.func72, Try.ntmps72
            go_wp2
            go_ret
            exact ⟨by simp [Bool.beq_eq_decide_eq], below_alloc (Below.refl _ _) _⟩
          ·
            by_cases g6 : kind = 6
            · have hE : isE ⟨tm, who, kind, key, load⟩ = decide (key = 0 ∧ load = 0) := by
                unfold isE
                apply decide_eq_decide.2
                simp only
                omega
              rw [hE]
              clear hE
              subst g6
              go_enter Try.func72, Try.ntmps72
              go_wp2
              go_ret
              exact ⟨by simp [Bool.beq_eq_decide_eq], below_alloc (Below.refl _ _) _⟩
            ·
              have hE : isE ⟨tm, who, kind, key, load⟩ = decide (kind = 1 ∨ kind = 4) := by
                unfold isE
                apply decide_eq_decide.2
                simp only
                omega
              rw [hE]
              clear hE
              go_enter Try.func72, Try.ntmps72
              go_wp2_with (go_at_call 98; refine (HN.out _).mono ?_; rintro e w2 ⟨rfl, hb⟩)
              go_ret
              exact ⟨by simp, below_on (below_alloc (Below.refl _ _) _) hb⟩
set_option maxRecDepth 100000 in
set_option maxHeartbeats 1000000 in
theorem open_any (v : Value) (l : List Sp) (who : Int) (w : World) (h : RAt Sp.arr 7 w v l) : Calls Try.prog 51 #[v, .int .i64 who] w fun x w' => x = .returned (.int .i64 (opI (opn l who))) ∧ Below w.heap.size w w' := by
  obtain ⟨ao, cap, rfl, hcap, h63⟩ := h.shape
  have H := hide h
  have HO : Hid (opn l who = opnTo l who l.length) := rfl
  obtain ⟨n, hn⟩ : ∃ n, n = l.length := ⟨_, rfl⟩
  have HN := hide hn
  rw [← hn] at hcap H HO ⊢
  clear h hn
  go_enter Try.func51, Try.ntmps51
  go_wp2
  go_loopw [5] (fun t wr => ∃ i : Nat, i ≤ n ∧ t = .int .i64 ((i : Int) - 1) ∧ opn l who = opnTo l who i ∧ wr = w) (fun t _ => (RowKit.intOf t + 1).toNat)
  case atStart => exact ⟨n, Nat.le_refl _, by simp, HO.out, rfl⟩
  case round =>
    obtain ⟨i, hin, rfl, ho, rfl⟩ := hrel
    have HI := hide ho
    clear ho HO
    cases i with
    | zero =>
      have HE : Hid (opn l who = none) := HI.out
      go_wp2
      go_ret
      exact ⟨by rw [HE.out]; rfl, Below.refl _ _⟩
    | succ k =>
      obtain ⟨g, o, rfl, hg, p⟩ := H.out.at k (by have := HN.out; omega)
      have HS : Hid (spAt l k = l[k]'(by have := HN.out; omega)) := hide (by have := HN.out; simp [spAt, show k < l.length by omega])
      rw [← HS.out] at p
      have p0 : wr.cell? ⟨g, o + k * 7, none⟩ = some (.int .i64 (spAt l k).who) := p 0 _ rfl
      have p5 : wr.cell? ⟨g, o + k * 7 + 5, none⟩ = some (.int .i64 (spAt l k).en) := p 5 _ rfl
      have HT : Hid (opn l who = if (spAt l k).who = who then (if (spAt l k).en = -1 then some k else none) else opnTo l who k) := HI.out
      clear p HI HS
      generalize (spAt l k).who = a at p0 HT
      generalize (spAt l k).en = b at p5 HT
      have e1 : ((k + 1 : Nat) : Int) - 1 = (k : Int) := by omega
      rw [e1]
      clear e1
      have hkn : k < n := by omega
      have hk0 : (0 : Int) ≤ (k : Int) := by omega
      by_cases h1 : a = who
      · by_cases h2 : b = -1
        · have HR : Hid (opn l who = some k) := hide (by rw [HT.out, if_pos h1, if_pos h2])
          clear HT
          subst h1 h2
          go_wp2
          go_ret
          exact ⟨by rw [HR.out]; rfl, Below.refl _ _⟩
        · have HR : Hid (opn l who = none) := hide (by rw [HT.out, if_pos h1, if_neg h2])
          clear HT
          subst h1
          go_wp2
          go_ret
          exact ⟨by rw [HR.out]; rfl, Below.refl _ _⟩
      · have HR : Hid (opn l who = opnTo l who k) := hide (by rw [HT.out, if_neg h1])
        clear HT
        go_wp2
        go_roundw
        case rel => exact ⟨k, by omega, by simp, HR.out, by trivial⟩
        case measure => simp [RowKit.intOf]
theorem getq_set {α : Type} {l : List α} {k : Nat} {x y : α} (h : l[k]? = some x) : (l.set k y)[k]? = some y := by
  have := (List.getElem?_eq_some_iff.1 h).1
  simp [this]
theorem SOwn.end2 {w : World} {fr g n cap k : Nat} {l : List Sp} {s : Sp} (h : SOwn w fr (.slice (some ⟨g, 0, none⟩) n cap) l) (hx : l[k]? = some s) (a b : Int) :
    SOwn ((w.setCell ⟨g, k * 7 + 5, none⟩ (.int .i64 a)).setCell ⟨g, k * 7 + 6, none⟩ (.int .i64 b)) fr (.slice (some ⟨g, 0, none⟩) n cap) (l.set k ⟨s.who, s.ins, s.key, s.load, s.beg, a, b⟩) := by
  have h1 := h.set Sp.size (j := 5) (u := .int .i64 a) (y := ⟨s.who, s.ins, s.key, s.load, s.beg, a, s.kind⟩) hx (by decide) rfl
  have h2 := h1.set Sp.size (j := 6) (u := .int .i64 b) (y := ⟨s.who, s.ins, s.key, s.load, s.beg, a, b⟩) (getq_set hx) (by decide) rfl
  rw [List.set_set] at h2
  exact h2
theorem SOwn.end4 {w : World} {fr g n cap k : Nat} {l : List Sp} {s : Sp} (h : SOwn w fr (.slice (some ⟨g, 0, none⟩) n cap) l) (hx : l[k]? = some s) (a b : Int) :
    SOwn ((w.setCell ⟨g, k * 7 + 2, none⟩ (.int .u64 a)).setCell ⟨g, k * 7 + 2 + 1, none⟩ (.int .u64 b)) fr (.slice (some ⟨g, 0, none⟩) n cap) (l.set k ⟨s.who, s.ins, a, b, s.beg, s.en, s.kind⟩) := by
  have h1 := h.set Sp.size (j := 2) (u := .int .u64 a) (y := ⟨s.who, s.ins, a, s.load, s.beg, s.en, s.kind⟩) hx (by decide) rfl
  have h2 := h1.set Sp.size (j := 3) (u := .int .u64 b) (y := ⟨s.who, s.ins, a, b, s.beg, s.en, s.kind⟩) (getq_set hx) (by decide) rfl
  rw [List.set_set] at h2
  exact h2
set_option maxRecDepth 100000 in
set_option maxHeartbeats 2000000 in
theorem end_any (fr g n cap : Nat) (l : List Sp) (k i : Nat) (e : Ev) (w : World) (h : SOwn w fr (.slice (some ⟨g, 0, none⟩) n cap) l) (hk : k < l.length) :
    Calls Try.prog 75 #[.pointer (some ⟨g, k * 7, none⟩), .int .i64 (i : Int), .agg e.arr] w fun x w' => x = .returned (.tuple #[]) ∧ SOwn w' fr (.slice (some ⟨g, 0, none⟩) n cap) (l.set k (shut i e (spAt l k))) ∧ Chg (fun b => b = g) w w' := by
  have hx := spAt_get hk
  obtain ⟨s, hs⟩ : ∃ s, s = spAt l k := ⟨_, rfl⟩
  rw [← hs] at hx ⊢
  clear hs
  have hgl : g < w.heap.size := (h.lt g rfl).2
  obtain ⟨tm, who, kind, key, load⟩ := e
  obtain ⟨sw, si, sk, sl, sb, se, sn⟩ := s
  simp only [Ev.arr]
  have HC := hide (h.cell Sp.size hx)
  have p5 := HC.out 5 _ rfl
  have p6 := HC.out 6 _ rfl
  have p2 := HC.out 2 _ rfl
  have p3 := HC.out 3 _ rfl
  have f2 := h.free (k * 7 + 2)
  have f3 := h.free (k * 7 + 3)
  have f5 := h.free (k * 7 + 5)
  have f6 := h.free (k * 7 + 6)
  have H := hide h
  have HX := hide hx
  have HK := hide hk
  clear h hx HC hk
  by_cases hk4 : kind = 4
  · subst hk4
    go_enter Try.func75, Try.ntmps75
    go_wp2_with fail
    go_region
    all_goals go_wp2
    all_goals first | go_end0 | refine bodyPost_ret (results_none rfl _ _ _) rfl ?_
    refine ⟨rfl, ?_, ?_⟩
    · have h4 := (H.out.end2 HX.out i 4).end4 (getq_set HX.out) key load
      rw [List.set_set] at h4
      exact h4.below (below_drew (below_alloc (Below.refl _ _) _))
    · exact Chg.drew (Chg.alloc (Chg.setCell (Chg.setCell (Chg.setCell (Chg.setCell (Chg.refl (fun b => b = g) w) (p := ⟨g, k * 7 + 5, none⟩) rfl _) (p := ⟨g, k * 7 + 6, none⟩) rfl _) (p := ⟨g, k * 7 + 2, none⟩) rfl _) (p := ⟨g, k * 7 + 2 + 1, none⟩) rfl _) _)
  · go_enter Try.func75, Try.ntmps75
    go_wp2_with fail
    go_region
    all_goals go_wp2
    all_goals first | go_end0 | refine bodyPost_ret (results_none rfl _ _ _) rfl ?_
    refine ⟨rfl, ?_, ?_⟩
    · have h4 := H.out.end2 HX.out i kind
      have e : shut i ⟨tm, who, kind, key, load⟩ ⟨sw, si, sk, sl, sb, se, sn⟩ = ⟨sw, si, sk, sl, sb, i, kind⟩ := by simp [shut, hk4]
      rw [e]
      exact h4.below (below_drew (below_alloc (Below.refl _ _) _))
    · exact Chg.drew (Chg.alloc (Chg.setCell (Chg.setCell (Chg.refl (fun b => b = g) w) (p := ⟨g, k * 7 + 5, none⟩) rfl _) (p := ⟨g, k * 7 + 6, none⟩) rfl _) _)
end Go.Proofs.Ytfoeljcgbfpknaa
