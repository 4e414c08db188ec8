/- The reference's five accesses, where they are made. -/
import Derived.Test.YtgjdjdgondpjeaaGreatRefMade
namespace Go.Proofs.YtgjdjdgondpjeaaGreat
open Go.RowKit Go.Lib Go.MuLone

structure RReady (w : World) (Y b gc : Nat) (lv : Value) (s : Ast) (i : Nat) : Prop where
  ar : RIs w Y b gc lv s
  go : s.stopped = false
  at_ : i < s.cells.length
  c0 : 0 ≤ s.count
  c1 : s.count < 9223372036854775807
  big : (s.log.length + 1) * 64 ≤ 140737488355328
def RPost (w w' : World) (Y b gc : Nat) (lv : Value) (s : Ast) (i : Nat) (m : Acc) : Prop :=
  ∃ lv', RIs w' Y b gc lv' (s.made i m) ∧ (lv'.ownBlock = lv.ownBlock ∨ ∃ g, lv'.ownBlock = some g ∧ w.heap.size ≤ g) ∧ Chg (refSet b gc lv) w w'
theorem RReady.alloc {w : World} {Y b gc : Nat} {lv : Value} {s : Ast} {i : Nat} (R : RReady w Y b gc lv s i) (o : Obj) : RReady (w.alloc o) Y b gc lv s i :=
  ⟨R.ar.below ((Below.refl _ _).alloc (Nat.le_refl _) _), R.go, R.at_, R.c0, R.c1, R.big⟩
theorem RPost.alloc {w w' : World} {Y b gc : Nat} {lv : Value} {s : Ast} {i : Nat} {m : Acc} {o : Obj} (h : RPost (w.alloc o) w' Y b gc lv s i m) : RPost w w' Y b gc lv s i m := by
  obtain ⟨lv', h1, h2, h4⟩ := h
  refine ⟨lv', h1, ?_, ((Chg.refl _ w).alloc o).trans h4⟩
  rcases h2 with h2 | ⟨g, h2, h5⟩
  · exact .inl h2
  · exact .inr ⟨g, h2, by simp at h5; omega⟩
theorem RReady.made {w : World} {Y b gc : Nat} {lv : Value} {s : Ast} {i : Nat} (R : RReady w Y b gc lv s i) (m : Acc) (hm : m.cell = i) :
    Calls Tryz.prog 102 #[.pointer (some ⟨b, 0, none⟩), .agg (madeArr m i)] w fun r w' => r = .returned (.tuple #[]) ∧ RPost w w' Y b gc lv s i m :=
  refMade_any Y b gc lv s i m w R.ar R.at_ hm R.c0 R.c1 R.big

set_option maxRecDepth 100000 in
theorem refLoad_in {w : World} {Y b gc : Nat} {lv : Value} {s : Ast} {i : Nat} (who : Int) (R : RReady w Y b gc lv s i) :
    Calls Tryz.prog 85 #[.pointer (some ⟨b, 0, none⟩), .int .i64 who, .int .i64 i] w fun r w' => r = .returned (.int .u64 (nth s.cells i)) ∧ RPost w w' Y b gc lv s i ⟨who, 1, i, 0, 0, nth s.cells i, nth s.cells i, true⟩ := by
  have HR := hide R
  have c0 : w.cell? ⟨b, 0, none⟩ = some (.slice (some ⟨gc, 0, none⟩) s.cells.length s.cells.length) := cell_of R.ar.hb rfl
  have e1 := words_cell R.ar.hc i R.at_
  have h1 : (i : Int) < s.cells.length := by have := R.at_; omega
  have hbl := lt_of_heap R.ar.hb
  have hgl := lt_of_heap R.ar.hc
  clear R
  go_enter Tryz.func85, Tryz.ntmps85
  go_wp2_with fail
  refine (there_in Y b gc lv s who i _ HR.out.ar HR.out.go HR.out.at_).mono ?_
  rintro e w' ⟨rfl, rfl⟩
  go_wp2_with fail
  refine (HR.out.made ⟨who, 1, i, 0, 0, nth s.cells i, nth s.cells i, true⟩ rfl).mono ?_
  rintro e w1 ⟨rfl, hp⟩
  have HP := hide hp
  clear hp
  go_wp2_with fail
  go_ret
  exact ⟨rfl, HP.out⟩

set_option maxRecDepth 100000 in
theorem refStore_in {w : World} {Y b gc : Nat} {lv : Value} {s : Ast} {i : Nat} (who : Int) (v : Int) (R : RReady w Y b gc lv s i) :
    Calls Tryz.prog 89 #[.pointer (some ⟨b, 0, none⟩), .int .i64 who, .int .i64 i, .int .u64 v] w fun r w' => r = .returned (.tuple #[]) ∧ RPost w w' Y b gc lv s i ⟨who, 2, i, 0, v, nth s.cells i, v, true⟩ := by
  have HR := hide R
  have c0 : w.cell? ⟨b, 0, none⟩ = some (.slice (some ⟨gc, 0, none⟩) s.cells.length s.cells.length) := cell_of R.ar.hb rfl
  have e1 := words_cell R.ar.hc i R.at_
  have h1 : (i : Int) < s.cells.length := by have := R.at_; omega
  have hbl := lt_of_heap R.ar.hb
  have hgl := lt_of_heap R.ar.hc
  clear R
  go_enter Tryz.func89, Tryz.ntmps89
  go_wp2_with fail
  refine (there_in Y b gc lv s who i _ HR.out.ar HR.out.go HR.out.at_).mono ?_
  rintro e w' ⟨rfl, rfl⟩
  go_wp2_with fail
  refine (HR.out.made ⟨who, 2, i, 0, v, nth s.cells i, v, true⟩ rfl).mono ?_
  rintro e w1 ⟨rfl, hp⟩
  have HP := hide hp
  clear hp
  go_wp2_with fail
  first | go_end0 | refine bodyPost_ret (results_none rfl _ _ _) rfl ?_
  exact ⟨rfl, HP.out⟩

/-- A block that is new stays as it is. -/
theorem RPost.new {w w' : World} {Y b gc : Nat} {lv : Value} {s : Ast} {i : Nat} {m : Acc} {o : Obj} (R : RReady w Y b gc lv s i) (h : RPost (w.alloc o) w' Y b gc lv s i m) : w'.heap[w.heap.size]? = some o := by
  obtain ⟨lv', h1, h2, h4⟩ := h
  refine h4.heap (heap_new w o) (fun e => ?_)
  have := lt_of_heap R.ar.hb
  have := lt_of_heap R.ar.hc
  rcases e with e | e | e
  · omega
  · omega
  · have := (R.ar.own_ne e).2.2
    omega

set_option maxRecDepth 100000 in
theorem refCas_in {w : World} {Y b gc : Nat} {lv : Value} {s : Ast} {i : Nat} (who : Int) (want put : Int) (R : RReady w Y b gc lv s i) :
    Calls Tryz.prog 88 #[.pointer (some ⟨b, 0, none⟩), .int .i64 who, .int .i64 i, .int .u64 want, .int .u64 put] w fun r w' => r = .returned (.bool (decide (nth s.cells i = want))) ∧
      RPost w w' Y b gc lv s i ⟨who, 3, i, want, put, nth s.cells i, if nth s.cells i = want then put else nth s.cells i, decide (nth s.cells i = want)⟩ := by
  have HR := hide R
  have c0 : w.cell? ⟨b, 0, none⟩ = some (.slice (some ⟨gc, 0, none⟩) s.cells.length s.cells.length) := cell_of R.ar.hb rfl
  have e1 := words_cell R.ar.hc i R.at_
  have h1 : (i : Int) < s.cells.length := by have := R.at_; omega
  have hbl := lt_of_heap R.ar.hb
  have hgl := lt_of_heap R.ar.hc
  clear R
  obtain ⟨sn, hsn⟩ : ∃ sn, nth s.cells i = sn := ⟨_, rfl⟩
  rw [hsn] at e1 ⊢
  by_cases hw : sn = want
  · subst hw
    go_enter Tryz.func88, Tryz.ntmps88
    go_wp2_with fail
    refine (there_in Y b gc lv s who i _ HR.out.ar HR.out.go HR.out.at_).mono ?_
    rintro e w' ⟨rfl, rfl⟩
    go_wp2_with fail
    refine ((HR.out.alloc _).made ⟨who, 3, i, sn, put, sn, put, true⟩ rfl).mono ?_
    rintro e w1 ⟨rfl, hp⟩
    have HP := hide hp
    have m7 : w1.cell? ⟨w'.heap.size, 7, none⟩ = some (.bool true) := cell_of (hp.new HR.out) rfl
    clear hp
    go_wp2_with fail
    go_ret
    exact ⟨rfl, HP.out.alloc⟩
  · have hd : decide (sn = want) = false := decide_eq_false hw
    go_enter Tryz.func88, Tryz.ntmps88
    go_wp2_with fail
    refine (there_in Y b gc lv s who i _ HR.out.ar HR.out.go HR.out.at_).mono ?_
    rintro e w' ⟨rfl, rfl⟩
    go_wp2_with fail
    refine ((HR.out.alloc _).made ⟨who, 3, i, want, put, sn, sn, false⟩ rfl).mono ?_
    rintro e w1 ⟨rfl, hp⟩
    have HP := hide hp
    have m7 : w1.cell? ⟨w'.heap.size, 7, none⟩ = some (.bool false) := cell_of (hp.new HR.out) rfl
    clear hp
    go_wp2_with fail
    go_ret
    exact ⟨rfl, HP.out.alloc⟩
end Go.Proofs.YtgjdjdgondpjeaaGreat
