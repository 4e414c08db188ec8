/- The queue of numbers in memory. -/
import Derived.Test.YtiohimbifjlfdaaOrHp
import Derived.Test.YtiohimbifjlfdaaLists
import Derived.Deep.AppendLies
import Derived.Deep.CutRange
import Derived.Deep.RegionLaw
import Derived.Laws.EntriesVeiled
namespace Go.Proofs.Ytiohimbifjlfdaa
open Go.RowKit Go.Lib
set_option linter.unusedVariables false
set_option linter.unusedSimpArgs false
structure GW (w0 : World) where
  world : World
  bel : Below w0.heap.size w0 world
theorem wp_region_gw {P : Program} {id : Nat} {Q : Exit → Act → World → Prop} {a : Act} {w : World} {l : List Oper} (hm : P.follows .mixedOrders = true) (hB : Region.lexB .any l.toArray = true)
    (h : wpQuiet P l.toArray (fun w' => ∃ x : GW w, w' = x.world) (fun a' => ∀ w', (∃ x : GW w, w' = x.world) → Q .normal a' w') l a) : (Code.region id l.toArray true).wp P Q a w :=
  wp_region_quiet (C := fun w' => ∃ x : GW w, w' = x.world) hm hB ⟨⟨w.drew, (Below.refl _ _).drew⟩, rfl⟩ (by simpa using h)
theorem gw_of {w8 : World} {x : GW w8} {f : FuncId} {args : Array Value} {v : Value} (h : Calls Try.prog f args x.world fun e w' => e = .returned v ∧ Below x.world.heap.size x.world w') :
    Calls Try.prog f args x.world fun e w'' => e = .returned v ∧ ∃ y : GW w8, w'' = y.world :=
  h.mono fun _ _ ⟨he, hb⟩ => ⟨he, ⟨_, below_on x.bel hb⟩, rfl⟩
theorem gw_same {w8 : World} {x : GW w8} {f : FuncId} {args : Array Value} {v : Value} (h : Calls Try.prog f args x.world fun e w' => e = .returned v ∧ w' = x.world) :
    Calls Try.prog f args x.world fun e w'' => e = .returned v ∧ ∃ y : GW w8, w'' = y.world :=
  h.mono fun _ _ ⟨he, hb⟩ => ⟨he, x, hb⟩
theorem gw_cell {w : World} {b i : Nat} {v : Value} (h : w.cell? ⟨b, i, none⟩ = some v) (x : GW w) : x.world.cell? ⟨b, i, none⟩ = some v := (below_cell x.bel (block_of_cell h)).trans h
def fnv (n : Nat) : Value := .func (.func n) #[] #[]
def ivs (l : List Int) : List Value := l.map (Value.int .i64)
theorem ivs_length (l : List Int) : (ivs l).length = l.length := by simp [ivs]
theorem ivs_set (l : List Int) (i : Nat) (x : Int) : (ivs l).set i (.int .i64 x) = ivs (l.set i x) := by simp [ivs, List.map_set]
theorem ivs_at (l : List Int) (i : Nat) (h : i < l.length) : (ivs l)[i]? = some (.int .i64 (at_ l i)) := by simp [ivs, at_, h]
theorem own_chg {w w' : World} {S : Nat → Prop} {B size n : Nat} {e : TypeId} {v : Value} {xs : List Value} (h : w.ownsRow B e size v n xs) (hc : Chg S w w') (hS : ∀ g, v.ownBlock = some g → ¬ S g) : w'.ownsRow B e size v n xs := by
  obtain ⟨hl, ⟨rfl, h0⟩ | ⟨g, cap, cur, rfl, hg, hh, r⟩⟩ := h
  · exact ⟨hl, .inl ⟨rfl, h0⟩⟩
  · exact ⟨hl, .inr ⟨g, cap, cur, rfl, hg, hc.heap hh (hS g rfl), r⟩⟩
theorem own_cells {w : World} {B : Nat} {v : Value} {l : List Int} (h : w.ownsRow B 3 1 v l.length (ivs l)) (hne : 0 < l.length) :
    ∃ g c, v = .slice (some ⟨g, 0, none⟩) l.length c ∧ B ≤ g ∧ g < w.heap.size ∧ l.length ≤ c ∧ c ≤ 9223372036854775807 ∧ ∀ i, i < l.length → w.cell? ⟨g, i, none⟩ = some (.int .i64 (at_ l i)) ∧ w.frozen? ⟨g, i, none⟩ = false := by
  obtain ⟨h1, ⟨rfl, hn⟩ | ⟨g, cap, cur, rfl, hg, hh, hnc, hcm, hcur, htake⟩⟩ := h
  · omega
  · refine ⟨g, cap, rfl, hg, lt_of_heap hh, hnc, hcm, fun i hi => ⟨?_, free_of hh _⟩⟩
    have p := ivs_at l i hi
    rw [← htake] at p
    rw [List.getElem?_take_of_lt (by omega)] at p
    exact cell_of hh (by simpa using p)
theorem own_set {w : World} {B g c : Nat} {l : List Int} (h : w.ownsRow B 3 1 (.slice (some ⟨g, 0, none⟩) l.length c) l.length (ivs l)) (i : Nat) (x : Int) :
    (w.setCell ⟨g, i, none⟩ (.int .i64 x)).ownsRow B 3 1 (.slice (some ⟨g, 0, none⟩) l.length c) l.length (ivs (l.set i x)) := by
  have h1 := (h.stored i (.int .i64 x)).1
  rw [ivs_set] at h1
  exact h1
/-- The queue: its struct's block, its list. -/
structure IQ (w : World) (Q B : Nat) (v : Value) (l : List Int) : Prop where
  hh : w.heap[Q]? = some (.cells #[v, fnv 44] 113 (0, 0))
  own : w.ownsRow B 3 1 v l.length (ivs l)
  lt : Q < B
  le : B ≤ w.heap.size
theorem IQ.below {w w' : World} {Q B : Nat} {v : Value} {l : List Int} (h : IQ w Q B v l) (hb : Below w.heap.size w w') : IQ w' Q B v l :=
  ⟨(hb.block Q (lt_of_heap h.hh)).trans h.hh, own_chg (S := fun _ => False) h.own (Chg.of_below hb) (fun _ _ h => h), h.lt, Nat.le_trans h.le hb.size⟩
theorem IQ.chg {w w' : World} {S : Nat → Prop} {Q B : Nat} {v : Value} {l : List Int} (h : IQ w Q B v l) (hc : Chg S w w') (h1 : ¬ S Q) (h2 : ∀ g, v.ownBlock = some g → ¬ S g) : IQ w' Q B v l :=
  ⟨hc.heap h.hh h1, own_chg h.own hc h2, h.lt, Nat.le_trans h.le hc.size⟩
theorem IQ.own_lt {w : World} {Q B : Nat} {v : Value} {l : List Int} (h : IQ w Q B v l) : ∀ k, v.ownBlock = some k → B ≤ k ∧ k < w.heap.size := fun k hk => by
  obtain ⟨_, ⟨rfl, _⟩ | ⟨g', c', cur, rfl, hg', hh', _⟩⟩ := h.own
  · simp [Value.ownBlock] at hk
  · simp [Value.ownBlock] at hk; subst hk; exact ⟨hg', lt_of_heap hh'⟩
/-- The blocks that a call on the queue may turn: the queue's, its list's, new ones. -/
def QT (w : World) (Q : Nat) (v : Value) (k : Nat) : Prop := k = Q ∨ v.ownBlock = some k ∨ w.heap.size ≤ k
set_option maxRecDepth 100000 in
theorem less_any (a b : Int) (w : World) : Calls Try.prog 44 #[.int .i64 a, .int .i64 b] w fun e w' => e = .returned (.bool (decide (a < b))) ∧ w' = w := by
  go_enter Try.func44, Try.ntmps44
  go_wp2
  go_ret
  exact ⟨rfl, rfl⟩
set_option maxRecDepth 100000 in
theorem new_any (w : World) : Calls Try.prog 43 #[fnv 44] w fun e w' => e = .returned (.pointer (some ⟨w.heap.size, 0, none⟩)) ∧ IQ w' w.heap.size (w.heap.size + 1) (.slice none 0 0) [] ∧ Below w.heap.size w w' := by
  unfold fnv
  go_enter Try.func43, Try.ntmps43
  go_wp2
  go_ret
  refine ⟨rfl, ⟨heap_new _ _, ⟨by simp [ivs], .inl ⟨rfl, rfl⟩⟩, by omega, by simp⟩, below_alloc (Below.refl _ _) _⟩
set_option maxRecDepth 100000 in
theorem empty_any (w : World) (Q B : Nat) (v : Value) (l : List Int) (h : IQ w Q B v l) :
    Calls Try.prog 46 #[.pointer (some ⟨Q, 0, none⟩)] w fun e w' => e = .returned (.bool (decide (l.length = 0))) ∧ w' = w := by
  have c0 := cell_of h.hh (i := 0) rfl
  obtain ⟨ao, c, rfl⟩ : ∃ ao c, v = .slice ao l.length c := by
    obtain ⟨_, ⟨rfl, h0⟩ | ⟨g, cap, cur, rfl, _⟩⟩ := h.own
    · exact ⟨none, 0, by rw [h0]⟩
    · exact ⟨_, cap, rfl⟩
  clear h
  go_enter Try.func46, Try.ntmps46
  go_wp2
  go_ret
  refine ⟨?_, rfl⟩
  show Ending.returned (Value.bool _) = Ending.returned (Value.bool _)
  congr 2
  by_cases hl : l.length = 0
  · simp [hl]
  · simp [hl]
/-- What a push has made. -/
def PushPost (w : World) (Q B : Nat) (v : Value) (l : List Int) (x : Int) (e : Ending) (w' : World) : Prop :=
  e = .returned (.tuple #[]) ∧ ∃ v' l', IQ w' Q B v' l' ∧ Hp l' ∧ l'.length = l.length + 1 ∧ l'.Perm (x :: l) ∧ Chg (QT w Q v) w w' ∧ ∀ k, v'.ownBlock = some k → QT w Q v k
/-- A push under way. -/
structure PW (w wr : World) (v : Value) (Q B g c : Nat) (m l : List Int) (a : Nat) (x : Int) : Prop where
  q : IQ wr Q B (.slice (some ⟨g, 0, none⟩) m.length c) m
  up : Up m a x l
  chg : Chg (QT w Q v) w wr
  gB : B ≤ g
  gT : QT w Q v g
theorem PW.below {w wr w' : World} {v : Value} {Q B g c : Nat} {m l : List Int} {a : Nat} {x : Int} (h : PW w wr v Q B g c m l a x) (hb : Below wr.heap.size wr w') : PW w w' v Q B g c m l a x :=
  ⟨h.q.below hb, h.up, h.chg.trans (Chg.of_below hb), h.gB, h.gT⟩
theorem IQ.put {wr : World} {Q B g c : Nat} {m : List Int} (h : IQ wr Q B (.slice (some ⟨g, 0, none⟩) m.length c) m) (hg : B ≤ g) (a : Nat) (y : Int) :
    IQ (wr.setCell ⟨g, a, none⟩ (.int .i64 y)) Q B (.slice (some ⟨g, 0, none⟩) (m.set a y).length c) (m.set a y) := by
  have hne : g ≠ Q := by have := h.lt; omega
  refine ⟨?_, ?_, h.lt, by simpa [World.setCell] using h.le⟩
  · rw [Below.heap_setCell _ _ _ _ (fun e => hne e.symm), List.length_set]
    exact h.hh
  · rw [List.length_set]
    exact own_set h.own a y
theorem PW.put {w wr : World} {v : Value} {Q B g c : Nat} {m l : List Int} {a a' : Nat} {x y : Int} (h : PW w wr v Q B g c m l a x) (hy : Up (m.set a y) a' x l) :
    PW w (wr.setCell ⟨g, a, none⟩ (.int .i64 y)) v Q B g c (m.set a y) l a' x :=
  ⟨h.q.put h.gB a y, hy, h.chg.setCell (p := ⟨g, a, none⟩) h.gT _, h.gB, h.gT⟩
theorem push_end {w wr : World} {v : Value} {Q B g c : Nat} {m l : List Int} {a : Nat} {x : Int} (h : PW w wr v Q B g c m l a x) (hx : 0 < a → ¬ x < lb m ((a - 1) / 2)) :
    PushPost w Q B v l x (.returned (.tuple #[])) (wr.setCell ⟨g, a, none⟩ (.int .i64 x)) := by
  obtain ⟨h1, h2, h3⟩ := up_end h.up hx
  exact ⟨rfl, _, m.set a x, h.q.put h.gB a x, h1, h2, h3, h.chg.setCell (p := ⟨g, a, none⟩) h.gT _, fun k hk => by simp [Value.ownBlock] at hk; exact hk ▸ h.gT⟩
theorem push_made {w w2 : World} {Q B g cap : Nat} {v : Value} {l : List Int} {x : Int} {o : Obj} (h : IQ w Q B v l) (hp : Hp l)
    (hown : w2.ownsRow B 3 1 (.slice (some ⟨g, 0, none⟩) (l.length + 1) cap) (l.length + 1) (ivs l ++ [.int .i64 x]))
    (hgrow : (w.alloc o).grownBy w2 v.ownBlock) (hat : v.ownBlock = some g ∨ g = w.heap.size + 1) :
    w2.cell? ⟨Q, 0, none⟩ = some v ∧ w2.frozen? ⟨Q, 0, none⟩ = false ∧ PW w (w2.setCell ⟨Q, 0, none⟩ (.slice (some ⟨g, 0, none⟩) (l.length + 1) cap)) v Q B g cap (l ++ [x]) l l.length x := by
  have hQ := lt_of_heap h.hh
  have hvb := h.own_lt
  have hsz : (w.alloc o).heap.size = w.heap.size + 1 := by simp
  have hQ2 : w2.heap[Q]? = some (.cells #[v, fnv 44] 113 (0, 0)) := by
    rw [hgrow.block Q (by rw [hsz]; omega) (fun e => by have := hvb Q e.symm; have := h.lt; omega)]
    exact (Below.heap_alloc _ _ _ hQ).trans h.hh
  have hgB : B ≤ g := by
    rcases hat with e | e
    · exact (hvb g e).1
    · have := h.le; omega
  have hgQ : Q ≠ g := by have := h.lt; omega
  refine ⟨cell_of hQ2 rfl, free_of hQ2 0, ⟨⟨?_, ?_, h.lt, ?_⟩, up_start l x hp, ?_, hgB, by rcases hat with e | e; exact .inr (.inl e); exact .inr (.inr (by omega))⟩⟩
  · rw [heap_set hQ2]; simp
  · rw [List.length_append, List.length_singleton, show ivs (l ++ [x]) = ivs l ++ [.int .i64 x] by simp [ivs]]
    exact own_chg (S := fun k => k = Q) hown ⟨rfl, rfl, rfl, by simp [World.setCell], fun k _ hk => Below.heap_setCell _ _ _ _ hk⟩ (fun k hk => by simp [Value.ownBlock] at hk; omega)
  · have h1 := hgrow.size; rw [hsz] at h1; have := h.le; simp [World.setCell]; omega
  · have c0 : Chg (QT w Q v) w (w.alloc o) := (Chg.refl _ w).alloc _
    exact (c0.grown hgrow (fun k hk => .inl (.inr (.inl hk)))).setCell (p := ⟨Q, 0, none⟩) (.inl rfl) _
theorem one_at (w : World) (a : Value) (t : TypeId) : ∀ j u, [a][j]? = some u → (w.alloc (.cells #[a] t)).cell? ((⟨w.heap.size, 0, none⟩ : Addr).add j) = some u := by
  intro j u hj
  have hh : (w.alloc (.cells #[a] t)).heap[w.heap.size]? = some (.cells #[a] t (0, 0)) := heap_new _ _
  rw [Addr.add_lit, Nat.zero_add]
  exact cell_of hh (by simpa using hj)
theorem Try.info3q : (Try.prog.info? 3).map (fun i => (i.zero, i.size, i.bytes)) = some (some (.int .i64 0), 1, 8) := by kernel_rfl
set_option maxRecDepth 100000 in
set_option maxHeartbeats 8000000 in
theorem push_any (w : World) (Q B : Nat) (v : Value) (l : List Int) (x : Int) (h : IQ w Q B v l) (hp : Hp l) (hl : l.length ≤ 10000000) :
    Calls Try.prog 45 #[.pointer (some ⟨Q, 0, none⟩), .int .i64 x] w (PushPost w Q B v l x) := by
  obtain ⟨i0, hi, hz0, hz1, hz2⟩ := info_parts Try.info3q
  have H := hide h
  have HP := hide hp
  have hQw := lt_of_heap h.hh
  have hle := h.le
  have c0 : w.cell? ⟨Q, 0, none⟩ = some v := cell_of h.hh rfl
  have HOA := hide (own_chg (S := fun _ => False) h.own ((Chg.refl _ w).alloc (.cells #[.int .i64 x] 3)) (fun _ _ h => h))
  clear h hp
  go_enter Try.func45, Try.ntmps45
  go_upto_region 1 with (first
    | (at_builtin; refine wpList_append_lies _ rfl (.tmp 10) (.tmp 12) 25 rfl B 3 i0 (.int .i64 0) 1 8 Try.underlying25 hi hz0 hz1 hz2 rfl (by omega) v l.length (ivs l) rfl HOA.out ⟨w.heap.size, 0, none⟩ 1 1 [.int .i64 x] rfl rfl (one_at w _ _) (by simp [Value.oneCell']) (by omega) (by unfold maxLen; omega) (by omega) (by simp; omega) (w.heap.size + 1) (by simp) ?_; intro g cap w2 hown hgrow hat hlt; obtain ⟨z0, zf, hpw⟩ := push_made (x := x) H.out HP.out hown hgrow hat; have HPW := hide hpw; clear hown hgrow hat hpw)
    | fail)
  have c1 := cell_of HPW.out.q.hh (i := 0) rfl
  have hlen : (l ++ [x]).length = l.length + 1 := by simp
  rw [hlen] at c1
  have hcap : l.length + 1 ≤ cap ∧ cap ≤ 9223372036854775807 := by
    obtain ⟨g', c', he, _, _, h4, h5, _⟩ := own_cells HPW.out.q.own (by simp)
    simp only [Value.slice.injEq] at he
    obtain ⟨_, _, rfl⟩ := he
    rw [hlen] at h4
    exact ⟨h4, h5⟩
  obtain ⟨n, hn⟩ : ∃ n, n = l.length + 1 := ⟨_, rfl⟩
  rw [← hn] at c1 hcap HPW ⊢
  have HN := hide hn
  have HNL : Hid (n ≤ 10000001) := by show _ ≤ _; omega
  have hgB := HPW.out.gB
  clear hlen hn c0 z0 zf HOA hl
  generalize (w2.setCell ⟨Q, 0, none⟩ (.slice (some ⟨g, 0, none⟩) n cap)) = w3 at c1 HPW ⊢
  go_wp2
  go_loopw [4] (fun t wr => ∃ (m : List Int) (a : Nat), t = .int .i64 a ∧ PW w wr v Q B g cap m l a x) (fun t _ => (RowKit.intOf t).toNat)
  case atStart => exact ⟨_, l.length, by have := HN.out; congr 1; omega, HPW.out⟩
  case round =>
    obtain ⟨m, a, rfl, hpw⟩ := hrel
    have HPR := hide hpw
    have hml : m.length = n := by rw [hpw.up.len, HN.out]
    have hal : a < n := by have := hpw.up.lt; omega
    have d0 := cell_of hpw.q.hh (i := 0) rfl
    have d1 := cell_of hpw.q.hh (i := 1) rfl
    rw [hml] at d0
    obtain ⟨g', c', he, _, hgw, _, _, hcl⟩ := own_cells hpw.q.own (by omega)
    simp only [Value.slice.injEq, Option.some.injEq, Addr.mk.injEq, true_and, and_true] at he
    obtain ⟨rfl, rfl⟩ := he
    rw [hml] at hcl
    have HCL := hide hcl
    have hgQ : ¬ g = Q := by have := hpw.q.lt; omega
    have hQr := lt_of_heap hpw.q.hh
    have HML := hide hml
    have hac : (a : Int) < cap := by omega
    clear hpw hcl HPW c1 hml
    rcases Nat.eq_zero_or_pos a with ha0 | ha0
    · subst ha0
      obtain ⟨s0, f0⟩ := HCL.out 0 (by omega)
      have HEND := hide (push_end HPR.out (fun h => absurd h (by omega)))
      go_wp2
      first | go_end0 | refine bodyPost_ret (results_none rfl _ _ _) rfl ?_
      exact HEND.out
    · obtain ⟨p, hp⟩ : ∃ p : Nat, p = (a - 1) / 2 := ⟨_, rfl⟩
      have hpi : ((a : Int) - 1) / 2 = (p : Int) := by omega
      have hpa : p < a := by omega
      obtain ⟨s0, f0⟩ := HCL.out p (by omega)
      obtain ⟨lp, hlp⟩ : ∃ z, z = at_ m p := ⟨_, rfl⟩
      rw [← hlp] at s0
      have z0 : ∀ x : GW wr, x.world.cell? ⟨Q, 0, none⟩ = some (.slice (some ⟨g, 0, none⟩) n cap) := gw_cell d0
      have z1 : ∀ x : GW wr, x.world.cell? ⟨Q, 1, none⟩ = some (fnv 44) := gw_cell d1
      have p0 : ∀ x : GW wr, x.world.cell? ⟨g, p, none⟩ = some (.int .i64 lp) := gw_cell s0
      unfold fnv at z1
      have HAG := hide (fun y : GW wr => gw_same (less_any x lp y.world))
      have hpn : p < n := by omega
      have hpc : (p : Int) < cap := by omega
      have HLP := hide hlp
      have HPP := hide hp
      clear s0 f0 hlp hp
      by_cases hx : x < lp
      · rw [decide_eq_true hx] at HAG
        have HST : Hid (Up (m.set a (at_ m p)) p x l) := by
          have := up_step HPR.out.up ha0 (by unfold lb; rw [← HPP.out, ← HLP.out]; exact hx)
          rw [← HPP.out] at this
          exact this
        have hne : ¬ p = a := by omega
        clear hx
        go_wp2_with fail
        refine wp_region_gw (by kernel_rfl) (by kernel_rfl) ?_
        repeat (go_big_quiet_step (first
          | (go_at_call 44; exact HAG.out _)
          | rfl))
        refine wpQuiet_nil ?_
        intro _ hw'
        obtain ⟨y, hw''⟩ := hw'
        subst hw''
        have t0 := z0 y
        have l0 := p0 y
        have HPY := hide (HPR.out.below y.bel)
        obtain ⟨g'', c'', he, _, _, _, _, hcl⟩ := own_cells HPY.out.q.own (by have := HML.out; omega)
        simp only [Value.slice.injEq, Option.some.injEq, Addr.mk.injEq, true_and, and_true] at he
        obtain ⟨rfl, rfl⟩ := he
        obtain ⟨s0, f0⟩ := hcl a (by have := HML.out; omega)
        clear z0 z1 p0 hcl HAG d0 d1
        go_wp2
        go_region
        all_goals
          go_wp2
          refine ⟨⟨m.set a (at_ m p), p, by rw [show ((a : Int) - 1) / 2 = (p : Int) by have := HPP.out; omega], ?_⟩, by simp [RowKit.intOf]; omega⟩
          have hput := (HPY.out.put HST.out).below (Below.refl _ _).drew
          rw [← HLP.out] at hput
          rw [← HLP.out]
          exact hput
      · rw [decide_eq_false hx] at HAG
        have HNX : Hid (¬ x < lb m ((a - 1) / 2)) := by unfold lb; rw [← HPP.out, ← HLP.out]; exact hx
        clear hx
        go_wp2_with fail
        refine wp_region_gw (by kernel_rfl) (by kernel_rfl) ?_
        repeat (go_big_quiet_step (first
          | (go_at_call 44; exact HAG.out _)
          | rfl))
        refine wpQuiet_nil ?_
        intro _ hw'
        obtain ⟨y, hw''⟩ := hw'
        subst hw''
        have t0 := z0 y
        have l0 := p0 y
        have HPY := hide (HPR.out.below y.bel)
        obtain ⟨g'', c'', he, _, _, _, _, hcl⟩ := own_cells HPY.out.q.own (by have := HML.out; omega)
        simp only [Value.slice.injEq, Option.some.injEq, Addr.mk.injEq, true_and, and_true] at he
        obtain ⟨rfl, rfl⟩ := he
        obtain ⟨s0, f0⟩ := hcl a (by have := HML.out; omega)
        clear z0 z1 p0 hcl HAG d0 d1
        have HEND := hide (push_end HPY.out (fun _ => by have := HNX.out; omega))
        go_wp2
        first | go_end0 | refine bodyPost_ret (results_none rfl _ _ _) rfl ?_
        exact HEND.out
end Go.Proofs.Ytiohimbifjlfdaa
