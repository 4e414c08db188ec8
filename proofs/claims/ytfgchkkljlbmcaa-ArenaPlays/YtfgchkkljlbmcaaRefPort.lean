/- The reference's Port. -/
import Derived.Test.YtfgchkkljlbmcaaRefDo
namespace Go.Proofs.Ytfgchkkljlbmcaa
open Go.RowKit Go.Lib Go.MuLone

theorem Try.info3 : (Try.prog.info? 3).map (fun i => (i.zero, i.size, i.bytes)) = some (some (.int .i64 0), 1, 8) := by kernel_rfl
theorem Try.info4 : (Try.prog.info? 4).map (fun i => (i.zero, i.size, i.bytes)) = some (some (.bool false), 1, 1) := by kernel_rfl

theorem refPort_bad (q : Nat) (who : Int) (w : World) (hw : who < 0) :
    Calls Try.prog 63 #[.pointer (some ⟨q, 0, none⟩), .int .i64 who] w fun r w' => r = .returned (.tuple #[.int .i64 0, .int .i64 12]) ∧ w' = w := by
  go_enter Try.func63, Try.ntmps63
  go_wp2
  go_ret2
  exact ⟨rfl, rfl⟩

/-- Behind the first append and its store. -/
theorem port_first {w w2 : World} {Z q b : Nat} {wv hv v' : Value} {whos : List Int} {has : List Bool} {who : Int} {o : Obj} (hQ : QIs w Z q b wv hv whos has)
    (hown : w2.ownsRow Z 3 1 v' (whos.length + 1) (whos.map (Value.int .i64) ++ [.int .i64 who])) (hgrow : (w.alloc o).grownBy w2 wv.ownBlock) (u : Value) :
    w2.heap[q]? = some (.cells #[.pointer (some ⟨b, 0, none⟩), wv, hv] 103 (0, 0)) ∧ (w2.setCell ⟨q, 1, none⟩ u).heap[q]? = some (.cells #[.pointer (some ⟨b, 0, none⟩), u, hv] 103 (0, 0)) ∧
    (w2.setCell ⟨q, 1, none⟩ u).ownsRow Z 3 1 v' (whos ++ [who]).length ((whos ++ [who]).map (Value.int .i64)) ∧ (w2.setCell ⟨q, 1, none⟩ u).ownsRow Z 4 1 hv has.length (has.map Value.bool) ∧
    Chg (fun j => j = q ∨ wv.ownBlock = some j) w (w2.setCell ⟨q, 1, none⟩ u) := by
  have k : Chg (fun j => j = q ∨ wv.ownBlock = some j) w w2 := ((Chg.refl _ w).alloc o).grown hgrow (fun j hj => .inl (.inr hj))
  have hne : ∀ j, hv.ownBlock = some j → wv.ownBlock ≠ some j := by
    intro j hj e
    obtain ⟨c1, h1⟩ := own_type hQ.hh hj
    obtain ⟨c2, h2⟩ := own_type hQ.hw e
    exact ne_of_type h1 h2 (by decide) rfl
  have hqo : ∀ {e : TypeId} {v : Value} {n : Nat} {l : List Value} {x : World}, x.ownsRow Z e 1 v n l → ∀ j, v.ownBlock = some j → j ≠ q := fun h j hj => by
    have := (owns_lt h hj).1
    have := hQ.qY
    omega
  have q2 : w2.heap[q]? = some (.cells #[.pointer (some ⟨b, 0, none⟩), wv, hv] 103 (0, 0)) := by
    rw [hgrow.block q (by have := lt_of_heap hQ.hq; simp; omega) (fun e => hqo hQ.hw q e.symm rfl)]
    exact heap_old hQ.hq o
  refine ⟨q2, ?_, ?_, ?_, k.setCell (p := ⟨q, 1, none⟩) (.inl rfl) u⟩
  · rw [heap_set q2]
    simp
  · rw [List.length_append, List.map_append]
    exact ownsRow_block hown (fun j hj => Below.heap_setCell _ _ _ _ (hqo hown j hj))
  · refine ownsRow_block hQ.hh (fun j hj => ?_)
    rw [Below.heap_setCell _ _ _ _ (hqo hQ.hh j hj)]
    exact k.block j (owns_lt hQ.hh hj).2 (fun e => by rcases e with e | e; exact hqo hQ.hh j hj e; exact hne j hj e)

/-- Behind the second append and its store. -/
theorem port_last {x w3 : World} {Z q b : Nat} {wv hv v' : Value} {whos : List Int} {has : List Bool} {who : Int} {o : Obj} (qY : q < Z) (le : whos.length = has.length)
    (hq : x.heap[q]? = some (.cells #[.pointer (some ⟨b, 0, none⟩), wv, hv] 103 (0, 0))) (hw : x.ownsRow Z 3 1 wv (whos ++ [who]).length ((whos ++ [who]).map (Value.int .i64))) (hh : x.ownsRow Z 4 1 hv has.length (has.map Value.bool))
    (hown : w3.ownsRow Z 4 1 v' (has.length + 1) (has.map Value.bool ++ [.bool false])) (hgrow : (x.alloc o).grownBy w3 hv.ownBlock) (u : Value) (hu : u = v') :
    w3.heap[q]? = some (.cells #[.pointer (some ⟨b, 0, none⟩), wv, hv] 103 (0, 0)) ∧ QIs (w3.setCell ⟨q, 2, none⟩ u) Z q b wv u (whos ++ [who]) (has ++ [false]) ∧ Chg (fun j => j = q ∨ hv.ownBlock = some j) x (w3.setCell ⟨q, 2, none⟩ u) := by
  subst hu
  have k : Chg (fun j => j = q ∨ hv.ownBlock = some j) x w3 := ((Chg.refl _ x).alloc o).grown hgrow (fun j hj => .inl (.inr hj))
  have hne : ∀ j, wv.ownBlock = some j → hv.ownBlock ≠ some j := by
    intro j hj e
    obtain ⟨c1, h1⟩ := own_type hw hj
    obtain ⟨c2, h2⟩ := own_type hh e
    exact ne_of_type h1 h2 (by decide) rfl
  have hqo : ∀ {e : TypeId} {v : Value} {n : Nat} {l : List Value} {x : World}, x.ownsRow Z e 1 v n l → ∀ j, v.ownBlock = some j → j ≠ q := fun h j hj => by
    have := (owns_lt h hj).1
    omega
  have q3 : w3.heap[q]? = some (.cells #[.pointer (some ⟨b, 0, none⟩), wv, hv] 103 (0, 0)) := by
    rw [hgrow.block q (by have := lt_of_heap hq; simp; omega) (fun e => hqo hh q e.symm rfl)]
    exact heap_old hq o
  refine ⟨q3, ⟨?_, ?_, ?_, by simpa using le, qY⟩, k.setCell (p := ⟨q, 2, none⟩) (.inl rfl) u⟩
  · rw [heap_set q3]
    simp
  · refine ownsRow_block hw (fun j hj => ?_)
    rw [Below.heap_setCell _ _ _ _ (hqo hw j hj)]
    exact k.block j (owns_lt hw hj).2 (fun e => by rcases e with e | e; exact hqo hw j hj e; exact hne j hj e)
  · rw [List.length_append, List.map_append]
    exact ownsRow_block hown (fun j hj => Below.heap_setCell _ _ _ _ (hqo hown j hj))

set_option maxRecDepth 100000 in
set_option maxHeartbeats 1000000 in
theorem refPort_in (Z q b : Nat) (wv hv : Value) (whos : List Int) (has : List Bool) (who : Int) (w : World) (hQ : QIs w Z q b wv hv whos has) (hw : 0 ≤ who) (hZ : Z ≤ w.heap.size) (hn : (whos.length + 1) * 8 ≤ 140737488355328) :
    Calls Try.prog 63 #[.pointer (some ⟨q, 0, none⟩), .int .i64 who] w fun r w' => r = .returned (.tuple #[.int .i64 whos.length, .int .i64 0]) ∧
      ∃ wv' hv', QIs w' Z q b wv' hv' (whos ++ [who]) (has ++ [false]) ∧ Chg (fun j => j = q ∨ wv.ownBlock = some j ∨ hv.ownBlock = some j) w w' := by
  obtain ⟨i3, hi3, hx0, hx1, hx2⟩ := info_parts Try.info3
  obtain ⟨i4, hi4, hz0, hz1, hz2⟩ := info_parts Try.info4
  have d1 : w.cell? ⟨q, 1, none⟩ = some wv := cell_of hQ.hq rfl
  have d2 : w.cell? ⟨q, 2, none⟩ = some hv := cell_of hQ.hq rfl
  have hql := lt_of_heap hQ.hq
  have HQ := hide hQ
  clear hQ
  go_enter Try.func63, Try.ntmps63
  go_wp2_with (at_builtin; refine wpList_append_own _ rfl _ _ 64 rfl Z 3 i3 (.int .i64 0) 1 8 Try.underlying64 hi3 hx0 hx1 hx2 rfl (by decide) _ _ _ rfl (HQ.out.hw.alloc _) ⟨w.heap.size, 0, none⟩ 1 1 [.int .i64 who] rfl rfl ?c1 ?c2 ?c3 ?c4 ?c5 ?_)
  case c1 =>
    intro j u hj
    match j, hj with
    | 0, hj => simp at hj; subst hj; simp [Addr.add]
  case c2 => intro u hu; simp at hu; subst hu; rfl
  case c3 => unfold maxLen; omega
  case c4 => omega
  case c5 => simp; omega
  intro v' w2 hown hgrow _
  obtain ⟨ao, cc, rfl⟩ := owns_shape hown
  have F := hide (port_first HQ.out hown hgrow (.slice ao (whos.length + 1) cc))
  have q2 := F.out.1
  have e0 : w2.cell? ⟨q, 0, none⟩ = some (.pointer (some ⟨b, 0, none⟩)) := cell_of q2 rfl
  have e1 : w2.cell? ⟨q, 1, none⟩ = some wv := cell_of q2 rfl
  have e2 : w2.cell? ⟨q, 2, none⟩ = some hv := cell_of q2 rfl
  have f1 := free_of q2 1
  have f2 := free_of q2 2
  have hql2 := lt_of_heap q2
  have hZ2 : Z ≤ w2.heap.size := by have := F.out.2.2.2.2.size; simp [World.setCell] at this; omega
  have HLE := hide HQ.out.le
  clear hown hgrow q2 d1 d2
  go_wp2_with (at_builtin; refine wpList_append_own _ rfl _ _ 101 rfl Z 4 i4 (.bool false) 1 1 Try.underlying101 hi4 hz0 hz1 hz2 rfl (by decide) _ _ _ rfl (F.out.2.2.2.1.alloc _) ⟨w2.heap.size, 0, none⟩ 1 1 [.bool false] rfl rfl ?c1 ?c2 ?c3 ?c4 ?c5 ?_)
  case c1 =>
    intro j u hj
    match j, hj with
    | 0, hj => simp at hj; subst hj; exact cell_of (heap_at _ _ (by simp [World.setCell])) rfl
  case c2 => intro u hu; simp at hu; subst hu; rfl
  case c3 => have := HLE.out; unfold maxLen; omega
  case c4 => have := HLE.out; omega
  case c5 => simp [World.setCell]; omega
  intro v2 w3 hown hgrow _
  obtain ⟨ao2, cc2, rfl⟩ := owns_shape hown
  obtain ⟨G1, G2, G3, G4, G5⟩ := F.out
  have L := hide (port_last HQ.out.qY HQ.out.le G2 G3 G4 hown hgrow (.slice ao2 (has.length + 1) cc2) rfl)
  have q3 := L.out.1
  have e3 : w3.cell? ⟨q, 1, none⟩ = some (.slice ao (whos.length + 1) cc) := cell_of q3 rfl
  have e4 : w3.cell? ⟨q, 2, none⟩ = some hv := cell_of q3 rfl
  have f3 := free_of q3 2
  have hql3 := lt_of_heap q3
  have G5' := hide G5
  clear hown hgrow q3 G1 G2 G3 G4 G5 e0 e1 e2 f1 f2
  go_wp2_with fail
  go_ret2
  refine ⟨?_, _, _, L.out.2.1, ?_⟩
  · simp
  · refine (G5'.out.mono (fun j h => ?_)).trans (L.out.2.2.mono (fun j h => ?_))
    · rcases h with h | h
      · exact .inl h
      · exact .inr (.inl h)
    · rcases h with h | h
      · exact .inl h
      · exact .inr (.inr h)
end Go.Proofs.Ytfgchkkljlbmcaa
