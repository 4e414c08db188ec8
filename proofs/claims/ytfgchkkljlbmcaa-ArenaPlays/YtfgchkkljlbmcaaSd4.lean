/- A new port on both sides. -/
import Derived.Test.YtfgchkkljlbmcaaSd1
import Derived.Deep.AppendLies
namespace Go.Proofs.Ytfgchkkljlbmcaa
open Go.RowKit Go.Lib Go.MuLone
set_option linter.unusedVariables false
set_option linter.unusedSimpArgs false
theorem who_any (p b : Nat) (who : Int) (g : Bool) (w : World) (h : w.heap[p]? = some (PObj b who g)) : Calls Try.prog 64 #[.pointer (some ⟨p, 0, none⟩)] w fun e w' => e = .returned (.int .i64 who) ∧ w' = w := by
  have c1 : w.cell? ⟨p, 1, none⟩ = some (.int .i64 who) := cell_of h rfl
  have HL := hide (leads_any p b who g w h)
  clear h
  go_enter Try.func64, Try.ntmps64
  go_wp2_with fail
  refine HL.out.mono ?_
  rintro e w' ⟨rfl, rfl⟩
  go_wp2_with fail
  go_ret
  exact ⟨rfl, rfl⟩
def NewOwn (v v' : Value) (w : World) : Prop := v'.ownBlock = v.ownBlock ∨ ∃ g, v'.ownBlock = some g ∧ w.heap.size ≤ g
set_option maxRecDepth 100000 in
set_option maxHeartbeats 1000000 in
theorem refPort_lies (Z q b : Nat) (wv hv : Value) (whos : List Int) (has : List Bool) (who : Int) (w : World) (hQ : QIs w Z q b wv hv whos has) (hw : 0 ≤ who) (hZ : Z ≤ w.heap.size) (hn : (whos.length + 1) * 8 ≤ 140737488355328) :
    Calls Try.prog 63 #[.pointer (some ⟨q, 0, none⟩), .int .i64 who] w fun r w' => r = .returned (.tuple #[.int .i64 whos.length, .int .i64 0]) ∧
      ∃ wv' hv', QIs w' Z q b wv' hv' (whos ++ [who]) (has ++ [false]) ∧ NewOwn wv wv' w ∧ NewOwn hv hv' w ∧ Chg (fun j => j = q ∨ wv.ownBlock = some j ∨ hv.ownBlock = some j) w w' := by
  obtain ⟨i3, hi3, hx0, hx1, hx2⟩ := info_parts Try.info3
  obtain ⟨i4, hi4, hz0, hz1, hz2⟩ := info_parts Try.info4
  have d1 : w.cell? ⟨q, 1, none⟩ = some wv := cell_of hQ.hq rfl
  have d2 : w.cell? ⟨q, 2, none⟩ = some hv := cell_of hQ.hq rfl
  have hql := lt_of_heap hQ.hq
  have HQ := hide hQ
  clear hQ
  go_enter Try.func63, Try.ntmps63
  go_wp2_with (at_builtin; refine wpList_append_lies _ rfl _ _ 64 rfl Z 3 i3 (.int .i64 0) 1 8 Try.underlying64 hi3 hx0 hx1 hx2 rfl (by decide) _ _ _ rfl (HQ.out.hw.alloc _) ⟨w.heap.size, 0, none⟩ 1 1 [.int .i64 who] rfl rfl ?c1 ?c2 (by decide) ?c3 ?c4 ?c5 (w.heap.size + 1) (by simp) ?_)
  case c1 =>
    intro j u hj
    match j, hj with
    | 0, hj => simp at hj; subst hj; simp [Addr.add]
  case c2 => intro u hu; simp at hu; subst hu; rfl
  case c3 => unfold maxLen; omega
  case c4 => omega
  case c5 => simp; omega
  intro g1 cc w2 hown hgrow hat1 hlt1
  have HAT1 := hide hat1
  have F := hide (port_first HQ.out hown hgrow (.slice (some ⟨g1, 0, none⟩) (whos.length + 1) cc))
  have q2 := F.out.1
  have e0 : w2.cell? ⟨q, 0, none⟩ = some (.pointer (some ⟨b, 0, none⟩)) := cell_of q2 rfl
  have e1 : w2.cell? ⟨q, 1, none⟩ = some wv := cell_of q2 rfl
  have e2 : w2.cell? ⟨q, 2, none⟩ = some hv := cell_of q2 rfl
  have f1 := free_of q2 1
  have f2 := free_of q2 2
  have hql2 := lt_of_heap q2
  have hZ2 : Z ≤ w2.heap.size := by have := F.out.2.2.2.2.size; simp [World.setCell] at this; omega
  have hws : w.heap.size ≤ w2.heap.size := by have := F.out.2.2.2.2.size; simp [World.setCell] at this; omega
  have HWS := hide hws
  have HLE := hide HQ.out.le
  clear hown hgrow q2 d1 d2 hat1 hlt1 hws
  go_wp2_with (at_builtin; refine wpList_append_lies _ rfl _ _ 101 rfl Z 4 i4 (.bool false) 1 1 Try.underlying101 hi4 hz0 hz1 hz2 rfl (by decide) _ _ _ rfl (F.out.2.2.2.1.alloc _) ⟨w2.heap.size, 0, none⟩ 1 1 [.bool false] rfl rfl ?c1 ?c2 (by decide) ?c3 ?c4 ?c5 (w2.heap.size + 1) (by simp [World.setCell]) ?_)
  case c1 =>
    intro j u hj
    match j, hj with
    | 0, hj => simp at hj; subst hj; exact cell_of (heap_at _ _ (by simp [World.setCell])) rfl
  case c2 => intro u hu; simp at hu; subst hu; rfl
  case c3 => have := HLE.out; unfold maxLen; omega
  case c4 => have := HLE.out; omega
  case c5 => simp [World.setCell]; omega
  intro g2 cc2 w3 hown hgrow hat2 hlt2
  have HAT2 := hide hat2
  obtain ⟨G1, G2, G3, G4, G5⟩ := F.out
  have L := hide (port_last HQ.out.qY HQ.out.le G2 G3 G4 hown hgrow (.slice (some ⟨g2, 0, none⟩) (has.length + 1) cc2) rfl)
  have q3 := L.out.1
  have e3 : w3.cell? ⟨q, 1, none⟩ = some (.slice (some ⟨g1, 0, none⟩) (whos.length + 1) cc) := cell_of q3 rfl
  have e4 : w3.cell? ⟨q, 2, none⟩ = some hv := cell_of q3 rfl
  have f3 := free_of q3 2
  have hql3 := lt_of_heap q3
  have G5' := hide G5
  clear hown hgrow q3 G1 G2 G3 G4 G5 e0 e1 e2 f1 f2 hat2 hlt2
  go_wp2_with fail
  go_ret2
  refine ⟨?_, _, _, L.out.2.1, ?_, ?_, ?_⟩
  · simp
  · rcases HAT1.out with e | e
    · exact .inl e.symm
    · exact .inr ⟨g1, rfl, by omega⟩
  · rcases HAT2.out with e | e
    · exact .inl e.symm
    · exact .inr ⟨g2, rfl, by have := HWS.out; omega⟩
  · refine (G5'.out.mono (fun j h => ?_)).trans (L.out.2.2.mono (fun j h => ?_))
    · rcases h with h | h
      · exact .inl h
      · exact .inr (.inl h)
    · rcases h with h | h
      · exact .inl h
      · exact .inr (.inr h)
variable {w : World} {F : Nat → Prop} {x b gc q rb rgc Y : Nat} {lv rlv pv wv hv : Value} {s : Ast} {ps : List Nat} {whos : List Int} {gs : List Bool}
/-- The new port is there on both sides, and in the row. -/
theorem Sd.port {w2 w3 : World} {o : Obj} {np cap : Nat} {wv' hv' : Value} {who : Int} {g3 : Nat} (h : Sd w F x b gc q rb rgc Y lv rlv pv wv hv s s ps whos gs gs) (hnp : w.heap[np]? = some (PObj b who false)) (hnew : np ∉ ps) (hfn : F np)
    (hQ : QIs w2 Y q rb wv' hv' (whos ++ [who]) (gs ++ [false])) (hw1 : NewOwn wv wv' w) (hh1 : NewOwn hv hv' w) (hk : Chg (fun j => j = q ∨ wv.ownBlock = some j ∨ hv.ownBlock = some j) w w2)
    (hown : w3.ownsRow Y 48 1 (.slice (some ⟨g3, 0, none⟩) (ps.length + 1) cap) (ps.length + 1) (ptrs ps ++ [.pointer (some ⟨np, 0, none⟩)])) (hgrow : (w2.alloc o).grownBy w3 pv.ownBlock) (hat : pv.ownBlock = some g3 ∨ g3 = w2.heap.size + 1) :
    Sd (w3.setCell ⟨x, 1, none⟩ (.slice (some ⟨g3, 0, none⟩) (ps.length + 1) cap)) (nxF F w (w3.setCell ⟨x, 1, none⟩ (.slice (some ⟨g3, 0, none⟩) (ps.length + 1) cap))) x b gc q rb rgc Y lv rlv (.slice (some ⟨g3, 0, none⟩) (ps.length + 1) cap) wv' hv' s s (ps ++ [np]) (whos ++ [who]) (gs ++ [false]) (gs ++ [false]) ∧
    Chg (fun j => j = x ∨ j = q ∨ wv.ownBlock = some j ∨ hv.ownBlock = some j ∨ pv.ownBlock = some j) w (w3.setCell ⟨x, 1, none⟩ (.slice (some ⟨g3, 0, none⟩) (ps.length + 1) cap)) := by
  have k3 : Chg (fun j => j = x ∨ j = q ∨ wv.ownBlock = some j ∨ hv.ownBlock = some j ∨ pv.ownBlock = some j) w w3 :=
    ((hk.mono (fun j e => by rcases e with e | e | e; exact .inr (.inl e); exact .inr (.inr (.inl e)); exact .inr (.inr (.inr (.inl e))))).alloc o).grown hgrow (fun j e => .inl (.inr (.inr (.inr (.inr e)))))
  have k4 := k3.setCell (p := ⟨x, 1, none⟩) (.inl rfl) (.slice (some ⟨g3, 0, none⟩) (ps.length + 1) cap)
  generalize hz : w3.setCell ⟨x, 1, none⟩ (.slice (some ⟨g3, 0, none⟩) (ps.length + 1) cap) = z at k4 ⊢
  refine ⟨?_, k4⟩
  have no : ∀ {i : Nat} {t : TypeId}, TyAt w i t → t ≠ 105 → t ≠ 103 → t ≠ 3 → t ≠ 4 → t ≠ 48 → ¬ (i = x ∨ i = q ∨ wv.ownBlock = some i ∨ hv.ownBlock = some i ∨ pv.ownBlock = some i) := fun ht h1 h2 h3 h4 h5 e => by
    rcases e with e | e | e | e | e
    · exact ht.ne h.tx h1 e
    · exact ht.ne h.tq h2 e
    · exact ht.ne (h.twv e) h3 rfl
    · exact ht.ne (h.thv e) h4 rfl
    · exact ht.ne (h.tpv e) h5 rfl
  -- from w2 on only the row and the side
  have kz : Chg (fun j => j = x ∨ pv.ownBlock = some j) w2 z := by
    rw [← hz]
    exact (((Chg.refl (fun j => j = x ∨ pv.ownBlock = some j) w2).alloc o).grown hgrow (fun j e => .inl (.inr e))).setCell (p := ⟨x, 1, none⟩) (.inl rfl) _
  have pv2 : ∀ j, pv.ownBlock = some j → TyAt w2 j 48 := fun j e => by
    obtain ⟨cs, fr, hc⟩ := h.tpv e
    refine ⟨cs, fr, hk.heap hc (fun e2 => ?_)⟩
    rcases e2 with e2 | e2 | e2
    · exact (h.tpv e).ne h.tq (by decide) e2
    · exact (h.tpv e).ne (h.twv e2) (by decide) rfl
    · exact (h.tpv e).ne (h.thv e2) (by decide) rfl
  have x2 : w2.heap[x]? = some (.cells #[.pointer (some ⟨b, 0, none⟩), pv, .pointer (some ⟨q, 0, none⟩)] 105 (0, 0)) := hk.heap h.sb (fun e2 => by
    rcases e2 with e2 | e2 | e2
    · exact h.tx.ne h.tq (by decide) e2
    · exact h.tx.ne (h.twv e2) (by decide) rfl
    · exact h.tx.ne (h.thv e2) (by decide) rfl)
  have x3 : w3.heap[x]? = some (.cells #[.pointer (some ⟨b, 0, none⟩), pv, .pointer (some ⟨q, 0, none⟩)] 105 (0, 0)) := by
    rw [hgrow.block x (by have := lt_of_heap x2; simp; omega) (fun e => by
      obtain ⟨cs, fr, hc⟩ := pv2 x e.symm
      exact ne_of_type x2 hc (by decide) rfl)]
    exact heap_old x2 o
  have no2 : ∀ {i : Nat} {t : TypeId}, TyAt w2 i t → t ≠ 105 → t ≠ 48 → ¬ (i = x ∨ pv.ownBlock = some i) := fun ht h1 h2 e => by
    rcases e with e | e
    · exact ht.ne ⟨_, _, x2⟩ h1 e
    · exact ht.ne (pv2 _ e) h2 rfl
  have size1 := hk.size
  have size2 : w2.heap.size ≤ z.heap.size := kz.size
  have g3x : g3 ≠ x := by
    rcases hat with e | e
    · obtain ⟨cs, fr, hc⟩ := pv2 g3 e
      exact fun e2 => ne_of_type x2 hc (by decide) e2.symm
    · have := lt_of_heap x2
      omega
  have rowz : z.ownsRow Y 48 1 (.slice (some ⟨g3, 0, none⟩) (ps.length + 1) cap) (ps ++ [np]).length (ptrs (ps ++ [np])) := by
    have e1 : ptrs (ps ++ [np]) = ptrs ps ++ [.pointer (some ⟨np, 0, none⟩)] := by simp [ptrs]
    rw [e1, List.length_append]
    refine ownsRow_block hown (fun j hj => ?_)
    rw [← hz]
    exact Below.heap_setCell _ _ _ _ (fun e => by cases hj; exact g3x e)
  refine ⟨?_, h.ar.kept k4 (no h.tb (by decide) (by decide) (by decide) (by decide) (by decide)) (no h.tgc (by decide) (by decide) (by decide) (by decide) (by decide)) (fun i hi => no (h.tlv hi) (by decide) (by decide) (by decide) (by decide) (by decide)),
    h.re.kept k4 (no h.trb (by decide) (by decide) (by decide) (by decide) (by decide)) (no h.trg (by decide) (by decide) (by decide) (by decide) (by decide)) (fun i hi => no (h.trl hi) (by decide) (by decide) (by decide) (by decide) (by decide)),
    hQ.kept kz (no2 ⟨_, _, hQ.hq⟩ (by decide) (by decide)) (fun i hi => no2 (own_ty hQ.hw hi) (by decide) (by decide)) (fun i hi => no2 (own_ty hQ.hh hi) (by decide) (by decide)), rowz, ?_, ?_, by simp [h.le], by simp [h.lg], h.cne, h.lne,
    .inl h.fx, .inl h.fb, .inl h.fgc, .inl h.fq, .inl h.frb, .inl h.frg, fun j e => .inl (h.flv j e), fun j e => .inl (h.frl j e), ?_, ?_, ?_, ?_, fun i hi => hi.elim (fun hi => Nat.lt_of_lt_of_le (h.fl i hi) k4.size) (·.2)⟩
  · rw [← hz, heap_set x3]; rfl
  · intro i p' who' g' hi hw' hg'
    have hle := h.le
    have hlg := h.lg
    by_cases hil : i < ps.length
    · rw [List.getElem?_append_left hil] at hi
      rw [List.getElem?_append_left (by omega)] at hw' hg'
      exact k4.heap (h.po i p' who' g' hi hw' hg') (no (h.tp hi) (by decide) (by decide) (by decide) (by decide) (by decide))
    · have hil2 : i < (ps ++ [np]).length := (List.getElem?_eq_some_iff.1 hi).1
      simp at hil2
      obtain rfl : i = ps.length := by omega
      rw [List.getElem?_append_right (Nat.le_refl _)] at hi
      rw [List.getElem?_append_right (by omega)] at hw' hg'
      simp [hle] at hw'
      simp [hle, hlg] at hg'
      simp at hi
      subst hi
      subst hw'
      subst hg'
      exact k4.heap hnp (no ⟨_, _, hnp⟩ (by decide) (by decide) (by decide) (by decide) (by decide))
  · rw [List.nodup_append]
    exact ⟨h.pn, by simp, fun a ha b hb => by simp at hb; subst hb; exact fun e => hnew (e ▸ ha)⟩
  · intro j e
    cases e
    have hlt := (owns_lt rowz rfl).2
    rcases hat with e | e
    · exact .inl (h.fpv _ e)
    · exact .inr ⟨by show w.heap.size ≤ g3; omega, hlt⟩
  · intro j e
    have hlt := Nat.lt_of_lt_of_le (owns_lt hQ.hw e).2 size2
    rcases hw1 with e2 | ⟨g, e2, hg⟩
    · rw [e2] at e; exact .inl (h.fwv _ e)
    · rw [e2] at e; cases e; exact .inr ⟨hg, hlt⟩
  · intro j e
    have hlt := Nat.lt_of_lt_of_le (owns_lt hQ.hh e).2 size2
    rcases hh1 with e2 | ⟨g, e2, hg⟩
    · rw [e2] at e; exact .inl (h.fhv _ e)
    · rw [e2] at e; cases e; exact .inr ⟨hg, hlt⟩
  · intro p hp
    rw [List.mem_append, List.mem_singleton] at hp
    rcases hp with hp | rfl
    · exact .inl (h.fps p hp)
    · exact .inl hfn
end Go.Proofs.Ytfgchkkljlbmcaa
