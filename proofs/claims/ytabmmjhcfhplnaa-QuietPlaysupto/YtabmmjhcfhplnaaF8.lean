/- QuietPlays: the walk. -/
import Derived.Test.YtabmmjhcfhplnaaF7
import Derived.Deep.Cut
import Derived.Deep.AppendLies
import Derived.BigQuiet
import Derived.Laws.CopyRow
import Derived.Laws.CopyOwn
namespace Go.Proofs.Ytabmmjhcfhplnaa
open Go.RowKit Go.Lib Go.MuLone
set_option linter.unusedVariables false
set_option linter.unusedSimpArgs false
theorem pfield71 (st : Int) (w : World) : (Instr.field 71 (.agg #[.int .i64 st, .slice none 0 0]) 0).run Try.prog w = .ok (.int .i64 st) w := by kernel_rfl
theorem size27 : (Try.prog.info? 27).map (·.size) = some 1 := by kernel_rfl
theorem copy_words {w : World} {rc G N : Nat} {ys xs : List Int} (h : w.heap[rc]? = some (wordsObj ys)) (hs : w.heap[G]? = some (wordsObj xs)) (hy : ys.length = N) (hx : xs.length = N) :
    (Builtin.copy_ #[28, 28] 3 #[.slice (some ⟨rc, 0, none⟩) N N, .slice (some ⟨G, 0, none⟩) N N]).run Try.prog w = .ok (goInt N) (w.setRow rc (xs.map (Value.int .u64)).toArray) := by
  have := run_copy_row Try.prog w 28 28 3 27 rc 0 N N ⟨G, 0, none⟩ N N (ys.map (Value.int .u64)).toArray 27 (xs.map (Value.int .u64)) Try.underlying28 size27 h (by simp [hx]) (fun j v hj => ?_) (by simp [hx, hy]) (fun v hv => by simp at hv; obtain ⟨a, _, rfl⟩ := hv; rfl)
  · rw [this]
    have hd : List.drop N (ys.map (Value.int .u64)) = [] := List.drop_eq_nil_of_le (by simp [hy])
    simp [hx, hy, hd]
  · have hjl : j < xs.length := by have := (List.getElem?_eq_some_iff.1 hj).1; simpa using this
    rw [Addr.add_lit, Nat.zero_add, words_cell hs j hjl, ← hj]
    simp [nth, List.getD, hjl]
/-- The cells at the start. -/
def xs3 (t : Nat) (p d f : Int) : List Int := (((List.replicate (t + 3) (0 : Int)).set t p).set (t + 1) d).set (t + 2) f
theorem xs3_len (t : Nat) (p d f : Int) : (xs3 t p d f).length = t + 3 := by simp [xs3]
theorem uat_words {w : World} {G N : Nat} {xs : List Int} (h : w.heap[G]? = some (wordsObj xs)) (hx : xs.length = N) : UAt w w.heap.size (.slice (some ⟨G, 0, none⟩) N N) xs := by
  subst hx
  exact ⟨G, 0, xs.length, rfl, Nat.le_refl _, lt_of_heap h, fun i hi => by rw [Nat.zero_add]; exact words_cell h i hi⟩
/-- The document's arena behind the copy. -/
theorem ris_copied {w : World} {Y rb rc N : Nat} {xs : List Int} (h : RIs w Y rb rc (.slice none 0 0) (Ast.new N true)) (hx : xs.length = N) : RIs (w.setRow rc (xs.map (Value.int .u64)).toArray) Y rb rc (.slice none 0 0) (Ast.laid xs) := by
  have hl : (Ast.new N true).cells.length = N := by simp [Ast.new]
  refine ⟨?_, ?_, nil_owns, h.bY, h.gY, h.ne, by show xs.length ≤ _; have := h.len; rw [hl] at this; omega, by rw [size_setRow]; exact h.yw⟩
  · rw [setRow_other _ _ _ _ h.ne, h.hb]
    unfold RObj
    rw [hl]
    show _ = some (Obj.cells #[.slice (some ⟨rc, 0, none⟩) xs.length xs.length, _, _, _, _, _, _, _] 62 (0, 0))
    rw [hx]
    rfl
  · rw [setRow_heap _ _ _ _ _ _ h.hc]
    rfl
theorem p2_start {w0 w2 w3 : World} {B N : Nat} {xs : List Int} {base : Int} (hx : xs.length = N) (ha : AIs w2 (B + 2) (B + 1) B (.slice none 0 0) (Ast.laid xs)) (hb : Below w0.heap.size w0 w2) (hB : w0.heap.size ≤ B)
    (hr : RIs w3 (w2.heap.size + 2) (w2.heap.size + 1) w2.heap.size (.slice none 0 0) (Ast.new N true)) (hb3 : Below w2.heap.size w2 w3) :
    P2 w0 (w3.setRow w2.heap.size (xs.map (Value.int .u64)).toArray) w3.heap.size (B + 1) B (w2.heap.size + 1) w2.heap.size xs base (.slice none 0 0) (.slice none 0 0) [] [] [] [] := by
  have hy := ha.yw
  have hs3 := hb3.size
  have hry := hr.yw
  have hb1 : Below w2.heap.size w2 (w3.setRow w2.heap.size (xs.map (Value.int .u64)).toArray) := below_setRow hb3 (Nat.le_refl _) _
  have h0 := hb.size
  refine ⟨(ha.below hb1).rise (by omega) (by rw [size_setRow]; exact Nat.le_refl _), (ris_copied hr hx).rise hry (by rw [size_setRow]; exact Nat.le_refl _), by omega, nil_owns, nil_owns, rfl, rfl, fun k hk => by simp at hk, fun k hk => by simp at hk, fun i j _ hj => by simp at hj, fun i j _ hj => by simp at hj, fun k hk => by simp at hk, fun k hk => by simp at hk, below_on hb hb1, by omega, by omega, hB, by omega, by omega⟩
theorem Try.pinfo30 : (Try.prog.info? 30).map (fun i => (i.zero, i.size, i.bytes)) = some (some (.pointer none), 1, 8) := by kernel_rfl
theorem Try.pinfo64 : (Try.prog.info? 64).map (fun i => (i.zero, i.size, i.bytes)) = some (some (.pointer none), 1, 8) := by kernel_rfl
theorem pinfo_parts {o : Option TypeInfo} {a : Option Value} {b c : Nat} (h : o.map (fun i => (i.zero, i.size, i.bytes)) = some (a, b, c)) : ∃ i, o = some i ∧ i.zero = a ∧ i.size = b ∧ i.bytes = c := by
  obtain ⟨i, hi, hz⟩ := Option.map_eq_some_iff.1 h
  simp only [Prod.mk.injEq] at hz
  exact ⟨i, hi, hz⟩
theorem pone_cell (w : World) (x : Value) (t : TypeId) : ∀ j u, [x][j]? = some u → (w.alloc (.cells #[x] t)).cell? ((⟨w.heap.size, 0, none⟩ : Addr).add j) = some u := by
  intro j u hj
  have hh : (w.alloc (.cells #[x] t)).heap[w.heap.size]? = some (.cells #[x] t (0, 0)) := heap_new _ _
  rw [Addr.add_lit]
  match j, hj with
  | 0, hj => simp at hj; subst hj; exact cell_of hh rfl
theorem pmdec {i n : Nat} (h : i < n) : n - (RowKit.intOf (.int .i64 ((i : Int) + 1))).toNat < n - (RowKit.intOf (.int .i64 (i : Int))).toNat := by
  simp [RowKit.intOf]; omega
/-- The operations that come of the first i. -/
def fl (base : Int) (l : List Mk) (i : Nat) : List Mk := (l.take i).filter (fun m => okC base m.1 m.2)
theorem fl_pos {base : Int} {l : List Mk} {i : Nat} (hi : i < l.length) (h : okC base (mAt l i).1 (mAt l i).2 = true) : fl base l (i + 1) = fl base l i ++ [mAt l i] := by
  rw [mAt_get hi] at h ⊢
  unfold fl
  rw [List.take_succ_eq_append_getElem hi, List.filter_append, List.filter_cons_of_pos (by exact h), List.filter_nil]
theorem fl_neg {base : Int} {l : List Mk} {i : Nat} (hi : i < l.length) (h : okC base (mAt l i).1 (mAt l i).2 = false) : fl base l (i + 1) = fl base l i := by
  rw [mAt_get hi] at h
  unfold fl
  rw [List.take_succ_eq_append_getElem hi, List.filter_append, List.filter_cons_of_neg (by rw [h]; decide), List.filter_nil, List.append_nil]
theorem fl_len (base : Int) (l : List Mk) (i : Nat) : (fl base l i).length ≤ i := by
  have h1 : (fl base l i).length ≤ (l.take i).length := List.length_filter_le _ _
  rw [List.length_take] at h1
  omega
theorem mdp_below {w w' : World} {ob : Obj} {g : Bool} {e : Ending} (h : MdP w ob g e w') : Below w.heap.size w w' := by
  rcases h with ⟨_, _, _, _, _, h4⟩ | ⟨_, _, h2⟩
  · exact h4
  · exact h2
theorem MdP.yes {w w' : World} {ob : Obj} {o : Option Nat} (h : MdP w ob true (.returned (.tuple #[mdV o, .int .i64 (mdE o)])) w') : ∃ q, o = some q ∧ w'.heap[q]? = some ob ∧ w.heap.size ≤ q ∧ Below w.heap.size w w' := by
  rcases h with ⟨_, q, h1, h2, h3, h4⟩ | ⟨h0, _⟩
  · cases o with
    | none => simp [mdV, mdE] at h1
    | some q' => simp [mdV, mdE] at h1; subst h1; exact ⟨_, rfl, h2, h3, h4⟩
  · cases h0
theorem MdP.no {w w' : World} {ob : Obj} {o : Option Nat} (h : MdP w ob false (.returned (.tuple #[mdV o, .int .i64 (mdE o)])) w') : o = none ∧ Below w.heap.size w w' := by
  rcases h with ⟨h0, _⟩ | ⟨_, h1, h2⟩
  · cases h0
  · cases o with
    | none => exact ⟨rfl, h2⟩
    | some q' => simp [mdV, mdE] at h1
section
variable {w0 w w4 w5 w6 : World} {Y0 b gc rb rc q kk : Nat} {xs : List Int} {base : Int} {ov ov' rov rov' : Value} {bl rl : List Nat} {ms mr : List Mk} {m : Mk} {X : Obj}
theorem P2.push1 (h : P2 w0 w Y0 b gc rb rc xs base ov rov bl rl ms mr) (hkk : ms.length = kk) (hb : Below w.heap.size w w4) (hq : w4.heap[q]? = some (QObjV base (mkCode m.1 m.2) (nx (mkPh m.1)) 0)) (hql : w.heap.size ≤ q) (h1 : w5.ownsRow Y0 30 1 ov' (kk + 1) (ptrs bl ++ [.pointer (some ⟨q, 0, none⟩)])) (h2 : (w4.alloc X).grownBy w5 ov.ownBlock) : P2 w0 w5 Y0 b gc rb rc xs base ov' rov (bl ++ [q]) rl (ms ++ [m]) mr := by
  subst hkk
  exact (h.below (below_on hb (below_alloc (Below.refl _ _) X))).push (heap_old hq _) (fun k hk e => by have := lt_of_heap (h.op k hk); omega) (by have := h.ar.yw; omega) h1 h2
theorem P2.kept1 (h : P2 w0 w Y0 b gc rb rc xs base ov rov bl rl ms mr) (hb : Below w.heap.size w w4) {k1 c1 : Int} (hq : w4.heap[q]? = some (RfObj k1 base c1 0 0)) (h2 : (w4.alloc X).grownBy w5 ov.ownBlock) : w5.heap[q]? = some (RfObj k1 base c1 0 0) :=
  grown_kept h2 (h.below (below_on hb (below_alloc (Below.refl _ _) X))).row (heap_old hq _) (by decide)
theorem P2.rpush1 (h : P2 w0 w5 Y0 b gc rb rc xs base ov rov bl rl ms mr) (hkk : mr.length = kk) (hq : w5.heap[q]? = some (RfObj (mkPh m.1) base (mkCode m.1 m.2) 0 0)) (hne : ∀ k, k < mr.length → gd rl k < q) (hlo : Y0 ≤ q) (h1 : w6.ownsRow Y0 64 1 rov' (kk + 1) (ptrs rl ++ [.pointer (some ⟨q, 0, none⟩)])) (h2 : (w5.alloc X).grownBy w6 rov.ownBlock) : P2 w0 w6 Y0 b gc rb rc xs base ov rov' bl (rl ++ [q]) ms (mr ++ [m]) := by
  subst hkk
  exact (h.below (below_alloc (Below.refl _ _) X)).rpush (heap_old hq _) (fun k hk e => by have := hne k hk; omega) hlo h1 h2
end
theorem t2_log {w0 w : World} {Y b gc rb rc n : Nat} {lv rv ov rov : Value} {s : Ast} {bl rl : List Nat} {qs rs : List QOp} (h : T2 w0 w Y b gc lv rb rc rv n s s ov rov bl rl qs rs) (hbig : s.log.length * 64 ≤ 140737488355328) :
    Calls Try.prog 25 #[.pointer (some ⟨b, 0, none⟩)] w fun r w' => ∃ v', r = .returned v' ∧ AccsAt w' v' s.log ∧ AccsAt w' rv s.log ∧ w'.cell? ⟨rb, 1, none⟩ = some rv ∧ Below w0.heap.size w0 w' := by
  refine (log_any Y b gc lv s w h.tw.a hbig).mono ?_
  rintro r w' ⟨v', rfl, h1, h2, c⟩
  have hS : ∀ (x : Nat) (cur : Array Value) (t : TypeId) (fr : Nat × Nat), t ≠ 95 → w.heap[x]? = some (.cells cur t fr) → w'.heap[x]? = some (.cells cur t fr) := fun x cur t fr ht hx => c.heap hx (fun e => by subst e; exact typ_ne hx h.tw.a.hb ht)
  refine ⟨v', rfl, AccsAt.of_owns h1, AccsAt.of_owns (ownsRow_block h.tw.r.hl (fun i hi => ?_)), cell_of (hS _ _ _ _ (by decide) h.tw.r.hb) (i := 1) rfl, Chg.below h.bel c (fun i hi => hi ▸ h.b0) h.bel.size⟩
  obtain ⟨cur, fr, hc⟩ := own_heap h.tw.r.hl hi
  exact (hS _ _ _ _ (by decide) hc).trans hc.symm
set_option maxRecDepth 100000 in
set_option maxHeartbeats 2000000 in
theorem plays_law (pd dn ft base : Int) (v pv : Value) (l : List Mk) (pl : List Int) (w : World) (hM : MAt w v l) (hI : IAt w pv pl) (hl : l.length ≤ 1048576) (hpl : pl.length ≤ 1048576) :
    Calls Try.prog 5 #[.int .u64 pd, .int .u64 dn, .int .u64 ft, .int .i64 base, v, pv] w fun e w' => e = .returned (.bool true) ∧ Below w.heap.size w w' := by
  obtain ⟨ao, c, rfl, hc1, hc2, hc3⟩ := id hM
  obtain ⟨po, pc, rfl, hd1, hd2, hd3⟩ := id hI
  have HM := hide hM
  have HI := hide hI
  obtain ⟨n, hn⟩ : ∃ n, n = l.length := ⟨_, rfl⟩
  obtain ⟨np, hnp⟩ : ∃ n, n = pl.length := ⟨_, rfl⟩
  rw [← hn] at hl hc1 ⊢
  rw [← hnp] at hpl hd1 ⊢
  have HN := hide hn
  have HNP := hide hnp
  have HL := hide hl
  have HPL := hide hpl
  clear hM hI hc3 hd3 hn hnp hl hpl
  obtain ⟨t, ht⟩ : ∃ t : Nat, (t : Int) = if 0 ≤ base ∧ base ≤ 50 then base else 0 := ⟨(if 0 ≤ base ∧ base ≤ 50 then base else 0).toNat, by split <;> omega⟩
  have ht50 : t ≤ 50 := by split at ht <;> omega
  have HT := hide ht
  have HT5 := hide ht50
  go_enter Try.func5, Try.ntmps5
  go_upto_region 3 with fail
  have hw0 : w.cell? = w.cell? := rfl
  clear hw0
  obtain ⟨W1, hW1⟩ : ∃ W1, W1 = w.alloc (.cells #[.int .i64 base] 50) := ⟨_, rfl⟩
  have hbx : W1.heap[w.heap.size]? = some (.cells #[.int .i64 base] 50 (0, 0)) := by rw [hW1]; exact heap_new _ _
  have hb1 : Below w.heap.size w W1 := by rw [hW1]; exact below_alloc (Below.refl _ _) _
  rw [← hW1]
  have HBX := hide hbx
  have HB1 := hide hb1
  clear hW1 hbx hb1
  go_cut [37] from 32 to 37 (fun c wx => c = .bool (decide (base < 0 ∨ 50 < base)) ∧ W1 = wx)
  case first =>
    by_cases h0 : base < 0
    · clear ht
      go_wp2_with fail
      go_meet
      case rel => exact ⟨congrArg Value.bool (decide_eq_true (p := base < 0 ∨ 50 < base) (by omega)).symm, rfl⟩
    · by_cases h1 : 50 < base
      · clear ht
        go_wp2_with fail
        go_meet
        case rel => exact ⟨congrArg Value.bool (decide_eq_true (p := base < 0 ∨ 50 < base) (by omega)).symm, rfl⟩
      · clear ht
        go_wp2_with fail
        go_meet
        case rel => exact ⟨congrArg Value.bool (decide_eq_false (p := base < 0 ∨ 50 < base) (by omega)).symm, rfl⟩
  case rest =>
  obtain ⟨rfl, rfl⟩ := hcut
  go_upto_if 37 with fail
  go_cut [14] from 37 to 37 (fun a wx => a = .int .i64 (t : Int) ∧ W1 = wx)
  case first =>
    by_cases h0 : base < 0 ∨ 50 < base
    · rw [decide_eq_true h0]
      have ht0 : t = 0 := by rw [if_neg (by omega)] at ht; omega
      clear ht
      go_wp2_with fail
      go_meet
      case rel => exact ⟨by rw [ht0]; rfl, rfl⟩
    · rw [decide_eq_false h0]
      have ht0 : base = (t : Int) := by rw [if_pos (by omega)] at ht; omega
      have HT0 := hide ht0
      clear ht ht0
      go_wp2_with fail
      go_meet
      case rel => exact ⟨congrArg (Value.int .i64) HT0.out, rfl⟩
  case rest =>
  obtain ⟨rfl, rfl⟩ := hcut
  clear ht
  have hmk := fun W => run_makeWords (t + 3) (by omega) W
  have e3 : ((t + 3 : Nat) : Int) = (t : Int) + 3 := by omega
  rw [e3] at hmk
  have hw3 : wrap64 ((t : Int) + 3) = (t : Int) + 3 := IntWalk.wrap64_in _ (by omega)
  clear e3
  go_upto_region 6 with fail
  obtain ⟨Wa, hWa⟩ : ∃ Wa, Wa = W1.alloc (wordsObj (List.replicate (t + 3) 0)) := ⟨_, rfl⟩
  have hh : Wa.heap[W1.heap.size]? = some (wordsObj (List.replicate (t + 3) 0)) := by rw [hWa]; exact heap_new _ _
  have hba : Below W1.heap.size W1 Wa := by rw [hWa]; exact below_alloc (Below.refl _ _) _
  rw [← hWa]
  obtain ⟨G, hG⟩ : ∃ G, G = W1.heap.size := ⟨_, rfl⟩
  rw [← hG] at hh ⊢
  have HG := hide hG
  have HBA := hide hba
  clear hWa hba hmk hG
  have hti : (t : Int) < ((t + 3 : Nat) : Int) := by omega
  have hti0 : (t : Int) < (t : Int) + 3 := by omega
  have hti1 : (t : Int) + 1 < (t : Int) + 3 := by omega
  have hti2 : (t : Int) + 2 < (t : Int) + 3 := by omega
  have htn0 : t < t + 3 := by omega
  have htn1 : t + 1 < t + 3 := by omega
  have htn2 : t + 2 < t + 3 := by omega
  have hw1 : wrap64 ((t : Int) + 1) = (t : Int) + 1 := IntWalk.wrap64_in _ (by omega)
  have hw2 : wrap64 ((t : Int) + 2) = (t : Int) + 2 := IntWalk.wrap64_in _ (by omega)
  have k0 := words_cell hh t (by simp)
  have f0 := free_of hh t
  have HH0 := hide hh
  clear hh
  go_upto_region 7 with fail
  have hh := words_set HH0.out t pd
  have hb2 : Below W1.heap.size W1 (Wa.setCell ⟨G, t, none⟩ (.int .u64 pd)) := HBA.out.setCell (p := ⟨G, t, none⟩) (by show W1.heap.size ≤ G; have := HG.out; omega) _
  have HB2 := hide hb2
  clear k0 f0 HH0 HBA hb2
  generalize (Wa.setCell ⟨G, t, none⟩ (.int .u64 pd)) = Wb at hh HB2 ⊢
  have k0 := words_cell hh (t + 1) (by simp)
  have f0 := free_of hh (t + 1)
  have HH0 := hide hh
  clear hh
  go_upto_region 8 with fail
  have hh := words_set HH0.out (t + 1) dn
  have hb2 : Below W1.heap.size W1 (Wb.setCell ⟨G, t + 1, none⟩ (.int .u64 dn)) := HB2.out.setCell (p := ⟨G, t + 1, none⟩) (by show W1.heap.size ≤ G; have := HG.out; omega) _
  clear k0 f0 HH0 HB2
  have HB2 := hide hb2
  clear hb2
  generalize (Wb.setCell ⟨G, t + 1, none⟩ (.int .u64 dn)) = Wc at hh HB2 ⊢
  have k0 := words_cell hh (t + 2) (by simp)
  have f0 := free_of hh (t + 2)
  have HH0 := hide hh
  clear hh
  go_upto_region 9 with fail
  have hh := words_set HH0.out (t + 2) ft
  have hb2 : Below W1.heap.size W1 (Wc.setCell ⟨G, t + 2, none⟩ (.int .u64 ft)) := HB2.out.setCell (p := ⟨G, t + 2, none⟩) (by show W1.heap.size ≤ G; have := HG.out; omega) _
  clear k0 f0 HH0 HB2
  have HB2 := hide hb2
  clear hb2
  generalize (Wc.setCell ⟨G, t + 2, none⟩ (.int .u64 ft)) = Wd at hh HB2 ⊢
  have HXS : Hid (Wd.heap[G]? = some (wordsObj (xs3 t pd dn ft))) := hh
  clear hh
  have HLD := hide (laid_any Wd _ (xs3 t pd dn ft) (uat_words HXS.out (xs3_len t pd dn ft)) (by rw [xs3_len]; have := HT5.out; omega))
  have HRN := hide (fun W => refNew_any (t + 3) true W (by have := HT5.out; omega))
  have e3 : ((t + 3 : Nat) : Int) = (t : Int) + 3 := by omega
  rw [e3] at HRN
  clear e3
  go_upto_region 11 with (first
    | (go_at_call 8; refine HLD.out.mono ?_; rintro e We ⟨rfl, h1, h2⟩; have HA1 := hide h1; have HBE := hide h2; clear h1 h2)
    | (go_at_call 17; refine (HRN.out _).mono ?_; rintro e Wf ⟨rfl, h1, h2, h3⟩; have HR1 := hide h1; have HBF := hide h3; clear h1 h2 h3)
    | fail)
  have HG2 := hide (HBE.out.block G (lt_of_heap HXS.out))
  have c0 : Wf.cell? ⟨We.heap.size + 1, 0, none⟩ = some (.slice (some ⟨We.heap.size, 0, none⟩) (t + 3) (t + 3)) := by
    have := cell_of HR1.out.hb (i := 0) rfl
    simpa [Ast.new] using this
  have hgf : Wf.heap[G]? = some (wordsObj (xs3 t pd dn ft)) := ((HBF.out.block G (by have := lt_of_heap HXS.out; have := HBE.out.size; omega)).trans HG2.out).trans HXS.out
  have hcp := copy_words (N := t + 3) HR1.out.hc hgf (by simp [Ast.new]) (xs3_len t pd dn ft)
  have HP0 := hide (p2_start (base := base) (w0 := W1) (xs3_len t pd dn ft) HA1.out (below_on HB2.out HBE.out) HB2.out.size HR1.out HBF.out)
  clear hgf HG2 HLD HRN
  go_upto_region 14 with fail
  generalize (Wf.setRow We.heap.size ((xs3 t pd dn ft).map (Value.int .u64)).toArray) = wz at HP0 ⊢
  obtain ⟨b, hb⟩ : ∃ b, b = Wd.heap.size + 1 := ⟨_, rfl⟩
  obtain ⟨gc, hgc⟩ : ∃ b, b = Wd.heap.size := ⟨_, rfl⟩
  obtain ⟨rb, hrb⟩ : ∃ b, b = We.heap.size + 1 := ⟨_, rfl⟩
  obtain ⟨rc, hrc⟩ : ∃ b, b = We.heap.size := ⟨_, rfl⟩
  obtain ⟨Y0, hY0⟩ : ∃ b, b = Wf.heap.size := ⟨_, rfl⟩
  rw [← hb, ← hrb, ← hgc, ← hrc, ← hY0] at HP0
  rw [← hb, ← hrb]
  clear hb hgc hrb hrc hY0 HA1 HBE HR1 HBF HB2 HXS HG c0 hcp hw1 hw2 hw3 hti hti0 hti1 hti2 htn0 htn1 htn2
  go_upto_region 17 with fail
  go_loopw [18, 19, 20] (fun ov rov tt wr => ∃ (i : Nat) (bl rl : List Nat), i ≤ n ∧ tt = .int .i64 i ∧ P2 W1 wr Y0 b gc rb rc (xs3 t pd dn ft) base ov rov bl rl (fl base l i) (fl base l i)) (fun _ _ tt _ => n - (RowKit.intOf tt).toNat)
  case atStart => exact ⟨0, [], [], by omega, rfl, by simpa [fl] using HP0.out⟩
  case round =>
    obtain ⟨i, bl, rl, hin, rfl, hpm⟩ := hrel
    clear HP0
    have HP := hide hpm
    clear hpm
    by_cases hlt : i < n
    · have hil : i < l.length := by rw [← HN.out]; exact hlt
      have hmb := (HM.out.below HB1.out).below HP.out.bel
      obtain ⟨ao2, c2, hv2, _, _, h3⟩ := hmb
      obtain ⟨g, o, he, e0, e1⟩ := h3 i hil
      have hgw : g < wr.heap.size := block_of_cell e0
      have hxw : w.heap.size < wr.heap.size := by have := lt_of_heap HBX.out; have := HP.out.bel.size; omega
      have b0 : wr.cell? ⟨w.heap.size, 0, none⟩ = some (.int .i64 base) := cell_of ((HP.out.bel.block _ (lt_of_heap HBX.out)).trans HBX.out) (i := 0) rfl
      simp only [Value.slice.injEq] at hv2
      obtain ⟨hv2, hvl, hvc⟩ := hv2
      clear hvl hvc
      subst hv2
      subst he
      have HIL := hide hil
      obtain ⟨x, hx⟩ : ∃ x, x = (mAt l i).1 := ⟨_, rfl⟩
      obtain ⟨y, hy⟩ : ∃ y, y = (mAt l i).2 := ⟨_, rfl⟩
      rw [← hx] at e0
      rw [← hy] at e1
      have HX := hide (And.intro hx hy)
      have hic : i < c := by omega
      have hilt : (i : Int) < (n : Int) := by omega
      have HCE : Hid (∀ X, Below wr.heap.size wr X → X.cell? ⟨w.heap.size, 0, none⟩ = some (.int .i64 base) ∧ X.cell? ⟨g, o + i * 2, none⟩ = some (.int .i64 x) ∧ X.cell? ⟨g, o + i * 2 + 1, none⟩ = some (.int .u64 y)) := fun X hX => ⟨(below_cell hX hxw).trans b0, (below_cell hX hgw).trans e0, (below_cell hX hgw).trans e1⟩
      have HMD := hide (fun W => made_P W base x y)
      have HKN := hide (fun W => known_P W base x y)
      clear hx hy h3 hil hgw hxw
      go_upto_region 19 with fail
      go_cut [21, 22] from 74 to 82 (fun a e wx => ∃ o : Option Nat, a = mdV o ∧ e = .int .i64 (mdE o) ∧ MdP wr (QObjV base (mkCode x y) (nx (mkPh x)) 0) (okC base x y) (.returned (.tuple #[mdV o, .int .i64 (mdE o)])) wx)
      case first =>
        go_region_held3 (fun X => X.cell? ⟨w.heap.size, 0, none⟩ = some (.int .i64 base) ∧ X.cell? ⟨g, o + i * 2, none⟩ = some (.int .i64 x) ∧ X.cell? ⟨g, o + i * 2 + 1, none⟩ = some (.int .u64 y)) (first | go_keep | exact HC8.out)
          ((go_at_call 15; refine (HMD.out _).mono ?_; rintro e w2 hm; obtain ⟨o, rfl, hm⟩ := hm.one; have HE := hide (hm.on (below_drew (Below.refl _ _))); have HC8 : Hid (w2.cell? ⟨w.heap.size, 0, none⟩ = some (.int .i64 base) ∧ _ ∧ _) := HCE.out _ (mdp_below HE.out); clear hm))
        all_goals
          go_wp2_with fail
          go_meet
          case rel => exact ⟨o, rfl, rfl, HE.out⟩
      case rest =>
        obtain ⟨o1, rfl, rfl, hm1⟩ := hcut
        obtain ⟨w3, rfl⟩ : ∃ w3, w3 = wc := ⟨_, rfl⟩
        have HE1 := hide hm1
        have hce := HCE.out _ (mdp_below hm1)
        clear e0 e1 b0 HMD hm1
        obtain ⟨b0, e0, e1⟩ := hce
        have HCE3 : Hid (∀ X, Below w3.heap.size w3 X → X.cell? ⟨w.heap.size, 0, none⟩ = some (.int .i64 base) ∧ X.cell? ⟨g, o + i * 2, none⟩ = some (.int .i64 x) ∧ X.cell? ⟨g, o + i * 2 + 1, none⟩ = some (.int .u64 y)) := fun X hX => HCE.out X (below_on (mdp_below HE1.out) hX)
        go_upto_region 20 with fail
        go_cut [23, 24] from 83 to 91 (fun a e wx => ∃ o : Option Nat, a = mdV o ∧ e = .int .i64 (mdE o) ∧ MdP w3 (RfObj (mkPh x) base (mkCode x y) 0 0) (okC base x y) (.returned (.tuple #[mdV o, .int .i64 (mdE o)])) wx)
        case first =>
          go_region_held3 (fun X => X.cell? ⟨w.heap.size, 0, none⟩ = some (.int .i64 base) ∧ X.cell? ⟨g, o + i * 2, none⟩ = some (.int .i64 x) ∧ X.cell? ⟨g, o + i * 2 + 1, none⟩ = some (.int .u64 y)) (first | go_keep | exact HC8.out)
            ((go_at_call 18; refine (HKN.out _).mono ?_; rintro e w2 hm; obtain ⟨o2, rfl, hm⟩ := hm.one; have HE := hide (hm.on (below_drew (Below.refl _ _))); have HC8 : Hid (w2.cell? ⟨w.heap.size, 0, none⟩ = some (.int .i64 base) ∧ _ ∧ _) := HCE3.out _ (mdp_below HE.out); clear hm))
          all_goals
            go_wp2_with fail
            go_meet
            case rel => exact ⟨o2, rfl, rfl, HE.out⟩
        case rest =>
          obtain ⟨o2, rfl, rfl, hm2⟩ := hcut
          obtain ⟨w4, rfl⟩ : ∃ w4, w4 = wc := ⟨_, rfl⟩
          have HE2 := hide hm2
          clear hm2 HCE HCE3 b0 e0 e1 HKN
          rcases Bool.eq_false_or_eq_true (okC base x y) with hok | hok
          · rw [hok] at HE1 HE2
            obtain ⟨q, rfl, f1, f2, f3⟩ := HE1.out.yes
            obtain ⟨q2, rfl, f4, f5, f6⟩ := HE2.out.yes
            have HFL : Hid (fl base l (i + 1) = fl base l i ++ [(x, y)]) := by
              have := fl_pos HIL.out (by rw [← HX.out.1, ← HX.out.2]; exact hok)
              rw [show mAt l i = (x, y) from by rw [HX.out.1, HX.out.2]] at this
              exact this
            have HFN := hide (fl_len base l i)
            obtain ⟨k, hk⟩ : ∃ k, (fl base l i).length = k := ⟨_, rfl⟩
            rw [hk] at HFN
            have HK := hide hk
            have HKB : Hid (k ≤ 1048576) := by
              have h1 := HFN.out
              have h2 := HL.out
              have h3 : k ≤ 1048576 := by omega
              exact h3
            have HQ1 := hide ((f6.block _ (lt_of_heap f1)).trans f1)
            have HQ2 := hide f2
            have HQ4 := hide f4
            have HQ5 := hide (Nat.le_trans f3.size f5)
            have HB4 := hide (below_on f3 f6)
            have hrw := (HP.out.below HB4.out).row
            rw [hk] at hrw
            have HRW := hide hrw
            have HYW : Hid (Y0 ≤ w4.heap.size) := ((HP.out.below HB4.out).ar.yw)
            obtain ⟨i30, hi30, hz0, hz1, hz2⟩ := pinfo_parts Try.pinfo30
            obtain ⟨i64, hi64, hy0, hy1, hy2⟩ := pinfo_parts Try.pinfo64
            clear f1 f2 f3 f4 f5 f6 hrw hk hok HE1 HE2
            unfold mdV mdE
            go_wp2_with (first
              | (at_builtin; refine wpList_append_lies _ rfl (.tmp 104) (.tmp 106) 46 rfl Y0 30 i30 (.pointer none) 1 8 Try.underlying46 hi30 hz0 hz1 hz2 rfl (by omega) u18 k (ptrs bl) rfl (HRW.out.alloc _) ⟨w4.heap.size, 0, none⟩ 1 1 [.pointer (some ⟨q, 0, none⟩)] rfl rfl (pone_cell w4 _ _) (by simp [Value.oneCell']) (by omega) (by have := HKB.out; unfold maxLen; omega) (by have := HKB.out; omega) (by have := HYW.out; simp; omega) (w4.heap.size + 1) (by simp) ?_; intro g5 cap5 w5 hownB hgrowB hatB hltB; have HB5 := hide (HP.out.push1 (m := (x, y)) HK.out HB4.out HQ1.out HQ2.out hownB hgrowB); have HQ6 := hide (HP.out.kept1 HB4.out HQ4.out hgrowB); rw [← HFL.out] at HB5; have hrw := HB5.out.rrow; rw [HK.out] at hrw; have HRW2 := hide hrw; have HYW2 : Hid (Y0 ≤ w5.heap.size) := HB5.out.ar.yw; clear hownB hgrowB hatB hltB hrw)
              | (at_builtin; refine wpList_append_lies _ rfl (.tmp 108) (.tmp 110) 63 rfl Y0 64 i64 (.pointer none) 1 8 Try.underlying63 hi64 hy0 hy1 hy2 rfl (by omega) u19 k (ptrs rl) rfl (HRW2.out.alloc _) ⟨w5.heap.size, 0, none⟩ 1 1 [.pointer (some ⟨q2, 0, none⟩)] rfl rfl (pone_cell w5 _ _) (by simp [Value.oneCell']) (by omega) (by have := HKB.out; unfold maxLen; omega) (by have := HKB.out; omega) (by have := HYW2.out; simp; omega) (w5.heap.size + 1) (by simp) ?_; intro g6 cap6 w6 hownB hgrowB hatB hltB; have HB6 := hide (HB5.out.rpush1 (m := (x, y)) HK.out HQ6.out (fun j hj => Nat.lt_of_lt_of_le (lt_of_heap (HP.out.rop j hj)) HQ5.out) (Nat.le_trans HP.out.ar.yw HQ5.out) hownB hgrowB); rw [← HFL.out] at HB6; clear hownB hgrowB hatB hltB)
              | fail)
            have hwi : wrap64 ((i : Int) + 1) = (i : Int) + 1 := IntWalk.wrap64_in _ (by have := HL.out; omega)
            try rw [hwi]
            go_roundw
            case rel => exact ⟨i + 1, bl ++ [q], rl ++ [q2], Nat.succ_le_of_lt hlt, rfl, HB6.out⟩
            case measure => exact pmdec hlt
          · rw [hok] at HE1 HE2
            obtain ⟨rfl, f3⟩ := HE1.out.no
            obtain ⟨rfl, f6⟩ := HE2.out.no
            have HFL : Hid (fl base l (i + 1) = fl base l i) := fl_neg HIL.out (by rw [← HX.out.1, ← HX.out.2]; exact hok)
            have HP2 := hide (HP.out.below (below_on f3 f6))
            clear f3 f6 hok HE1 HE2
            unfold mdV mdE
            go_wp2_with fail
            have hwi : wrap64 ((i : Int) + 1) = (i : Int) + 1 := IntWalk.wrap64_in _ (by have := HL.out; omega)
            try rw [hwi]
            go_roundw
            case rel => exact ⟨i + 1, bl, rl, Nat.succ_le_of_lt hlt, rfl, by rw [HFL.out]; exact HP2.out⟩
            case measure => exact pmdec hlt
    · obtain rfl : i = n := by omega
      by_cases hbt : base = (t : Int)
      · subst hbt
        have HT2 := hide (HP.out.start (n := t) (by rw [xs3_len]; omega))
        have hnl := fl_len (t : Int) l i
        obtain ⟨ms, hms⟩ : ∃ ms, ms = fl (t : Int) l i := ⟨_, rfl⟩
        rw [← hms] at HT2 hnl
        obtain ⟨oo, occ, hov⟩ := owns_shape HT2.out.row
        obtain ⟨ro, rcc, hrov⟩ := owns_shape HT2.out.rrow
        rw [List.length_map] at hov hrov
        obtain ⟨nm, hnm⟩ : ∃ nm, nm = ms.length := ⟨_, rfl⟩
        rw [← hnm] at hov hrov hnl
        have HNM := hide hnm
        have HNL : Hid (nm ≤ 1048576) := by
          have h1 := HL.out
          have h2 : nm ≤ 1048576 := by omega
          exact h2
        subst hov
        subst hrov
        have hbb : ((t : Int) != (t : Int)) = false := by simp
        have hni : ¬ (i : Int) < (i : Int) := by omega
        clear hms hnm hnl HP
        obtain ⟨Y, hY⟩ : ∃ Y, Y = wr.heap.size := ⟨_, rfl⟩
        rw [← hY] at HT2
        clear hY
        go_upto_region 29 with fail
        go_loopw [25] (fun tt wl => ∃ (j : Nat) (s : Ast) (qs : List QOp) (lv rv : Value), j ≤ np ∧ tt = .int .i64 j ∧ T2 W1 wl Y b gc lv rb rc rv t s s (.slice oo nm occ) (.slice ro nm rcc) bl rl qs qs ∧ qs.length = nm ∧ s.log.length ≤ j) (fun tt _ => np - (RowKit.intOf tt).toNat)
        case atStart => exact ⟨0, _, _, _, _, by omega, rfl, HT2.out, by rw [List.length_map]; exact HNM.out.symm, Nat.le_refl _⟩
        case round =>
          obtain ⟨j, s, qs, lv, rv, hjn, rfl, ht2, hql, hlog⟩ := hrel
          clear HT2
          have HTT := hide ht2
          have HQL := hide hql
          have HLOG := hide hlog
          clear ht2 hql hlog
          by_cases hgo : j < np ∧ 0 < nm
          · obtain ⟨ha1, hn0⟩ := hgo
            have ha2 : (j : Int) < (np : Int) := by omega
            have hn2 : (0 : Int) < (nm : Int) := by omega
            have hal : j < pl.length := by rw [← HNP.out]; exact ha1
            obtain ⟨po2, pc2, hv2, hv3, hv4, h3⟩ := (HI.out.below HB1.out).below HTT.out.bel
            obtain ⟨gp, op', he, e0⟩ := h3 j hal
            simp only [Value.slice.injEq] at hv2
            obtain ⟨hv2, hvl, hvc⟩ := hv2
            clear hvl hvc
            subst hv2
            subst he
            obtain ⟨x, hx⟩ : ∃ x, x = nth pl j := ⟨_, rfl⟩
            rw [← hx] at e0
            have hapc : j < pc := by omega
            clear hx h3 hal
            have hmi := mdN_in x nm hn0
            obtain ⟨k, hk⟩ : ∃ k : Nat, mdN x nm = (k : Int) := ⟨(mdN x nm).toNat, by omega⟩
            have hkn : k < nm := by omega
            have HMOD := hide (fun W => mod_any x nm hn0 (by have := HNL.out; omega) W)
            rw [hk] at HMOD
            have hkq : k < qs.length := by rw [HQL.out]; exact hkn
            have HKQ := hide hkq
            have hklt : (k : Int) < (nm : Int) := by omega
            obtain ⟨go_, c1, hov, hco, hcq1⟩ := HTT.out.ops hkq
            obtain ⟨gr, c2, hrov, hcr, hcq2⟩ := HTT.out.refs hkq
            simp only [Value.slice.injEq] at hov hrov
            obtain ⟨hov, hov1, hov2⟩ := hov
            obtain ⟨hrov, hrov1, hrov2⟩ := hrov
            subst hov
            subst hrov
            have hkc : k < occ := by rw [hov2]; omega
            have hkr : k < rcc := by rw [hrov2]; omega
            have HOC : Hid (∀ X lv rv s sr qs rs, T2 W1 X Y b gc lv rb rc rv t s sr (.slice (some ⟨go_, 0, none⟩) nm occ) (.slice (some ⟨gr, 0, none⟩) nm rcc) bl rl qs rs → qs.length = nm → rs.length = nm → X.cell? ⟨go_, k, none⟩ = some (.pointer (some ⟨gd bl k, 0, none⟩)) ∧ X.cell? ⟨gr, k, none⟩ = some (.pointer (some ⟨gd rl k, 0, none⟩))) := fun X lv rv s sr qs rs hX h1 h2 => by
              obtain ⟨g1, d1, hv, _, hc⟩ := hX.ops (k := k) (by omega)
              obtain ⟨g2, d2, hv', _, hc'⟩ := hX.refs (k := k) (by omega)
              simp only [Value.slice.injEq, Option.some.injEq, Addr.mk.injEq] at hv hv'
              obtain ⟨⟨e1, _⟩, _⟩ := hv
              obtain ⟨⟨e2, _⟩, _⟩ := hv'
              rw [e1, e2]; exact ⟨hc, hc'⟩
            have HBIG : Hid ((s.log.length + 1) * 64 ≤ 140737488355328) := by
              have h1 := HLOG.out
              have h2 := HPL.out
              show (s.log.length + 1) * 64 ≤ 140737488355328
              omega
            have HS2 := hide (stS_log (k : Int) t s (qd qs k))
            obtain ⟨s2, hs2⟩ : ∃ s2, s2 = stS (k : Int) t s (qd qs k) := ⟨_, rfl⟩
            obtain ⟨qs2, hq2⟩ : ∃ qs2, qs2 = qs.set k (stO t s (qd qs k)) := ⟨_, rfl⟩
            have HQ2 : Hid (qs2.length = nm) := by rw [hq2, List.length_set]; exact HQL.out
            have HKQ2 : Hid (k < qs2.length) := by rw [HQ2.out]; exact hkn
            rw [← hs2] at HS2
            have HSQ := hide (And.intro hs2 hq2)
            clear hs2 hq2 hkq hov1 hrov1 hov2 hrov2 hco hcr hcq1 hcq2 hmi hk
            clear hbb hni hin hlt hc1 hv3 hv4
            go_upto_region 38 with (first
              | (go_at_call 19; refine (HMOD.out _).mono ?_; rintro e w6 ⟨rfl, rfl⟩)
              | (go_at_call 10; refine (t2_granted (who := (k : Int)) HTT.out (by omega)).mono ?_; rintro e w7 ⟨p, rfl, h1, h2, h3, h4⟩; have HT7 := hide h1; have HG7 := hide (And.intro h2 (And.intro h3 h4)); obtain ⟨o7, r7⟩ := HOC.out _ _ _ _ _ _ _ h1 HQL.out HQL.out; clear h1 h2 h3 h4 e0)
              | (go_at_call 11; refine (t2_step (k := k) HT7.out HG7.out.1 HG7.out.2.1 HG7.out.2.2 HKQ.out HBIG.out).mono ?_; rintro e w8 ⟨rfl, lv8, h1⟩; rw [← HSQ.out.1, ← HSQ.out.2] at h1; have HT8 := hide h1; clear o7 r7; obtain ⟨o8, r8⟩ := HOC.out _ _ _ _ _ _ _ h1 HQ2.out HQL.out; clear h1)
              | (go_at_call 20; refine (t2_rstep (who := (k : Int)) (k := k) HT8.out HKQ.out HBIG.out).mono ?_; rintro e w9 ⟨rfl, rv9, h1⟩; rw [← HSQ.out.1, ← HSQ.out.2] at h1; have HT9 := hide h1; clear o8 r8; obtain ⟨o9, r9⟩ := HOC.out _ _ _ _ _ _ _ h1 HQ2.out HQ2.out; clear h1)
              | (go_at_call 21; refine (t2_reply (k := k) HT9.out HKQ2.out).mono ?_; rintro e w10 ⟨rfl, h1, _⟩; have HT10 := hide h1; clear o9 r9 h1)
              | fail)
            obtain ⟨st, hst⟩ : ∃ st, st = (qd qs2 k).st := ⟨_, rfl⟩
            rw [← hst]
            have hbx : (w10.alloc (.cells #[.int .i64 st, .slice none 0 0] 71)).heap[w10.heap.size]? = some (.cells #[.int .i64 st, .slice none 0 0] 71 (0, 0)) := heap_new _ _
            have HT11 := hide (HT10.out.below (below_alloc (Below.refl _ _) (.cells #[.int .i64 st, .slice none 0 0] 71)))
            generalize w10.alloc (.cells #[.int .i64 st, .slice none 0 0] 71) = w11 at hbx HT11 ⊢
            generalize w10.heap.size = x28 at hbx ⊢
            have HTD := hide (HT11.out.below (below_drew (Below.refl _ _)))
            have HOV := hide (t2_over (k := k) HTD.out HKQ2.out)
            have HRV := hide (t2_rover (k := k) HTD.out HKQ2.out)
            have HRR := hide (t2_rreply (k := k) HTD.out HKQ2.out)
            obtain ⟨a, ha⟩ : ∃ a, a = decide ((qd qs2 k).ph = 0) := ⟨_, rfl⟩
            rw [← ha] at HOV HRV
            rw [← hst] at HRR
            have hss : (st != st) = false := by simp
            have hfd := fun W => pfield71 st W
            obtain ⟨o11, r11⟩ := HOC.out _ _ _ _ _ _ _ HT11.out HQ2.out HQ2.out
            have d0 := cell_of hbx (i := 0) rfl
            have d1 := cell_of hbx (i := 1) rfl
            have HXL := hide (lt_of_heap hbx)
            have HD0 := hide (And.intro d0 d1)
            have HFI : Hid (∀ X rv', T2 W1 X Y b gc lv8 rb rc rv' t s2 s2 (.slice (some ⟨go_, 0, none⟩) nm occ) (.slice (some ⟨gr, 0, none⟩) nm rcc) bl rl qs2 qs2 → Below w11.heap.size w11 X → X.cell? ⟨go_, k, none⟩ = some (.pointer (some ⟨gd bl k, 0, none⟩)) ∧ X.cell? ⟨gr, k, none⟩ = some (.pointer (some ⟨gd rl k, 0, none⟩)) ∧ X.cell? ⟨x28, 0, none⟩ = some (.int .i64 st) ∧ X.cell? ⟨x28, 1, none⟩ = some (.slice none 0 0)) := fun X rv' hX hB => by
              obtain ⟨y1, y2⟩ := HOC.out _ _ _ _ _ _ _ hX HQ2.out HQ2.out
              exact ⟨y1, y2, (below_cell hB HXL.out).trans HD0.out.1, (below_cell hB HXL.out).trans HD0.out.2⟩
            clear hbx hst ha HT10 HT9 HT8 HT7 HTT HMOD HG7
            go_cut [183] from 156 to 183 (fun v wx => v = .bool false ∧ T2 W1 wx Y b gc lv8 rb rc rv9 t s2 s2 (.slice (some ⟨go_, 0, none⟩) nm occ) (.slice (some ⟨gr, 0, none⟩) nm rcc) bl rl qs2 qs2)
            case first =>
              rcases Bool.eq_false_or_eq_true a with haa | haa <;> subst haa
              all_goals
                go_region_held3 (fun X => X.cell? ⟨go_, k, none⟩ = some (.pointer (some ⟨gd bl k, 0, none⟩)) ∧ X.cell? ⟨gr, k, none⟩ = some (.pointer (some ⟨gd rl k, 0, none⟩)) ∧ X.cell? ⟨x28, 0, none⟩ = some (.int .i64 st) ∧ X.cell? ⟨x28, 1, none⟩ = some (.slice none 0 0)) (first | go_keep | exact HC12.out)
                  (first
                  | (go_at_call 12; refine HOV.out.mono ?_; rintro e w2 ⟨rfl, rfl⟩)
                  | (go_at_call 22; refine HRV.out.mono ?_; rintro e w2 ⟨rfl, rfl⟩)
                  | (go_at_call 23; refine HRR.out.mono ?_; rintro e w12 ⟨rfl, h1, h2⟩; have HT12 := hide h1; have HC12 := hide (HFI.out _ _ h1 (below_on (below_drew (Below.refl _ _)) h2)); clear h1 h2))
                all_goals
                  go_wp2_with fail
                  go_meet
                  case rel => exact ⟨rfl, HT12.out⟩
            case rest =>
              obtain ⟨rfl, ht⟩ := hcut
              have HTE := hide ht
              clear ht
              go_wp2_with fail
              have hwi : wrap64 ((j : Int) + 1) = (j : Int) + 1 := IntWalk.wrap64_in _ (by have := HPL.out; omega)
              try rw [hwi]
              go_roundw
              case rel => exact ⟨j + 1, s2, qs2, _, _, Nat.succ_le_of_lt ha1, rfl, HTE.out, HQ2.out, Nat.le_trans HS2.out (Nat.succ_le_succ HLOG.out)⟩
              case measure => exact pmdec ha1
          · have HBIG : Hid (s.log.length * 64 ≤ 140737488355328) := by
              have h1 := HLOG.out
              have h2 := HPL.out
              show s.log.length * 64 ≤ 140737488355328
              omega
            have HTD := hide (HTT.out.below (below_drew (Below.refl _ _)))
            have c1 : wr.cell? ⟨rb, 1, none⟩ = some rv := cell_of HTT.out.tw.r.hb (i := 1) rfl
            have HLG := hide (t2_log HTD.out HBIG.out)
            have HSL := hide (fun v1 W h1 h2 => sameLog_any v1 rv s.log W h1 h2)
            clear hbb hni hin hlt hc1 HLOG HTT
            rcases (show (j < np ∧ nm = 0) ∨ ¬ j < np by omega) with ⟨ha1, hn0⟩ | ha1
            · have ha2 : (j : Int) < (np : Int) := by omega
              clear hgo
              subst hn0
              go_upto_region 40 with fail
              go_region_held3 (fun X => X.cell? ⟨rb, 1, none⟩ = some rv) (first | go_keep | exact HC8.out | exact HC9.out)
                (first
                | (go_at_call 25; refine HLG.out.mono ?_; rintro e w7 ⟨v7, rfl, h1, h2, h3, h4⟩; have HA7 := hide (And.intro h1 h2); have HC8 := hide h3; have HB8 := hide h4; clear h1 h2 h3 h4)
                | (go_at_call 24; refine (HSL.out _ _ HA7.out.1 HA7.out.2).mono ?_; rintro e w8 ⟨rfl, m, rfl⟩; have HC9 : Hid ((w7.drewN m).cell? ⟨rb, 1, none⟩ = some rv) := HC8.out))
              all_goals
                go_wp2_with fail
                go_ret
                exact ⟨rfl, below_on HB1.out (below_drewN HB8.out m)⟩
            · have ha2 : ¬ (j : Int) < (np : Int) := by omega
              clear hgo
              go_upto_region 40 with fail
              go_region_held3 (fun X => X.cell? ⟨rb, 1, none⟩ = some rv) (first | go_keep | exact HC8.out | exact HC9.out)
                (first
                | (go_at_call 25; refine HLG.out.mono ?_; rintro e w7 ⟨v7, rfl, h1, h2, h3, h4⟩; have HA7 := hide (And.intro h1 h2); have HC8 := hide h3; have HB8 := hide h4; clear h1 h2 h3 h4)
                | (go_at_call 24; refine (HSL.out _ _ HA7.out.1 HA7.out.2).mono ?_; rintro e w8 ⟨rfl, m, rfl⟩; have HC9 : Hid ((w7.drewN m).cell? ⟨rb, 1, none⟩ = some rv) := HC8.out))
              all_goals
                go_wp2_with fail
                go_ret
                exact ⟨rfl, below_on HB1.out (below_drewN HB8.out m)⟩
      · have hbb : ((t : Int) != base) = true := by
          have : ¬ (t : Int) = base := fun e => hbt e.symm
          simp [this]
        have hni : ¬ (i : Int) < (i : Int) := by omega
        clear hbt
        go_wp2_with fail
        go_ret
        exact ⟨rfl, below_on HB1.out HP.out.bel⟩
end Go.Proofs.Ytabmmjhcfhplnaa
