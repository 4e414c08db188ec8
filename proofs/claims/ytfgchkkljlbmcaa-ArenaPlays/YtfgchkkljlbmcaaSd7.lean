/- Side.looks. -/
import Derived.Test.YtfgchkkljlbmcaaSd6
import Derived.Test.YtfgchkkljlbmcaaEqual
import Derived.Test.YtfgchkkljlbmcaaCopied
namespace Go.Proofs.Ytfgchkkljlbmcaa
open Go.RowKit Go.Lib Go.MuLone
set_option linter.unusedVariables false
set_option linter.unusedSimpArgs false
def inC (s : Ast) (cell : Int) : Prop := 0 ≤ cell ∧ cell < s.cells.length
instance (s : Ast) (cell : Int) : Decidable (inC s cell) := by unfold inC; infer_instance
def pkV (s : Ast) (cell : Int) : Int := if inC s cell then nth s.cells cell.toNat else 0
def pkE (s : Ast) (cell : Int) : Int := if inC s cell then 0 else 11
def pkS (s : Ast) (cell put : Int) : Ast := if inC s cell then { s with cells := s.cells.set cell.toNat put } else s
section
variable {w : World} {Y b gc q : Nat} {lv : Value} {s : Ast}
theorem peek_all (h : AIs w Y b gc lv s) (cell : Int) : Calls Try.prog 30 #[.pointer (some ⟨b, 0, none⟩), .int .i64 cell] w fun r w' => r = .returned (.tuple #[.int .u64 (pkV s cell), .int .i64 (pkE s cell)]) ∧ AIs w' Y b gc lv s ∧ Chg (fun k => k = b) w w' := by
  unfold pkV pkE
  by_cases hi : inC s cell
  · rw [if_pos hi, if_pos hi]
    have := peek_in Y b gc lv s cell.toNat w h (by have := hi; unfold inC at this; omega)
    rwa [show (cell.toNat : Int) = cell by have := hi; unfold inC at this; omega] at this
  · rw [if_neg hi, if_neg hi]
    exact peek_out Y b gc lv s cell w h hi
theorem refPeek_all (h : RIs w Y b gc lv s) (cell : Int) : Calls Try.prog 65 #[.pointer (some ⟨b, 0, none⟩), .int .i64 cell] w fun r w' => r = .returned (.tuple #[.int .u64 (pkV s cell), .int .i64 (pkE s cell)]) ∧ w' = w := by
  unfold pkV pkE
  by_cases hi : inC s cell
  · rw [if_pos hi, if_pos hi]
    have := refPeek_in Y b gc lv s cell.toNat w h (by have := hi; unfold inC at this; omega)
    rwa [show (cell.toNat : Int) = cell by have := hi; unfold inC at this; omega] at this
  · rw [if_neg hi, if_neg hi]
    exact refPeek_out Y b gc lv s cell w h (by have := hi; unfold inC at this; omega)
theorem poke_all (h : AIs w Y b gc lv s) (cell put : Int) : Calls Try.prog 29 #[.pointer (some ⟨b, 0, none⟩), .int .i64 cell, .int .u64 put] w fun r w' => r = .returned (.int .i64 (pkE s cell)) ∧ AIs w' Y b gc lv (pkS s cell put) ∧ Chg (fun k => k = b ∨ k = gc) w w' := by
  unfold pkS pkE
  by_cases hi : inC s cell
  · rw [if_pos hi, if_pos hi]
    have := poke_in Y b gc lv s cell.toNat put w h (by have := hi; unfold inC at this; omega)
    rwa [show (cell.toNat : Int) = cell by have := hi; unfold inC at this; omega] at this
  · rw [if_neg hi, if_neg hi]
    refine (poke_out Y b gc lv s cell put w h hi).mono ?_
    rintro e w' ⟨h1, h2, h3⟩
    exact ⟨h1, h2, h3.mono (fun _ => .inl)⟩
theorem refPoke_all (h : RIs w Y b gc lv s) (cell put : Int) : Calls Try.prog 66 #[.pointer (some ⟨b, 0, none⟩), .int .i64 cell, .int .u64 put] w fun r w' => r = .returned (.int .i64 (pkE s cell)) ∧ RIs w' Y b gc lv (pkS s cell put) ∧ Chg (fun k => k = gc) w w' := by
  unfold pkS pkE
  by_cases hi : inC s cell
  · rw [if_pos hi, if_pos hi]
    have := refPoke_in Y b gc lv s cell.toNat put w h (by have := hi; unfold inC at this; omega)
    rwa [show (cell.toNat : Int) = cell by have := hi; unfold inC at this; omega] at this
  · rw [if_neg hi, if_neg hi]
    refine (refPoke_out Y b gc lv s cell put w h (by have := hi; unfold inC at this; omega)).mono ?_
    rintro e w' ⟨h1, rfl⟩
    exact ⟨h1, h, Chg.refl _ _⟩
theorem refStop_all (h : RIs w Y b gc lv s) (x y z : Int) : Calls Try.prog 67 #[.pointer (some ⟨b, 0, none⟩), faultVal x y z] w fun r w' => r = .returned (.tuple #[]) ∧ RIs w' Y b gc lv (s.stop x y z) ∧ Chg (fun k => k = b) w w' := by
  refine (refStop_any b gc lv s x y z w h.hb).mono ?_
  rintro e w' ⟨h1, h2, h3⟩
  exact ⟨h1, h.stop h2 h3, h3⟩
end
theorem NB.poke {s : Ast} {whos : List Int} {n : Nat} (h : NB s whos n) (cell put : Int) : NB (pkS s cell put) whos n := by
  unfold pkS
  split
  · exact ⟨h.lg, h.c0, h.c1, h.wl⟩
  · exact h
theorem Try.fields45 : Try.prog.underlying 45 = some (.struct (Try.prog.fieldsOf 45)) := by kernel_rfl
theorem Try.held45 : Try.prog.stoodInHeld 45 = false := by kernel_rfl
theorem Try.list45 : (Try.prog.fieldsOf 45).toList = [{ name := "Who", type := 3, offset := 0, embedded := false, tag := "", pkgPath := "", byteOffset := 0 }, { name := "Kind", type := 3, offset := 1, embedded := false, tag := "", pkgPath := "", byteOffset := 8 },
    { name := "Cell", type := 3, offset := 2, embedded := false, tag := "", pkgPath := "", byteOffset := 16 }] := by kernel_rfl
theorem eql_fault (a b c : Int) (w : World) : (binOp .eql 45 (.agg #[.int .i64 a, .int .i64 b, .int .i64 c]) (.agg #[.int .i64 a, .int .i64 b, .int .i64 c])).run Try.prog w = .ok (.bool true) w := by
  have h : (Op.equalIn 10000 45 (.agg #[.int .i64 a, .int .i64 b, .int .i64 c]) (.agg #[.int .i64 a, .int .i64 b, .int .i64 c])).run Try.prog w = .ok (a == a && (b == b && (c == c && true))) w := by
    rw [show (10000 : Nat) = 9998 + 1 + 1 from rfl, run_equalIn_struct w (9998 + 1) 45 _ _ Try.fields45 Try.held45, Try.list45]
    refine field_int (by decide) Try.underlying3 (part3 _ _ _ _ rfl) (part3 _ _ _ _ rfl) ?_
    refine field_int (by decide) Try.underlying3 (part3 _ _ _ _ rfl) (part3 _ _ _ _ rfl) ?_
    refine field_int (by decide) Try.underlying3 (part3 _ _ _ _ rfl) (part3 _ _ _ _ rfl) ?_
    simp [Op.eqFields]
  rw [run_eql_struct, h, Result.andThen_ok]
  simp
/-- A block that is none of theirs stays. -/
theorem ob_keep {w w' : World} {F S : Nat → Prop} {ob : Nat} {o : Obj} (k : Chg S w w') (hS : ∀ i, S i → F i) (hF : ¬ F ob) (h : w.heap[ob]? = some o) : w'.heap[ob]? = some o := k.heap h (fun e => hF (hS _ e))
section
variable {w w' : World} {F : Nat → Prop} {x b gc q rb rgc Y : Nat} {lv rlv pv wv hv : Value} {s r : Ast} {ps : List Nat} {whos : List Int} {gs has : List Bool}
/-- The document's arena alone turns. -/
theorem Sd.lookR (h : Sd w F x b gc q rb rgc Y lv rlv pv wv hv s r ps whos gs has) {S : Nat → Prop} (k : Chg S w w') {r' : Ast} (hr : RIs w' Y rb rgc rlv r') (hS : ∀ i, S i → i = rb ∨ i = rgc) : Sd w' (nxF F w w') x b gc q rb rgc Y lv rlv pv wv hv s r' ps whos gs has := by
  have f := h.qo.far h.re
  have hs : ∀ i, S i → refSet rb rgc rlv i := fun i hi => (hS i hi).elim .inl (fun e => .inr (.inl e))
  exact h.turnR k hr (h.qo.kept k (fun e => f.1 (hs _ e)) (fun i hi e => f.2.1 i hi (hs _ e)) (fun i hi e => f.2.2 i hi (hs _ e))) (fun i hi => (hS i hi).elim .inl (fun e => .inr (.inl e))) (.inl rfl)
end
set_option maxRecDepth 100000 in
set_option maxHeartbeats 8000000 in
theorem looks_peek {w : World} {F : Nat → Prop} {x b gc q rb rgc Y n : Nat} {lv rlv pv wv hv : Value} {s : Ast} {ps : List Nat} {whos : List Int} {gs : List Bool} (h : Sd w F x b gc q rb rgc Y lv rlv pv wv hv s s ps whos gs gs) (hn : NB s whos n) (hbig : (n + 1) * 64 ≤ 140737488355328) (sec : Bool) (port cell want put fw fk fc : Int) :
    Calls Try.prog 57 #[.pointer (some ⟨x, 0, none⟩), opV 9 sec port cell want put fw fk fc] w fun e w' => e = .returned (.bool true) ∧ StP w w' F x n := by
  obtain ⟨W, hW⟩ : ∃ W, W = w.alloc (opO 9 sec port cell want put fw fk fc) := ⟨_, rfl⟩
  have hb : Below w.heap.size w W := by rw [hW]; exact (Below.refl _ _).alloc (Nat.le_refl _) _
  have hob : W.heap[w.heap.size]? = some (opO 9 sec port cell want put fw fk fc) := by rw [hW]; exact heap_new _ _
  have HOB := hide hob
  have H1 := hide (h.news hb)
  have HP1 := hide ((SP.refl w F).step (S := fun _ => False) (Chg.of_below hb) (fun _ e => e.elim))
  have HN := hide hn
  have HBG := hide hbig
  have HFL : Hid (∀ i, F i → i < w.heap.size) := h.fl
  have k0 := cell_of hob (i := 0) rfl
  have k3 := cell_of hob (i := 3) rfl
  have k5 := cell_of hob (i := 5) rfl
  have k6 := cell_of hob (i := 6) rfl
  have k7 := cell_of hob (i := 7) rfl
  have k8 := cell_of hob (i := 8) rfl
  have HFB := hide h.fb
  have HFG := hide h.fgc
  have HFRB := hide h.frb
  have HFRG := hide h.frg
  have c0 : W.cell? ⟨x, 0, none⟩ = some (.pointer (some ⟨b, 0, none⟩)) := cell_of H1.out.sb rfl
  have HPK := hide (peek_all (H1.out.news ((Below.refl _ _).drew)).ar cell)
  have HNO := hide (fun e W => no_any e W)
  clear h hb hob hn hbig
  obtain ⟨ob, hobe⟩ : ∃ ob, ob = w.heap.size := ⟨_, rfl⟩
  have HOW := hide hobe
  rw [← hobe] at HOB k0 k3 k5 k6 k7 k8
  have HOF : Hid (¬ F ob) := fun e => by have := HFL.out ob e; have := HOW.out; omega
  unfold opV
  unfold opO at hW
  go_enter Try.func57, Try.ntmps57
  go_upto_region 1 with fail
  rw [← hW, ← hobe]
  clear hW hobe
  go_wp2_with fail
  refine wp_region_noPanic ?_
  go_region_held3 (fun z => z.cell? ⟨x, 0, none⟩ = some (.pointer (some ⟨b, 0, none⟩)) ∧ z.cell? ⟨ob, 3, none⟩ = some (.int .i64 cell))
    (first | exact ⟨c0, k3⟩ | exact ⟨cell_of H2.out.sb rfl, cell_of HO2.out (i := 3) rfl⟩)
    ((go_at_call 30; refine HPK.out.mono ?_; rintro e w2 ⟨rfl, ha2, hk2⟩; have H2 := hide ((H1.out.news ((Below.refl _ _).drew)).lookA hk2 ha2 (fun i hi => .inl hi)); have HP2 := hide ((HP1.out.step (S := fun _ => False) (Chg.of_below ((Below.refl _ _).drew)) (fun _ e => e.elim)).step hk2 (fun i hi => by rw [hi]; exact (H1.out.news ((Below.refl _ _).drew)).fb)); have HO2 := hide (ob_keep hk2 (fun i hi => by rw [hi]; exact HFB.out) HOF.out (show W.drew.heap[ob]? = _ from HOB.out)); clear ha2 hk2))
  refine NoPanic.normal ?_
  clear c0 k0 k3 k5 k6 k7 k8
  have d2 : w2.cell? ⟨x, 2, none⟩ = some (.pointer (some ⟨q, 0, none⟩)) := cell_of H2.out.sb rfl
  have d0 : w2.cell? ⟨q, 0, none⟩ = some (.pointer (some ⟨rb, 0, none⟩)) := cell_of H2.out.qo.hq rfl
  have k3 := cell_of HO2.out (i := 3) rfl
  have HRP := hide (fun m => refPeek_all (H2.out.news (below_drewN' m)).re cell)
  go_wp2_with fail
  go_quiet ((go_at_call 65; refine Calls.quiet_of_same (HRP.out _)))
  go_wp2_with (go_at_call 31; refine (HNO.out _ _).mono ?_; rintro e w' ⟨rfl, rfl⟩)
  go_ret
  exact ⟨rfl, _, _, _, _, _, _, _, _, _, _, _, _, _, _, _, _, H2.out.news (below_drewN' _), HP2.out.step (S := fun _ => False) (Chg.of_below (below_drewN' _)) (fun _ e => e.elim), HN.out.up⟩
set_option maxRecDepth 100000 in
set_option maxHeartbeats 8000000 in
theorem looks_poke {w : World} {F : Nat → Prop} {x b gc q rb rgc Y n : Nat} {lv rlv pv wv hv : Value} {s : Ast} {ps : List Nat} {whos : List Int} {gs : List Bool} (h : Sd w F x b gc q rb rgc Y lv rlv pv wv hv s s ps whos gs gs) (hn : NB s whos n) (hbig : (n + 1) * 64 ≤ 140737488355328) (sec : Bool) (port cell want put fw fk fc : Int) :
    Calls Try.prog 57 #[.pointer (some ⟨x, 0, none⟩), opV 10 sec port cell want put fw fk fc] w fun e w' => e = .returned (.bool true) ∧ StP w w' F x n := by
  obtain ⟨W, hW⟩ : ∃ W, W = w.alloc (opO 10 sec port cell want put fw fk fc) := ⟨_, rfl⟩
  have hb : Below w.heap.size w W := by rw [hW]; exact (Below.refl _ _).alloc (Nat.le_refl _) _
  have hob : W.heap[w.heap.size]? = some (opO 10 sec port cell want put fw fk fc) := by rw [hW]; exact heap_new _ _
  have HOB := hide hob
  have H1 := hide (h.news hb)
  have HP1 := hide ((SP.refl w F).step (S := fun _ => False) (Chg.of_below hb) (fun _ e => e.elim))
  have HN := hide hn
  have HBG := hide hbig
  have HFL : Hid (∀ i, F i → i < w.heap.size) := h.fl
  have k0 := cell_of hob (i := 0) rfl
  have k3 := cell_of hob (i := 3) rfl
  have k5 := cell_of hob (i := 5) rfl
  have k6 := cell_of hob (i := 6) rfl
  have k7 := cell_of hob (i := 7) rfl
  have k8 := cell_of hob (i := 8) rfl
  have HFB := hide h.fb
  have HFG := hide h.fgc
  have HFRB := hide h.frb
  have HFRG := hide h.frg
  have c0 : W.cell? ⟨x, 0, none⟩ = some (.pointer (some ⟨b, 0, none⟩)) := cell_of H1.out.sb rfl
  have HPK := hide (poke_all (H1.out.news ((Below.refl _ _).drew)).ar cell put)
  have HNO := hide (fun e W => no_any e W)
  clear h hb hob hn hbig
  obtain ⟨ob, hobe⟩ : ∃ ob, ob = w.heap.size := ⟨_, rfl⟩
  have HOW := hide hobe
  rw [← hobe] at HOB k0 k3 k5 k6 k7 k8
  have HOF : Hid (¬ F ob) := fun e => by have := HFL.out ob e; have := HOW.out; omega
  unfold opV
  unfold opO at hW
  go_enter Try.func57, Try.ntmps57
  go_upto_region 1 with fail
  rw [← hW, ← hobe]
  clear hW hobe
  go_wp2_with fail
  refine wp_region_noPanic ?_
  go_region_held3 (fun z => z.cell? ⟨x, 0, none⟩ = some (.pointer (some ⟨b, 0, none⟩)) ∧ z.cell? ⟨ob, 3, none⟩ = some (.int .i64 cell) ∧ z.cell? ⟨ob, 5, none⟩ = some (.int .u64 put))
    (first | exact ⟨c0, k3, k5⟩ | exact ⟨cell_of H2.out.sb rfl, cell_of HO2.out (i := 3) rfl, cell_of HO2.out (i := 5) rfl⟩)
    ((go_at_call 29; refine HPK.out.mono ?_; rintro e w2 ⟨rfl, ha2, hk2⟩; have H2 := hide ((H1.out.news ((Below.refl _ _).drew)).lookA hk2 ha2 (fun i hi => hi)); have HP2 := hide ((HP1.out.step (S := fun _ => False) (Chg.of_below ((Below.refl _ _).drew)) (fun _ e => e.elim)).step hk2 (fun i hi => by rcases hi with hi | hi <;> rw [hi]; exact (H1.out.news ((Below.refl _ _).drew)).fb; exact (H1.out.news ((Below.refl _ _).drew)).fgc)); have HO2 := hide (ob_keep hk2 (fun i hi => by rcases hi with hi | hi <;> rw [hi]; exact HFB.out; exact HFG.out) HOF.out (show W.drew.heap[ob]? = _ from HOB.out)); clear ha2 hk2))
  refine NoPanic.normal ?_
  clear c0 k0 k3 k5 k6 k7 k8
  have d2 : w2.cell? ⟨x, 2, none⟩ = some (.pointer (some ⟨q, 0, none⟩)) := cell_of H2.out.sb rfl
  have d0 : w2.cell? ⟨q, 0, none⟩ = some (.pointer (some ⟨rb, 0, none⟩)) := cell_of H2.out.qo.hq rfl
  have k3 := cell_of HO2.out (i := 3) rfl
  have k5 := cell_of HO2.out (i := 5) rfl
  have HRP := hide (refPoke_all (H2.out.news ((Below.refl _ _).drew)).re cell put)
  go_wp2_with fail
  refine wp_region_noPanic ?_
  go_region_held3 (fun z => z.cell? ⟨x, 2, none⟩ = some (.pointer (some ⟨q, 0, none⟩)) ∧ z.cell? ⟨q, 0, none⟩ = some (.pointer (some ⟨rb, 0, none⟩)) ∧ z.cell? ⟨ob, 3, none⟩ = some (.int .i64 cell) ∧ z.cell? ⟨ob, 5, none⟩ = some (.int .u64 put))
    (first | exact ⟨d2, d0, k3, k5⟩ | exact ⟨cell_of H3.out.sb rfl, cell_of H3.out.qo.hq rfl, cell_of HO3.out (i := 3) rfl, cell_of HO3.out (i := 5) rfl⟩)
    (first
      | (go_at_call 31; refine (HNO.out _ _).mono ?_; rintro e w' ⟨rfl, hw⟩; subst w')
      | (go_at_call 66; refine HRP.out.mono ?_; rintro e w3 ⟨rfl, ha3, hk3⟩; have H3 := hide ((H2.out.news ((Below.refl _ _).drew)).lookR hk3 ha3 (fun i hi => .inr hi)); have HP3 := hide ((HP2.out.step (S := fun _ => False) (Chg.of_below ((Below.refl _ _).drew)) (fun _ e => e.elim)).step hk3 (fun i hi => by rw [hi]; exact (H2.out.news ((Below.refl _ _).drew)).frg)); have HO3 := hide (ob_keep hk3 (fun i hi => by rw [hi]; exact HFRG.out) HOF.out (show w2.drew.heap[ob]? = _ from HO2.out)); clear ha3 hk3))
  refine NoPanic.normal ?_
  go_wp2_with fail
  go_ret
  exact ⟨by simp, _, _, _, _, _, _, _, _, _, _, _, _, _, _, _, _, H3.out, HP3.out, (HN.out.poke cell put).up⟩
set_option maxRecDepth 100000 in
set_option maxHeartbeats 8000000 in
theorem looks_stop {w : World} {F : Nat → Prop} {x b gc q rb rgc Y n : Nat} {lv rlv pv wv hv : Value} {s : Ast} {ps : List Nat} {whos : List Int} {gs : List Bool} (h : Sd w F x b gc q rb rgc Y lv rlv pv wv hv s s ps whos gs gs) (hn : NB s whos n) (hbig : (n + 1) * 64 ≤ 140737488355328) (sec : Bool) (port cell want put fw fk fc : Int) :
    Calls Try.prog 57 #[.pointer (some ⟨x, 0, none⟩), opV 11 sec port cell want put fw fk fc] w fun e w' => e = .returned (.bool true) ∧ StP w w' F x n := by
  obtain ⟨W, hW⟩ : ∃ W, W = w.alloc (opO 11 sec port cell want put fw fk fc) := ⟨_, rfl⟩
  have hb : Below w.heap.size w W := by rw [hW]; exact (Below.refl _ _).alloc (Nat.le_refl _) _
  have hob : W.heap[w.heap.size]? = some (opO 11 sec port cell want put fw fk fc) := by rw [hW]; exact heap_new _ _
  have HOB := hide hob
  have H1 := hide (h.news hb)
  have HP1 := hide ((SP.refl w F).step (S := fun _ => False) (Chg.of_below hb) (fun _ e => e.elim))
  have HN := hide hn
  have HBG := hide hbig
  have HFL : Hid (∀ i, F i → i < w.heap.size) := h.fl
  have k0 := cell_of hob (i := 0) rfl
  have k3 := cell_of hob (i := 3) rfl
  have k5 := cell_of hob (i := 5) rfl
  have k6 := cell_of hob (i := 6) rfl
  have k7 := cell_of hob (i := 7) rfl
  have k8 := cell_of hob (i := 8) rfl
  have HFB := hide h.fb
  have HFG := hide h.fgc
  have HFRB := hide h.frb
  have HFRG := hide h.frg
  have c0 : W.cell? ⟨x, 0, none⟩ = some (.pointer (some ⟨b, 0, none⟩)) := cell_of H1.out.sb rfl
  have HPK := hide (stopCall_any Y b gc lv s fw fk fc _ (H1.out.news ((Below.refl _ _).drew)).ar)
  unfold faultVal at HPK
  clear h hb hob hn hbig
  obtain ⟨ob, hobe⟩ : ∃ ob, ob = w.heap.size := ⟨_, rfl⟩
  have HOW := hide hobe
  rw [← hobe] at HOB k0 k3 k5 k6 k7 k8
  have HOF : Hid (¬ F ob) := fun e => by have := HFL.out ob e; have := HOW.out; omega
  unfold opV
  unfold opO at hW
  go_enter Try.func57, Try.ntmps57
  go_upto_region 1 with fail
  rw [← hW, ← hobe]
  clear hW hobe
  go_wp2_with fail
  refine wp_region_noPanic ?_
  go_region_held3 (fun z => z.cell? ⟨x, 0, none⟩ = some (.pointer (some ⟨b, 0, none⟩)) ∧ z.cell? ⟨ob, 6, none⟩ = some (.int .i64 fw) ∧ z.cell? ⟨ob, 7, none⟩ = some (.int .i64 fk) ∧ z.cell? ⟨ob, 8, none⟩ = some (.int .i64 fc))
    (first | exact ⟨c0, k6, k7, k8⟩ | exact ⟨cell_of H2.out.sb rfl, cell_of HO2.out (i := 6) rfl, cell_of HO2.out (i := 7) rfl, cell_of HO2.out (i := 8) rfl⟩)
    ((go_at_call 28; refine HPK.out.mono ?_; rintro e w2 ⟨rfl, ha2, hk2⟩; have H2 := hide ((H1.out.news ((Below.refl _ _).drew)).lookA hk2 ha2 (fun i hi => .inl hi)); have HP2 := hide ((HP1.out.step (S := fun _ => False) (Chg.of_below ((Below.refl _ _).drew)) (fun _ e => e.elim)).step hk2 (fun i hi => by rw [hi]; exact (H1.out.news ((Below.refl _ _).drew)).fb)); have HO2 := hide (ob_keep hk2 (fun i hi => by rw [hi]; exact HFB.out) HOF.out (show W.drew.heap[ob]? = _ from HOB.out)); clear ha2 hk2))
  refine NoPanic.normal ?_
  clear c0 k0 k3 k5 k6 k7 k8
  have d2 : w2.cell? ⟨x, 2, none⟩ = some (.pointer (some ⟨q, 0, none⟩)) := cell_of H2.out.sb rfl
  have d0 : w2.cell? ⟨q, 0, none⟩ = some (.pointer (some ⟨rb, 0, none⟩)) := cell_of H2.out.qo.hq rfl
  have k6 := cell_of HO2.out (i := 6) rfl
  have k7 := cell_of HO2.out (i := 7) rfl
  have k8 := cell_of HO2.out (i := 8) rfl
  have HRP := hide (refStop_all (H2.out.news ((Below.refl _ _).drew)).re fw fk fc)
  unfold faultVal at HRP
  go_wp2_with fail
  refine wp_region_noPanic ?_
  go_region_held3 (fun z => z.cell? ⟨x, 2, none⟩ = some (.pointer (some ⟨q, 0, none⟩)) ∧ z.cell? ⟨q, 0, none⟩ = some (.pointer (some ⟨rb, 0, none⟩)) ∧ z.cell? ⟨ob, 6, none⟩ = some (.int .i64 fw) ∧ z.cell? ⟨ob, 7, none⟩ = some (.int .i64 fk) ∧ z.cell? ⟨ob, 8, none⟩ = some (.int .i64 fc))
    (first | exact ⟨d2, d0, k6, k7, k8⟩ | exact ⟨cell_of H3.out.sb rfl, cell_of H3.out.qo.hq rfl, cell_of HO3.out (i := 6) rfl, cell_of HO3.out (i := 7) rfl, cell_of HO3.out (i := 8) rfl⟩)
    ((go_at_call 67; refine HRP.out.mono ?_; rintro e w3 ⟨rfl, ha3, hk3⟩; have H3 := hide ((H2.out.news ((Below.refl _ _).drew)).lookR hk3 ha3 (fun i hi => .inl hi)); have HP3 := hide ((HP2.out.step (S := fun _ => False) (Chg.of_below ((Below.refl _ _).drew)) (fun _ e => e.elim)).step hk3 (fun i hi => by rw [hi]; exact (H2.out.news ((Below.refl _ _).drew)).frb)); have HO3 := hide (ob_keep hk3 (fun i hi => by rw [hi]; exact HFRB.out) HOF.out (show w2.drew.heap[ob]? = _ from HO2.out)); clear ha3 hk3))
  refine NoPanic.normal ?_
  go_wp2_with fail
  go_ret
  exact ⟨rfl, _, _, _, _, _, _, _, _, _, _, _, _, _, _, _, _, H3.out, HP3.out, (HN.out.stop fw fk fc).up⟩
set_option maxRecDepth 100000 in
set_option maxHeartbeats 8000000 in
theorem looks_other {w : World} {F : Nat → Prop} {x b gc q rb rgc Y n : Nat} {lv rlv pv wv hv : Value} {s : Ast} {ps : List Nat} {whos : List Int} {gs : List Bool} (h : Sd w F x b gc q rb rgc Y lv rlv pv wv hv s s ps whos gs gs) (hn : NB s whos n) (hbig : (n + 1) * 64 ≤ 140737488355328) (k : Int) (hk : k < 9 ∨ 15 < k) (sec : Bool) (port cell want put fw fk fc : Int) :
    Calls Try.prog 57 #[.pointer (some ⟨x, 0, none⟩), opV k sec port cell want put fw fk fc] w fun e w' => e = .returned (.bool true) ∧ StP w w' F x n := by
  obtain ⟨W, hW⟩ : ∃ W, W = w.alloc (opO k sec port cell want put fw fk fc) := ⟨_, rfl⟩
  have hb : Below w.heap.size w W := by rw [hW]; exact (Below.refl _ _).alloc (Nat.le_refl _) _
  have hob : W.heap[w.heap.size]? = some (opO k sec port cell want put fw fk fc) := by rw [hW]; exact heap_new _ _
  have HOB := hide hob
  have H1 := hide (h.news hb)
  have HP1 := hide ((SP.refl w F).step (S := fun _ => False) (Chg.of_below hb) (fun _ e => e.elim))
  have HN := hide hn
  have HBG := hide hbig
  have HFL : Hid (∀ i, F i → i < w.heap.size) := h.fl
  have k0 := cell_of hob (i := 0) rfl
  have k3 := cell_of hob (i := 3) rfl
  have k5 := cell_of hob (i := 5) rfl
  have k6 := cell_of hob (i := 6) rfl
  have k7 := cell_of hob (i := 7) rfl
  have k8 := cell_of hob (i := 8) rfl
  have HFB := hide h.fb
  have HFG := hide h.fgc
  have HFRB := hide h.frb
  have HFRG := hide h.frg
  clear h hb hob hn hbig
  have g9 : (k == 9) = false := by simp; omega
  have g10 : (k == 10) = false := by simp; omega
  have g11 : (k == 11) = false := by simp; omega
  have g12 : (k == 12) = false := by simp; omega
  have g13 : (k == 13) = false := by simp; omega
  have g14 : (k == 14) = false := by simp; omega
  have g15 : (k == 15) = false := by simp; omega
  clear hk
  obtain ⟨ob, hobe⟩ : ∃ ob, ob = w.heap.size := ⟨_, rfl⟩
  have HOW := hide hobe
  rw [← hobe] at HOB k0 k3 k5 k6 k7 k8
  have HOF : Hid (¬ F ob) := fun e => by have := HFL.out ob e; have := HOW.out; omega
  unfold opV
  unfold opO at hW
  go_enter Try.func57, Try.ntmps57
  go_upto_region 1 with fail
  rw [← hW, ← hobe]
  clear hW hobe
  go_wp2_with fail
  go_ret
  exact ⟨rfl, _, _, _, _, _, _, _, _, _, _, _, _, _, _, _, _, H1.out, HP1.out, HN.out.up⟩
end Go.Proofs.Ytfgchkkljlbmcaa
