import Derived.Test.YtgjdjdgondpjeaaGreatLyC
import Derived.Test.YtgjdjdgondpjeaaGreatBkC
import Derived.Deep.RegionHeld3
import Derived.Deep.Cut
/- A region whose operations come up in any order, by an invariant of what is done. -/
namespace Go.Proofs.YtgjdjdgondpjeaaGreat
open Go.RowKit Go.Lib
set_option linter.unusedVariables false
set_option linter.unusedSimpArgs false
/-- The frame behind the operations that are done. -/
def frJ (ds : List (Nat × Nat)) (t : Array Value) (m : Nat → Option Value) : Array Value := ds.foldl (fun t p => match m p.1 with | some v => t.setIfInBounds p.2 v | none => t) t
theorem frJ_set (s : Nat) (v : Value) (m : Nat → Option Value) : ∀ (ds : List (Nat × Nat)) (t : Array Value), s ∉ ds.map (·.2) → frJ ds (t.setIfInBounds s v) m = (frJ ds t m).setIfInBounds s v := by
  intro ds
  induction ds with
  | nil => intro t _; rfl
  | cons c ds ih =>
    intro t hs
    simp only [List.map_cons, List.mem_cons, not_or] at hs
    show frJ ds (match m c.1 with | some v' => (t.setIfInBounds s v).setIfInBounds c.2 v' | none => t.setIfInBounds s v) m = (frJ ds (match m c.1 with | some v' => t.setIfInBounds c.2 v' | none => t) m).setIfInBounds s v
    cases m c.1 with
    | none => exact ih t hs.2
    | some v' =>
      simp only
      rw [Array.setIfInBounds_comm _ _ hs.1]
      exact ih _ hs.2
theorem frJ_id {m m' : Nat → Option Value} : ∀ (ds : List (Nat × Nat)) (t : Array Value), (∀ p ∈ ds, m p.1 = m' p.1) → frJ ds t m = frJ ds t m' := by
  intro ds
  induction ds with
  | nil => intro t _; rfl
  | cons c ds ih =>
    intro t h
    show frJ ds (match m c.1 with | some v' => t.setIfInBounds c.2 v' | none => t) m = frJ ds (match m' c.1 with | some v' => t.setIfInBounds c.2 v' | none => t) m'
    rw [h c (by simp), ih _ (fun p hp => h p (by simp [hp]))]
theorem frJ_upd {m : Nat → Option Value} {i s : Nat} {v : Value} : ∀ (ds : List (Nat × Nat)) (t : Array Value), (ds.map (·.1)).Nodup → (ds.map (·.2)).Nodup → (i, s) ∈ ds → m i = none → frJ ds t (upd m i (some v)) = (frJ ds t m).setIfInBounds s v := by
  intro ds
  induction ds with
  | nil => intro t _ _ h; cases h
  | cons c ds ih =>
    intro t n1 n2 h hm
    simp only [List.map_cons, List.nodup_cons] at n1 n2
    show frJ ds (match upd m i (some v) c.1 with | some v' => t.setIfInBounds c.2 v' | none => t) (upd m i (some v)) = (frJ ds (match m c.1 with | some v' => t.setIfInBounds c.2 v' | none => t) m).setIfInBounds s v
    rcases List.mem_cons.1 h with e | e
    · subst e
      rw [upd_same, hm]
      simp only
      rw [frJ_id (m := upd m i (some v)) (m' := m) ds _ (fun p hp => upd_other _ _ (fun q => n1.1 (List.mem_map.2 ⟨p, hp, q⟩))), frJ_set s v m ds t n2.1]
    · have hne : c.1 ≠ i := fun q => n1.1 (List.mem_map.2 ⟨_, e, q.symm⟩)
      rw [upd_other _ _ hne]
      exact ih _ n1.2 n2.2 e hm
section
variable {P : Program} {ops : Array Oper} {Q : Exit → Act → World → Prop}
def cntN (n : Nat) (m : Nat → Option Value) : Nat := sm n (fun i => if m i = none then 1 else 0)
theorem sm_pos {n : Nat} {f : Nat → Nat} {i : Nat} (hi : i < n) : f i ≤ sm n f := by
  induction n with
  | zero => omega
  | succ n ih =>
    simp only [sm]
    by_cases e : i = n
    · subst e; omega
    · have := ih (by omega); omega
theorem wpAny_J (ds : List (Nat × Nat)) (J : (Nat → Option Value) → World → Prop) (a0 : Act)
    (hops : ∀ (i : Nat) (o : Oper), ops[i]? = some o → o.guard = none ∧ ∃ s, o.dst = some s ∧ (i, s) ∈ ds)
    (hdag : ∀ (i : Nat) (o : Oper), ops[i]? = some o → ∀ e ∈ o.after, e.on < i)
    (hn1 : (ds.map (·.1)).Nodup) (hn2 : (ds.map (·.2)).Nodup)
    (hstep : ∀ (i : Nat) (o : Oper), ops[i]? = some o → ∀ m w, J m w → m i = none → (∀ e ∈ o.after, Region.binds .any e = true → m e.on ≠ none) → ∀ K : Act → World → Prop, (∀ v w', J (upd m i (some v)) w' → K (({ a0 with tmps := frJ ds a0.tmps m } : Act).put o.dst v) w') → Oper.wp P o { a0 with tmps := frJ ds a0.tmps m } w K Q)
    (hfin : ∀ m w, J m w → (∀ i, i < ops.size → m i ≠ none) → Q .normal { a0 with tmps := frJ ds a0.tmps m } w) :
    ∀ (fuel : Nat) (m : Nat → Option Value) (w : World) (listed : Array Bool), listed.size = ops.size → (∀ i, i < ops.size → listed.getD i true = (m i).isSome) → cntN ops.size m ≤ fuel → J m w → wpAny P .any ops Q fuel listed { a0 with tmps := frJ ds a0.tmps m } w := by
  have all : ∀ (m : Nat → Option Value) (listed : Array Bool), listed.size = ops.size → (∀ i, i < ops.size → listed.getD i true = (m i).isSome) → Region.ready .any ops listed = [] → ∀ n i, i < n → i < ops.size → m i ≠ none := by
    intro m listed hl hm hr n
    induction n with
    | zero => intro i h; omega
    | succ n ih =>
      intro i hi hs e
      have hmem : i ∈ Region.ready .any ops listed := by
        refine mem_ready.2 ⟨by rw [hm i hs, e]; rfl, ops[i], Array.getElem?_eq_getElem hs, fun x hx _ => ?_⟩
        have hlt := hdag i _ (Array.getElem?_eq_getElem hs) x hx
        have := ih x.on (by omega) (by omega)
        have h2 := hm x.on (by omega)
        rw [Option.isSome_iff_ne_none.2 this] at h2
        have h3 : listed.getD x.on false = listed.getD x.on true := by
          have : x.on < listed.size := by omega
          simp [Array.getD, this]
        rw [h3, h2]
      rw [hr] at hmem
      cases hmem
  intro fuel
  induction fuel with
  | zero =>
    intro m w listed hl hm hc hJ
    have hd : ∀ i, i < ops.size → m i ≠ none := fun i hi e => by
      have := sm_pos (f := fun i => if m i = none then 1 else 0) hi
      unfold cntN at hc
      simp [e] at this
      omega
    refine ⟨?_, hfin m w hJ hd⟩
    apply List.eq_nil_iff_forall_not_mem.2
    intro i hi
    obtain ⟨h1, o, h2, _⟩ := mem_ready.1 hi
    have hs := (Array.getElem?_eq_some_iff.1 h2).1
    rw [hm i hs, Option.isSome_iff_ne_none.2 (hd i hs)] at h1
    cases h1
  | succ fuel ih =>
    intro m w listed hl hm hc hJ
    refine ⟨fun hr => hfin m w hJ (fun i hi => all m listed hl hm hr (i + 1) i (by omega) hi), fun i hi => ?_⟩
    obtain ⟨h1, o, h2, h3⟩ := mem_ready.1 hi
    have hs := (Array.getElem?_eq_some_iff.1 h2).1
    have hn : m i = none := by
      rw [hm i hs] at h1
      cases e : m i with
      | none => rfl
      | some v => rw [e] at h1; cases h1
    obtain ⟨hg, s, hds, hmem⟩ := hops i o h2
    unfold wpOp
    rw [h2]
    simp only
    have hw : Region.wanted o (yielded ops ({ a0 with tmps := frJ ds a0.tmps m } : Act).tmps) = true := by simp [Region.wanted, hg]
    rw [if_pos hw]
    left
    refine hstep i o h2 m w hJ hn (fun e he hb => ?_) _ (fun v w' hJ' => ?_)
    · have h4 := h3 e he hb
      have hlt := hdag i o h2 e he
      have h5 := hm e.on (by omega)
      have h6 : listed.getD e.on false = listed.getD e.on true := by
        have : e.on < listed.size := by omega
        simp [Array.getD, this]
      rw [h6, h5] at h4
      intro q
      rw [q] at h4; cases h4
    · rw [hds]
      show wpAny P .any ops Q fuel _ { a0 with tmps := (frJ ds a0.tmps m).setIfInBounds s v } w'
      rw [← frJ_upd ds a0.tmps hn1 hn2 hmem hn]
      refine ih _ _ _ (by simpa using hl) (fun j hj => ?_) ?_ hJ'
      · by_cases e : j = i
        · subst e
          rw [upd_same]
          simp [Array.getD, hl, hj]
        · rw [upd_other _ _ e, ← hm j hj]
          simp [Array.getD, hl, hj, Array.getElem_setIfInBounds, Ne.symm e]
      · have := sm_one (n := ops.size) (k := i) (f := fun j => if upd m i (some v) j = none then 1 else 0) (g := fun j => if m j = none then 1 else 0) hs (fun j hj hji => by rw [upd_other _ _ hji])
        rw [upd_same, hn] at this
        simp at this
        unfold cntN at hc ⊢
        omega
theorem wp_region_J {id : Nat} (ds : List (Nat × Nat)) (J : (Nat → Option Value) → World → Prop) (a0 : Act) (w : World) (hm : P.follows .mixedOrders = true)
    (hops : ∀ (i : Nat) (o : Oper), ops[i]? = some o → o.guard = none ∧ ∃ s, o.dst = some s ∧ (i, s) ∈ ds)
    (hdag : ∀ (i : Nat) (o : Oper), ops[i]? = some o → ∀ e ∈ o.after, e.on < i)
    (hn1 : (ds.map (·.1)).Nodup) (hn2 : (ds.map (·.2)).Nodup)
    (hJ : J (fun _ => none) w.drew)
    (hstep : ∀ (i : Nat) (o : Oper), ops[i]? = some o → ∀ m w, J m w → m i = none → (∀ e ∈ o.after, Region.binds .any e = true → m e.on ≠ none) → ∀ K : Act → World → Prop, (∀ v w', J (upd m i (some v)) w' → K (({ a0 with tmps := frJ ds a0.tmps m } : Act).put o.dst v) w') → Oper.wp P o { a0 with tmps := frJ ds a0.tmps m } w K Q)
    (hfin : ∀ m w, J m w → (∀ i, i < ops.size → m i ≠ none) → Q .normal { a0 with tmps := frJ ds a0.tmps m } w) : (Code.region id ops true).wp P Q a0 w := by
  refine wp_region_any hm ?_
  have e : frJ ds a0.tmps (fun _ => none) = a0.tmps := by
    have : ∀ (ds : List (Nat × Nat)) (t : Array Value), frJ ds t (fun _ => none) = t := by
      intro ds
      induction ds with
      | nil => intro t; rfl
      | cons c ds ih => intro t; exact ih t
    exact this ds _
  have h := wpAny_J (Q := Q) (P := P) ds J a0 hops hdag hn1 hn2 hstep hfin ops.size (fun _ => none) w.drew (Array.replicate ops.size false) (by simp) (fun i hi => by simp [Array.getD, hi]) (by
    unfold cntN
    have one : ∀ n, sm n (fun _ => 1) = n := by
      intro n
      induction n with
      | zero => rfl
      | succ n ih => simp only [sm]; rw [ih]
    rw [sm_congr (g := fun _ => 1) (fun i _ => if_pos rfl), one]; exact Nat.le_refl _) hJ
  rw [e] at h
  exact h
/-- The side conditions as one Bool. -/
def okJ (ops : Array Oper) (ds : List (Nat × Nat)) : Bool :=
  (List.range ops.size).all fun i => match ops[i]? with
    | none => false
    | some o => o.guard.isNone && (o.after.all fun e => decide (e.on < i)) && match o.dst with
      | some s => ds.contains (i, s)
      | none => false
theorem okJ_at {ds : List (Nat × Nat)} (h : okJ ops ds = true) {i : Nat} {o : Oper} (ho : ops[i]? = some o) : o.guard = none ∧ (∀ e ∈ o.after, e.on < i) ∧ ∃ s, o.dst = some s ∧ (i, s) ∈ ds := by
  have hs := (Array.getElem?_eq_some_iff.1 ho).1
  have h1 := List.all_eq_true.1 h i (List.mem_range.2 hs)
  rw [ho] at h1
  simp only [Bool.and_eq_true] at h1
  obtain ⟨⟨h2, h3⟩, h4⟩ := h1
  refine ⟨Option.isNone_iff_eq_none.1 h2, fun e he => of_decide_eq_true (Array.all_eq_true_iff_forall_mem.1 h3 e he), ?_⟩
  cases hd : o.dst with
  | none => rw [hd] at h4; cases h4
  | some s => rw [hd] at h4; exact ⟨s, rfl, by simpa using h4⟩
theorem wp_region_JB {id : Nat} (ds : List (Nat × Nat)) (J : (Nat → Option Value) → World → Prop) (a0 : Act) (w : World) (hm : P.follows .mixedOrders = true)
    (hok : okJ ops ds = true) (hn1 : (ds.map (·.1)).Nodup) (hn2 : (ds.map (·.2)).Nodup)
    (hJ : J (fun _ => none) w.drew)
    (hstep : ∀ (i : Nat) (o : Oper), ops[i]? = some o → ∀ m w, J m w → m i = none → (∀ e ∈ o.after, Region.binds .any e = true → m e.on ≠ none) → ∀ K : Act → World → Prop, (∀ v w', J (upd m i (some v)) w' → K (({ a0 with tmps := frJ ds a0.tmps m } : Act).put o.dst v) w') → Oper.wp P o { a0 with tmps := frJ ds a0.tmps m } w K Q)
    (hfin : ∀ m w, J m w → (∀ i, i < ops.size → m i ≠ none) → Q .normal { a0 with tmps := frJ ds a0.tmps m } w) : (Code.region id ops true).wp P Q a0 w :=
  wp_region_J ds J a0 w hm (fun i o h => ⟨(okJ_at hok h).1, (okJ_at hok h).2.2⟩) (fun i o h => (okJ_at hok h).2.1) hn1 hn2 hJ hstep hfin
/-- What lies in a slot. -/
theorem frJ_at {m : Nat → Option Value} {i s : Nat} {v : Value} : ∀ (ds : List (Nat × Nat)) (t : Array Value), (ds.map (·.2)).Nodup → (i, s) ∈ ds → m i = some v → s < t.size → (frJ ds t m).getD s undef = v := by
  intro ds
  induction ds with
  | nil => intro t _ h; cases h
  | cons c ds ih =>
    intro t n h hm hs
    simp only [List.map_cons, List.nodup_cons] at n
    rcases List.mem_cons.1 h with e | e
    · subst e
      show (frJ ds (match m i with | some v' => t.setIfInBounds s v' | none => t) m).getD s undef = v
      rw [hm]
      simp only
      rw [frJ_set s v m ds t n.1]
      have : s < (frJ ds t m).size := by
        have hsz : ∀ (ds : List (Nat × Nat)) (t : Array Value), (frJ ds t m).size = t.size := by
          intro ds
          induction ds with
          | nil => intro t; rfl
          | cons c ds ih =>
            intro t
            show (frJ ds (match m c.1 with | some v' => t.setIfInBounds c.2 v' | none => t) m).size = t.size
            rw [ih]
            split <;> simp
        rw [hsz]; exact hs
      simp [this]
    · refine ih _ n.2 e hm ?_
      show s < (match m c.1 with | some v' => t.setIfInBounds c.2 v' | none => t).size
      split
      · simpa using hs
      · exact hs
theorem frJ_old {m : Nat → Option Value} {s : Nat} : ∀ (ds : List (Nat × Nat)) (t : Array Value), s ∉ ds.map (·.2) → (frJ ds t m).getD s undef = t.getD s undef := by
  intro ds
  induction ds with
  | nil => intro t _; rfl
  | cons c ds ih =>
    intro t h
    simp only [List.map_cons, List.mem_cons, not_or] at h
    show (frJ ds (match m c.1 with | some v' => t.setIfInBounds c.2 v' | none => t) m).getD s undef = t.getD s undef
    rw [ih _ h.2]
    split
    · rw [Array.getD_eq_getD_getElem?, Array.getD_eq_getD_getElem?, Array.getElem?_setIfInBounds_ne (Ne.symm h.1)]
    · rfl
end
section
variable {P : Program} {o : Oper} {a : Act} {w w' : World} {K : Act → World → Prop} {Q : Exit → Act → World → Prop} {x l c : Operand} {v v0 vl vc : Value} {t : TypeId}
theorem evJ {a0 : Act} {ds : List (Nat × Nat)} {m : Nat → Option Value} {i s : Nat} {v : Value} (hnd : (ds.map (·.2)).Nodup) (h : (i, s) ∈ ds) (hm : m i = some v) (hs : Nat.blt s a0.tmps.size = true) : ({ a0 with tmps := frJ ds a0.tmps m } : Act).eval (.tmp s) = v := frJ_at ds a0.tmps hnd h hm (by simpa [Nat.blt_eq] using hs)
theorem evO {a0 : Act} {ds : List (Nat × Nat)} {m : Nat → Option Value} {s : Nat} {v : Value} (h : s ∉ ds.map (·.2)) (hm : a0.tmps.getD s undef = v) : ({ a0 with tmps := frJ ds a0.tmps m } : Act).eval (.tmp s) = v := (frJ_old ds a0.tmps h).trans hm
theorem map4 {f : Operand → Value} {i1 i2 i3 i4 : Nat} {x1 x2 x3 x4 : Operand} {v1 v2 v3 v4 : Value} (e1 : f x1 = v1) (e2 : f x2 = v2) (e3 : f x3 = v3) (e4 : f x4 = v4) : (#[(i1, x1), (i2, x2), (i3, x3), (i4, x4)] : Array (Nat × Operand)).map (fun p => (p.1, f p.2)) = #[(i1, v1), (i2, v2), (i3, v3), (i4, v4)] := by simp [e1, e2, e3, e4]
theorem opMove (hop : o.op = .move x) (he : a.eval x = v) (h : K (a.put o.dst v) w) : Oper.wp P o a w K Q := by
  unfold Oper.wp
  simp [execOp, hop, he, Oper.upon]
  exact h
theorem opAssign (hop : o.op = .assign x) (he : a.eval x = v) (h : K (a.put o.dst v) w) : Oper.wp P o a w K Q := by
  unfold Oper.wp
  simp [execOp, hop, he, Oper.upon]
  exact h
theorem opMake (hop : o.op = .makeSlice t l c) (hl : a.eval l = vl) (hc : a.eval c = vc) (hr : (Instr.makeSlice t vl vc).run P w = .ok v w') (h : K (a.put o.dst v) w') : Oper.wp P o a w K Q := by
  unfold Oper.wp
  simp [execOp, hop, hl, hc, hr, Result.andThen, Oper.upon]
  exact h
theorem opBox (hop : o.op = .box t x) (he : a.eval x = v0) (hr : (Instr.box t v0).run P w = .ok v w') (h : K (a.put o.dst v) w') : Oper.wp P o a w K Q := by
  unfold Oper.wp
  simp [execOp, hop, he, hr, Result.andThen, Oper.upon]
  exact h
theorem opBuild {parts : Array (Nat × Operand)} {ps : Array (Nat × Value)} (hop : o.op = .build t parts) (he : parts.map (fun p => (p.1, a.eval p.2)) = ps) (hr : (Instr.build t ps).run P w = .ok v w') (h : K (a.put o.dst v) w') : Oper.wp P o a w K Q := by
  unfold Oper.wp
  simp [execOp, hop, he, hr, Result.andThen, Oper.upon]
  exact h
theorem opBuildS {n : Nat} {parts : Array (Nat × Operand)} {ps : Array (Nat × Value)} (hop : o.op = .buildSlice t n parts) (he : parts.map (fun p => (p.1, a.eval p.2)) = ps) (hr : (Instr.buildSlice t n ps).run P w = .ok v w') (h : K (a.put o.dst v) w') : Oper.wp P o a w K Q := by
  unfold Oper.wp
  simp [execOp, hop, he, hr, Result.andThen, Oper.upon]
  exact h
end
end Go.Proofs.YtgjdjdgondpjeaaGreat

/- RingKeeps: what an op does to the book. -/
namespace Go.Proofs.YtgjdjdgondpjeaaGreat
open Go.RowKit Go.Lib
set_option linter.unusedVariables false
set_option linter.unusedSimpArgs false
def BkI (k : Nat) (ds : Nat → Hs) (K : Bk) : Prop := ∀ i, i < k → (bAt K.puts i = decide (1 ≤ (ds i).ph ∧ (ds i).ph ≤ 6)) ∧ (bAt K.gets i = decide (7 ≤ (ds i).ph)) ∧ (1 ≤ (ds i).ph → (ds i).ph ≤ 6 → tAt K.nows i = (ds i).t)
theorem bAt_set {l : List Bool} {i j : Nat} {t : Bool} (hi : i < l.length) : bAt (l.set i t) j = if j = i then t else bAt l j := by
  unfold bAt
  rw [List.getElem?_set]
  by_cases e : j = i
  · subst e; simp [hi]
  · rw [if_neg (fun q => e q.symm), if_neg e]
theorem BkI.upd {k : Nat} {ds : Nat → Hs} {K K' : Bk} (h : BkI k ds K) {i : Nat} {d' : Hs} (hp : bAt K'.puts i = decide (1 ≤ d'.ph ∧ d'.ph ≤ 6)) (hg : bAt K'.gets i = decide (7 ≤ d'.ph)) (hn : 1 ≤ d'.ph → d'.ph ≤ 6 → tAt K'.nows i = d'.t) (h1 : ∀ j, j ≠ i → bAt K'.puts j = bAt K.puts j) (h2 : ∀ j, j ≠ i → bAt K'.gets j = bAt K.gets j) (h3 : ∀ j, j ≠ i → tAt K'.nows j = tAt K.nows j) : BkI k (upd ds i d') K' := fun j hj => by
  by_cases e : j = i
  · subst e; rw [upd_same]; exact ⟨hp, hg, hn⟩
  · rw [upd_other _ _ e, h1 j e, h2 j e, h3 j e]; exact h j hj
section
variable {w W : World} {X ab gc Y Z k : Nat} {tb : Array Value} {lv : Value} {s : Ast} {gP cP gH cH : Nat} {qs ps : Nat → Nat} {vs : Nat → Value} {gs : Nat → Bool} {ds : Nat → Hs} {b C KK : Nat} {row : List Tk} {H : Int} {B gN gU gG : Nat} {vi vo : Value} {K : Bk} {pl : Nat → Int}
def KOut (w : World) (X ab gc Y Z k : Nat) (tb : Array Value) (lv : Value) (s : Ast) (gP cP gH cH : Nat) (qs ps : Nat → Nat) (vs : Nat → Value) (gs : Nat → Bool) (ds' : Nat → Hs) (b C KK : Nat) (row' : List Tk) (H' : Int) (B gN gU gG : Nat) (K : Bk) (r : Ending) (w' : World) : Prop :=
  r = .returned (.bool true) ∧ ∃ vi' vo' K', BS w w' X ab gc Y Z k tb lv s gP cP gH cH qs ps vs gs ds' b C KK row' H' B gN gU gG vi' vo' K' ∧ BkI k ds' K' ∧ (∀ t, K'.ins.count t = K'.outs.count t + hcn row' H' ds' k t) ∧ K'.ins.length ≤ K.ins.length + 1 ∧ K'.outs.length ≤ K.outs.length + 1
theorem enter_all (hI : BkI k ds K) (hC : ∀ t, K.ins.count t = K.outs.count t + hcn row H ds k t) (hli : K.ins.length ≤ 4194304) (hlo : K.outs.length ≤ 4194304) (hR : RI b C s.cells k ds row H pl) {i : Nat} (hi : i < k) (kd who t1 t2 : Int) {s' : Ast}
    (h : BS w W X ab gc Y Z k tb lv s' gP cP gH cH qs ps vs gs (upd ds i (actD s b C kd (t1, t2) (ds i))) b C KK (actR s b C kd (ds i) row) (actH s b C kd (ds i) H) B gN gU gG vi vo K) :
    Calls Tryz.prog 18 #[.pointer (some ⟨B, 0, none⟩), .pointer (some ⟨qs i, 0, none⟩), .int .i64 i, .agg #[.int .i64 kd, .int .i64 who, .int .u64 t1, .int .u64 t2], .int .i64 (actE kd (t1, t2) (ds i))] W (KOut w X ab gc Y Z k tb lv s' gP cP gH cH qs ps vs gs (upd ds i (actD s b C kd (t1, t2) (ds i))) b C KK (actR s b C kd (ds i) row) (actH s b C kd (ds i) H) B gN gU gG K) := by
  have hlen := h.bm.len
  obtain ⟨I1, I2, I3⟩ := hI i hi
  have h12 := (hR.hs i hi).p1
  have same : actD s b C kd (t1, t2) (ds i) = ds i → actR s b C kd (ds i) row = row → actH s b C kd (ds i) H = H → ¬ (kd = 1 ∧ actE kd (t1, t2) (ds i) = 0) → ¬ (kd = 2 ∧ actE kd (t1, t2) (ds i) = 0) → Calls Tryz.prog 18 #[.pointer (some ⟨B, 0, none⟩), .pointer (some ⟨qs i, 0, none⟩), .int .i64 i, .agg #[.int .i64 kd, .int .i64 who, .int .u64 t1, .int .u64 t2], .int .i64 (actE kd (t1, t2) (ds i))] W (KOut w X ab gc Y Z k tb lv s' gP cP gH cH qs ps vs gs (upd ds i (actD s b C kd (t1, t2) (ds i))) b C KK (actR s b C kd (ds i) row) (actH s b C kd (ds i) H) B gN gU gG K) := fun e1 e2 e3 n1 n2 => by
    rw [e1, e2, e3, upd_id] at h ⊢
    refine (enter_quiet h hi kd who t1 t2 _ n1 n2 ?_).mono fun r w' ⟨hr, hb⟩ => ⟨hr, _, _, K, h.below hb, hI, hC, by omega, by omega⟩
    by_cases z : (ds i).ph = 0
    · right
      rw [I1, I2]
      exact ⟨decide_eq_false (by omega), decide_eq_false (by omega)⟩
    · exact .inl z
  have nR : ¬ (kd = 3 ∧ (ds i).ph ≠ 0) → actR s b C kd (ds i) row = row ∧ actH s b C kd (ds i) H = H := fun z => ⟨if_neg z, if_neg z⟩
  by_cases k1 : kd = 1
  · subst k1
    obtain ⟨r1, r2⟩ := nR (by omega)
    by_cases z : (ds i).ph = 0 ∧ t1 ≠ Nev
    · have eD : actD s b C 1 (t1, t2) (ds i) = (ds i).ins (t1, t2) := by unfold actD; rw [if_pos rfl, if_pos z]
      have eE : actE 1 (t1, t2) (ds i) = 0 := by unfold actE; rw [if_pos rfl, if_neg (by simpa using z.1), if_neg z.2]
      rw [eD, r1, r2] at h ⊢
      rw [eE]
      refine (enter_ins h hi who t1 t2 (by rw [upd_same]; exact (by decide : (1 : Nat) ≠ 0)) hli).mono fun r w' ⟨hr, vi', hb⟩ => ⟨hr, _, _, _, hb, ?_, fun t => ?_, by simp, by simp⟩
      · refine hI.upd ?_ ?_ (fun _ _ => ?_) (fun j hj => ?_) (fun j hj => rfl) (fun j hj => ?_)
        · rw [bAt_set (by rw [hlen.2.1]; exact hi), if_pos rfl]; rfl
        · rw [I2, z.1]; rfl
        · rw [tAt_set (by rw [hlen.1]; exact hi), if_pos rfl]; rfl
        · rw [bAt_set (by rw [hlen.2.1]; exact hi), if_neg hj]
        · rw [tAt_set (by rw [hlen.1]; exact hi), if_neg hj]
      · show (K.ins ++ [(t1, t2)]).count t = K.outs.count t + hcn row H (upd ds i ((ds i).ins (t1, t2))) k t
        rw [hcn_ins hi z.1, List.count_append, hC t]; omega
    · have eD : actD s b C 1 (t1, t2) (ds i) = ds i := by unfold actD; rw [if_pos rfl, if_neg z]
      have eE : actE 1 (t1, t2) (ds i) ≠ 0 := by
        unfold actE
        rw [if_pos rfl]
        by_cases q : (ds i).ph = 0
        · rw [if_neg (by simpa using q), if_pos (by
            by_cases q2 : t1 = Nev
            · exact q2
            · exact (z ⟨q, q2⟩).elim)]
          decide
        · rw [if_pos q]; decide
      exact same eD r1 r2 (fun q => eE q.2) (fun q => by omega)
  · by_cases k2 : kd = 2
    · subst k2
      obtain ⟨r1, r2⟩ := nR (by omega)
      by_cases z : (ds i).ph = 0
      · have eD : actD s b C 2 (t1, t2) (ds i) = (ds i).tak := by unfold actD; rw [if_neg (by decide), if_pos rfl, if_pos z]
        have eE : actE 2 (t1, t2) (ds i) = 0 := by unfold actE; rw [if_neg (by decide), if_pos rfl, if_neg (by simpa using z)]
        rw [eD, r1, r2] at h ⊢
        rw [eE]
        refine (enter_tak h hi who t1 t2 (by rw [upd_same]; exact (by decide : (7 : Nat) ≠ 0))).mono fun r w' ⟨hr, hb⟩ => ⟨hr, _, _, _, hb, ?_, fun t => ?_, by simp, by simp⟩
        · refine hI.upd ?_ ?_ (fun _ q => absurd (show 7 ≤ 6 from q) (by decide)) (fun j hj => rfl) (fun j hj => ?_) (fun j hj => rfl)
          · rw [I1, z]; rfl
          · rw [bAt_set (by rw [hlen.2.2.1]; exact hi), if_pos rfl]; rfl
          · rw [bAt_set (by rw [hlen.2.2.1]; exact hi), if_neg hj]
        · rw [hcn_tak hi z, hC t]
      · have eD : actD s b C 2 (t1, t2) (ds i) = ds i := by unfold actD; rw [if_neg (by decide), if_pos rfl, if_neg z]
        have eE : actE 2 (t1, t2) (ds i) ≠ 0 := by unfold actE; rw [if_neg (by decide), if_pos rfl, if_pos z]; decide
        exact same eD r1 r2 (fun q => by omega) (fun q => eE q.2)
    · by_cases k3 : kd = 3
      · subst k3
        by_cases z : (ds i).ph = 0
        · obtain ⟨r1, r2⟩ := nR (fun q => q.2 z)
          have eD : actD s b C 3 (t1, t2) (ds i) = ds i := by unfold actD stD; rw [if_neg (by decide), if_neg (by decide), if_pos rfl, if_pos z]
          exact same eD r1 r2 (fun q => by omega) (fun q => by omega)
        · obtain ⟨x, hx⟩ : ∃ x, x = nth s.cells ((ds i).cell b C) := ⟨_, rfl⟩
          have eD : actD s b C 3 (t1, t2) (ds i) = (ds i).next C x := by unfold actD stD; rw [if_neg (by decide), if_neg (by decide), if_pos rfl, if_neg z, hx]
          have eR : actR s b C 3 (ds i) row = (ds i).rowN x row := by unfold actR; rw [if_pos ⟨rfl, z⟩, hx]
          have eH : actH s b C 3 (ds i) H = (ds i).gonN x H := by unfold actH; rw [if_pos ⟨rfl, z⟩, hx]
          have hcs := fun t => hR.hcn_step hi z t hx
          have hgo := goes_next C (ds i) x z h12
          rw [eD, eR, eH] at h ⊢
          generalize hD : (ds i).next C x = D at h hcs hgo ⊢
          generalize (ds i).rowN x row = row' at h hcs ⊢
          generalize (ds i).gonN x H = H' at h hcs ⊢
          by_cases z' : D.ph = 0
          · simp only [z', if_true] at hcs
            have gp : bAt (K.puts.set i false) i = decide (1 ≤ D.ph ∧ D.ph ≤ 6) := by rw [bAt_set (by rw [hlen.2.1]; exact hi), if_pos rfl, z']; rfl
            have gg : bAt (K.gets.set i false) i = decide (7 ≤ D.ph) := by rw [bAt_set (by rw [hlen.2.2.1]; exact hi), if_pos rfl, z']; rfl
            have op : ∀ j, j ≠ i → bAt (K.puts.set i false) j = bAt K.puts j := fun j hj => by rw [bAt_set (by rw [hlen.2.1]; exact hi), if_neg hj]
            have og : ∀ j, j ≠ i → bAt (K.gets.set i false) j = bAt K.gets j := fun j hj => by rw [bAt_set (by rw [hlen.2.2.1]; exact hi), if_neg hj]
            have fin : ∀ (ins outs : List Tk), BkI k (upd ds i D) ⟨ins, outs, K.nows, K.puts.set i false, K.gets.set i false⟩ := fun ins outs => hI.upd gp gg (fun q => by omega) op og (fun _ _ => rfl)
            have u0 : (upd ds i D i).ph = 0 := by rw [upd_same]; exact z'
            rcases hgo.fin z' with ⟨l6, ⟨st, out⟩ | ⟨st, out⟩⟩ | ⟨l7, ⟨st, out⟩ | ⟨st, out⟩⟩
            · have hp : bAt K.puts i = true := by rw [I1]; exact decide_eq_true (by omega)
              have hg : bAt K.gets i = false := by rw [I2]; exact decide_eq_false (by omega)
              have hnow := I3 (by omega) l6
              rw [out] at hcs
              have hmem : (ds i).t ∈ K.ins := List.count_pos_iff.1 (by
                have := hC (ds i).t
                have := hcs (ds i).t
                rw [List.count_singleton] at this
                simp at this
                omega)
              refine (enter_full h hi who t1 t2 _ u0 (by rw [upd_same]; exact st) (by rw [upd_same]; exact out) hnow hmem hli hp hg).mono fun r w' ⟨hr, vi', vo', hb⟩ => ⟨hr, _, _, _, hb, fin _ _, fun t => ?_, by show (K.ins.erase (ds i).t).length ≤ _; have := List.length_erase_le (a := (ds i).t) (l := K.ins); omega, by simp⟩
              have q1 := hC t
              have q2 := hcs t
              show (K.ins.erase (ds i).t).count t = K.outs.count t + hcn row' H' (upd ds i D) k t
              rw [List.count_erase]
              rw [List.count_singleton] at q2
              by_cases e : (ds i).t = t
              · subst e
                simp at q2 ⊢
                omega
              · have e' : ¬ (t = (ds i).t) := fun q => e q.symm
                simp [e] at q2
                simp [e]
                omega
            · have hp : bAt K.puts i = true := by rw [I1]; exact decide_eq_true (by omega)
              have hg : bAt K.gets i = false := by rw [I2]; exact decide_eq_false (by omega)
              rw [out] at hcs
              refine (enter_put h hi who t1 t2 _ u0 (by rw [upd_same]; exact st) (by rw [upd_same]; exact out) hp hg).mono fun r w' ⟨hr, vi', vo', hb⟩ => ⟨hr, _, _, _, hb, fin _ _, fun t => ?_, by simp, by simp⟩
              have q1 := hC t
              have q2 := hcs t
              simp only [List.count_nil] at q2
              show K.ins.count t = K.outs.count t + hcn row' H' (upd ds i D) k t
              omega
            · have hp : bAt K.puts i = false := by rw [I1]; exact decide_eq_false (by omega)
              have hg : bAt K.gets i = true := by rw [I2]; exact decide_eq_true (by omega)
              rw [out] at hcs
              refine (enter_none h hi who t1 t2 _ u0 (by rw [upd_same]; exact st) (by rw [upd_same]; exact out) hp hg).mono fun r w' ⟨hr, vi', vo', hb⟩ => ⟨hr, _, _, _, hb, fin _ _, fun t => ?_, by simp, by simp⟩
              have q1 := hC t
              have q2 := hcs t
              simp only [List.count_nil] at q2
              show K.ins.count t = K.outs.count t + hcn row' H' (upd ds i D) k t
              omega
            · have hp : bAt K.puts i = false := by rw [I1]; exact decide_eq_false (by omega)
              have hg : bAt K.gets i = true := by rw [I2]; exact decide_eq_true (by omega)
              rw [out] at hcs
              refine (enter_out (t := (ds i).t) h hi who t1 t2 _ u0 (by rw [upd_same]; exact st) (by rw [upd_same]; exact out) hlo hp hg).mono fun r w' ⟨hr, vi', vo', hb⟩ => ⟨hr, _, _, _, hb, fin _ _, fun t => ?_, by simp, by simp⟩
              have q1 := hC t
              have q2 := hcs t
              show K.ins.count t = (K.outs ++ [(ds i).t]).count t + hcn row' H' (upd ds i D) k t
              rw [List.count_append]
              omega
          · obtain ⟨g1, g2, g3⟩ := hgo.run z'
            simp only [z', if_false, Nat.add_zero] at hcs
            refine (enter_quiet h hi 3 who t1 t2 _ (fun q => by omega) (fun q => by omega) (.inl (by rw [upd_same]; exact z'))).mono fun r w' ⟨hr, hb⟩ => ⟨hr, _, _, K, h.below hb, ?_, fun t => by rw [hcs t]; exact hC t, by omega, by omega⟩
            refine hI.upd ?_ ?_ (fun q1 q2 => ?_) (fun _ _ => rfl) (fun _ _ => rfl) (fun _ _ => rfl)
            · rw [I1]; exact decide_eq_decide.2 (by omega)
            · rw [I2]; exact decide_eq_decide.2 (by omega)
            · rw [g3 (g1.1 q2)]; exact I3 (by omega) (g1.1 q2)
      · obtain ⟨r1, r2⟩ := nR (fun q => k3 q.1)
        have eD : actD s b C kd (t1, t2) (ds i) = ds i := by unfold actD; rw [if_neg k1, if_neg k2, if_neg k3]
        exact same eD r1 r2 (fun q => k1 q.1) (fun q => k2 q.1)
end
end Go.Proofs.YtgjdjdgondpjeaaGreat

/- RingKeeps: the book at its start. -/
namespace Go.Proofs.YtgjdjdgondpjeaaGreat
open Go.RowKit Go.Lib
set_option linter.unusedVariables false
set_option linter.unusedSimpArgs false
theorem infoB : (Tryz.prog.info? 4).map (fun i => (i.zero, i.size, i.bytes)) = some (some (.bool false), 1, 1) := by kernel_rfl
theorem make_bs (k : Nat) (hk : k ≤ 1024) (W : World) : (Instr.makeSlice 58 (.int .i64 (k : Int)) (.int .i64 (k : Int))).run Tryz.prog W = .ok (.slice (some ⟨W.heap.size, 0, none⟩) k k) (W.alloc (.cells (madeCells #[.bool false] k) 4)) := by
  obtain ⟨i0, hi, hz0, hz1, hz2⟩ := info_parts infoB
  have hr := run_make (P := Tryz.prog) W 58 4 i0 _ Tryz.underlying58 hi hz0 .i64 .i64 k k (by omega) (Int.le_refl _) (by rw [hz2]; omega) (by omega)
  simp only [Int.toNat_natCast, hz1, Nat.mul_one] at hr
  exact hr
theorem step_freshT2 {P : Program} {w : World} {ops : Array Oper} {o : Oper} {a : Act} {K : Act → World → Prop} {Q : Exit → Act → World → Prop} {E : Prop} (hgd : o.guard = none) (s x : Operand) (t : TypeId)
    (hop : o.op = .call { callee := .builtin .append, args := #[s, x], argTypes := #[t, t] })
    (e : TypeId) (i : TypeInfo) (z : Value) (ht : P.underlying t = some (.slice e)) (hi : P.info? e = some i) (hz : i.zero = some z)
    (hsize : i.size = 2) (hby : i.bytes = 16) (hzs : z.cells.size = 2) (B : Nat) (fr : Nat) (hB : w.ownsRow fr e 2 (.slice (some ⟨B, 0, none⟩) 0 0) 0 []) (hfr : fr ≤ w.heap.size) (xv : Value) (xs : List Tk) (hs : a.eval s = .slice (some ⟨B, 0, none⟩) 0 0) (hx : a.eval x = xv) (hrow : TAt w xv xs) (hb : xs.length * 16 ≤ 140737488355328) (h63 : xs.length ≤ maxLen)
    (h : ∀ v' w', w'.ownsRow fr e 2 v' xs.length (tCells xs) → Below w.heap.size w w' → (∀ g, v'.ownBlock = some g → g = B ∨ w.heap.size ≤ g) → K (a.put o.dst v') w') :
    if Region.wanted o (yielded ops a.tmps) = true then Oper.wp P o a w K Q else E := by
  have hw : Region.wanted o (yielded ops a.tmps) = true := by simp [Region.wanted, hgd]
  rw [if_pos hw]
  obtain ⟨xo, c, rfl, h1, h2, h4⟩ := hrow
  rcases Nat.eq_zero_or_pos xs.length with h0 | h0
  · obtain rfl : xs = [] := List.eq_nil_of_length_eq_zero h0
    have hsrc : Src P i.size t (.slice xo 0 c) 0 [] w := by
      cases xo with
      | none => exact Src.ofNil w ht c
      | some a => exact Src.ofSlice w ht a 0 c [] (by simp) (fun j u h => by simp at h) (by simp)
    have hrun := run_append_nothing w t t o.type e i ht hi (some ⟨B, 0, none⟩) 0 0 (Nat.le_refl _) _ hsrc
    have hx' : a.eval x = .slice xo 0 c := hx
    unfold Oper.wp
    simp [execOp, hop, resolve, invoke, builtin, hs, hx', hrun, Result.andThen]
    exact h _ _ (by simpa [tCells] using hB) (Below.refl _ _) (fun g hg => .inl (Option.some.inj hg).symm)
  · obtain ⟨g, q, rfl, _, _⟩ := h4 0 h0
    have h5 : ∀ i, i < xs.length → w.cell? ⟨g, q + i * 2, none⟩ = some (.int .u64 (tAt xs i).1) ∧ w.cell? ⟨g, q + i * 2 + 1, none⟩ = some (.int .u64 (tAt xs i).2) := by
      intro i hi
      obtain ⟨g', q', he, p1, p2⟩ := h4 i hi
      simp only [Option.some.injEq, Addr.mk.injEq] at he
      obtain ⟨rfl, rfl, _⟩ := he
      exact ⟨p1, p2⟩
    obtain ⟨v', w', hrun, hown, hgrow⟩ := run_append_arg_grows (P := P) (w := w) t o.type e i z 2 16 ht hi hz hsize hby hzs (by decide) ⟨B, 0, none⟩ 0 0 [] rfl (fun j u h => by simp at h) ⟨g, q, none⟩ xs.length c (tCells xs) (by rw [tCells_length]) (tCells_at_all h5) (by omega) (by omega) (by rw [Nat.zero_add]; exact hb)
    simp only [Nat.zero_add, List.nil_append] at hown
    have hbel : Below w.heap.size w w' := (Below.refl _ _).grown hgrow (Nat.le_refl _) (by intro j hj; cases hj)
    unfold Oper.wp
    simp [execOp, hop, resolve, invoke, builtin, hs, hx, hrun, Result.andThen]
    refine h _ _ ?_ hbel (fun g hg => .inr (own_tyz hown hg).1)
    obtain ⟨hl, hh⟩ := hown
    exact ⟨hl, hh.imp id fun ⟨g, cap, cur, he, hg, r⟩ => ⟨g, cap, cur, he, Nat.le_trans hfr hg, r⟩⟩
theorem heap_atB {X : World} {B : Nat} {o : Obj} (hB : B = X.heap.size) : (X.alloc o).heap[B]? = some o := by subst hB; exact heap_new _ _
theorem town_at {V : World} {lo B k : Nat} (hk : k ≤ 1024) (hl : lo ≤ B) (h : V.heap[B]? = some (.cells (madeCells #[.int .u64 0, .int .u64 0] (k * 2)) 42 (0, 0))) : TOwn V lo (.slice (some ⟨B, 0, none⟩) k k) (List.replicate k (0, 0)) := by
  refine ⟨by rw [List.length_replicate, tCells_length, List.length_replicate], .inr ⟨B, k, _, by rw [List.length_replicate], hl, h, by rw [List.length_replicate]; exact Nat.le_refl _, by unfold maxLen; omega, ?_, ?_⟩⟩
  · rw [made_tk]; simp [tCells_length]
  · rw [made_tk, List.length_replicate]
    rw [List.take_of_length_le (by simp [tCells_length])]
theorem bown_at {V : World} {lo B m : Nat} (hm : m ≤ 1024) (hl : lo ≤ B) (h : V.heap[B]? = some (.cells (madeCells #[.bool false] m) 4 (0, 0))) : BOwn V lo (.slice (some ⟨B, 0, none⟩) m m) (List.replicate m false) := by
  have e : (madeCells #[.bool false] m).toList = (List.replicate m false).map Value.bool := by
    apply List.ext_getElem?
    intro i
    simp [madeCells]
    by_cases hi : i < m
    · simp [hi, Nat.mod_one]
    · simp [hi]
  refine ⟨by simp, .inr ⟨B, m, madeCells #[.bool false] m, by rw [List.length_replicate], hl, h, by rw [List.length_replicate]; exact Nat.le_refl _, by unfold maxLen; omega, ?_, ?_⟩⟩
  · rw [← Array.length_toList, e]; simp
  · rw [e, List.take_of_length_le (by simp)]
/-- The book as it is made. -/
structure Sta (W W' : World) (B gN gU gG k : Nat) (vi : Value) (l : List Tk) : Prop where
  bel : Below W.heap.size W W'
  lob : W.heap.size ≤ B
  box : W'.heap[B]? = some (.cells #[vi, .slice none 0 0, .slice (some ⟨gN, 0, none⟩) k k, .slice (some ⟨gU, 0, none⟩) k k, .slice (some ⟨gG, 0, none⟩) k k] 60 (0, 0))
  oi : TOwn W' W.heap.size vi l
  on : TOwn W' W.heap.size (.slice (some ⟨gN, 0, none⟩) k k) (List.replicate k (0, 0))
  ou : BOwn W' W.heap.size (.slice (some ⟨gU, 0, none⟩) k k) (List.replicate k false)
  og : BOwn W' W.heap.size (.slice (some ⟨gG, 0, none⟩) k k) (List.replicate k false)
  ne : gU ≠ gG
  ni : vi.ownBlock ≠ some gN
/-- What is told while the book is made in any order. -/
structure JB (W : World) (k : Nat) (l : List Tk) (tv : Value) (m : Nat → Option Value) (w : World) : Prop where
  bel : Below W.heap.size W w
  a1 : ∀ v, m 1 = some v → v = tv
  a3 : ∀ v, m 3 = some v → v = .int .i64 k
  a5 : ∀ v, m 5 = some v → v = .int .i64 k
  a7 : ∀ v, m 7 = some v → v = .int .i64 k
  a0 : ∀ v, m 0 = some v → ∃ B, v = .slice (some ⟨B, 0, none⟩) 0 0 ∧ W.heap.size ≤ B ∧ B < w.heap.size ∧ w.ownsRow W.heap.size 42 2 v 0 []
  a2 : ∀ v, m 2 = some v → TOwn w W.heap.size v l ∧ ∃ a c, v = .slice a l.length c
  a4 : ∀ v, m 4 = some v → ∃ g, v = .slice (some ⟨g, 0, none⟩) k k ∧ W.heap.size ≤ g ∧ w.heap[g]? = some (.cells (madeCells #[.int .u64 0, .int .u64 0] (k * 2)) 42 (0, 0))
  a6 : ∀ v, m 6 = some v → ∃ g, v = .slice (some ⟨g, 0, none⟩) k k ∧ W.heap.size ≤ g ∧ w.heap[g]? = some (.cells (madeCells #[.bool false] k) 4 (0, 0))
  a8 : ∀ v, m 8 = some v → ∃ g, v = .slice (some ⟨g, 0, none⟩) k k ∧ W.heap.size ≤ g ∧ w.heap[g]? = some (.cells (madeCells #[.bool false] k) 4 (0, 0))
  ne : ∀ v u g, m 6 = some v → m 8 = some u → v.ownBlock = some g → u.ownBlock ≠ some g
  n4 : ∀ v u g, m 4 = some v → m 0 = some u → v.ownBlock = some g → u.ownBlock ≠ some g
  n2 : ∀ v u g, m 4 = some v → m 2 = some u → v.ownBlock = some g → u.ownBlock ≠ some g
  a9 : ∀ v, m 9 = some v → ∃ v2 v4 v6 v8, m 2 = some v2 ∧ m 4 = some v4 ∧ m 6 = some v6 ∧ m 8 = some v8 ∧ v = .agg #[v2, .slice none 0 0, v4, v6, v8]
  a10 : ∀ v, m 10 = some v → ∃ B v2 v4 v6 v8, m 2 = some v2 ∧ m 4 = some v4 ∧ m 6 = some v6 ∧ m 8 = some v8 ∧ v = .pointer (some ⟨B, 0, none⟩) ∧ W.heap.size ≤ B ∧ w.heap[B]? = some (.cells #[v2, .slice none 0 0, v4, v6, v8] 60 (0, 0))
  a11 : ∀ v, m 11 = some v → m 10 = some v
theorem run_bs0 (w : World) : (Instr.buildSlice 24 0 #[]).run Tryz.prog w = .ok (.slice (some ⟨w.heap.size, 0, none⟩) 0 0) (w.alloc (.cells #[] 42)) := by go_simp
theorem run_bb (a2 : Option Addr) (n2 c2 gN gU gG k : Nat) (w : World) : (Instr.build 60 #[(0, .slice a2 n2 c2), (2, .slice (some ⟨gN, 0, none⟩) k k), (3, .slice (some ⟨gU, 0, none⟩) k k), (4, .slice (some ⟨gG, 0, none⟩) k k)]).run Tryz.prog w = .ok (.agg #[.slice a2 n2 c2, .slice none 0 0, .slice (some ⟨gN, 0, none⟩) k k, .slice (some ⟨gU, 0, none⟩) k k, .slice (some ⟨gG, 0, none⟩) k k]) w := by go_simp
theorem run_box (a2 : Option Addr) (n2 c2 gN gU gG k : Nat) (w : World) : (Instr.box 60 (.agg #[.slice a2 n2 c2, .slice none 0 0, .slice (some ⟨gN, 0, none⟩) k k, .slice (some ⟨gU, 0, none⟩) k k, .slice (some ⟨gG, 0, none⟩) k k])).run Tryz.prog w = .ok (.pointer (some ⟨w.heap.size, 0, none⟩)) (w.alloc (.cells #[.slice a2 n2 c2, .slice none 0 0, .slice (some ⟨gN, 0, none⟩) k k, .slice (some ⟨gU, 0, none⟩) k k, .slice (some ⟨gG, 0, none⟩) k k] 60)) := by go_simp
theorem JB.sz {W : World} {k : Nat} {l : List Tk} {tv : Value} {m : Nat → Option Value} {w : World} (h : JB W k l tv m w) : W.heap.size ≤ w.heap.size := h.bel.size
/-- An operation that makes a block. -/
theorem JB.keep {W : World} {k : Nat} {l : List Tk} {tv : Value} {m m' : Nat → Option Value} {w w' : World} (h : JB W k l tv m w) (hb : Below w.heap.size w w') (hm : ∀ i, i ≤ 11 → m' i = m i) : JB W k l tv m' w' := by
  have e := fun i (hi : i ≤ 11) => hm i hi
  have blk : ∀ {g : Nat} {o : Obj}, w.heap[g]? = some o → w'.heap[g]? = some o := fun hg => (hb.block _ (lt_of_heap hg)).trans hg
  refine ⟨below_on h.bel hb, ?_, ?_, ?_, ?_, ?_, ?_, ?_, ?_, ?_, ?_, ?_, ?_, ?_, ?_, ?_⟩
  · rw [e 1 (by decide)]; exact h.a1
  · rw [e 3 (by decide)]; exact h.a3
  · rw [e 5 (by decide)]; exact h.a5
  · rw [e 7 (by decide)]; exact h.a7
  · rw [e 0 (by decide)]; intro v hv
    obtain ⟨B, h1, h2, h3, h4⟩ := h.a0 v hv
    exact ⟨B, h1, h2, Nat.lt_of_lt_of_le h3 hb.size, own_stayR h4 (fun g hg => by obtain ⟨_, cs, q⟩ := own_tyz h4 hg; exact hb.block _ (lt_of_heap q))⟩
  · rw [e 2 (by decide)]; intro v hv; exact ⟨(h.a2 v hv).1.below hb, (h.a2 v hv).2⟩
  · rw [e 4 (by decide)]; intro v hv; obtain ⟨g, h1, h2, h3⟩ := h.a4 v hv; exact ⟨g, h1, h2, blk h3⟩
  · rw [e 6 (by decide)]; intro v hv; obtain ⟨g, h1, h2, h3⟩ := h.a6 v hv; exact ⟨g, h1, h2, blk h3⟩
  · rw [e 8 (by decide)]; intro v hv; obtain ⟨g, h1, h2, h3⟩ := h.a8 v hv; exact ⟨g, h1, h2, blk h3⟩
  · rw [e 6 (by decide), e 8 (by decide)]; exact h.ne
  · rw [e 4 (by decide), e 0 (by decide)]; exact h.n4
  · rw [e 4 (by decide), e 2 (by decide)]; exact h.n2
  · rw [e 9 (by decide), e 2 (by decide), e 4 (by decide), e 6 (by decide), e 8 (by decide)]; exact h.a9
  · rw [e 10 (by decide), e 2 (by decide), e 4 (by decide), e 6 (by decide), e 8 (by decide)]; intro v hv
    obtain ⟨B, v2, v4, v6, v8, k1, k2, k3, k4, k5, k6, k7⟩ := h.a10 v hv
    exact ⟨B, v2, v4, v6, v8, k1, k2, k3, k4, k5, k6, blk k7⟩
  · rw [e 11 (by decide), e 10 (by decide)]; exact h.a11
theorem JB.s1 {W : World} {k : Nat} {l : List Tk} {tv : Value} {m : Nat → Option Value} {w : World} (h : JB W k l tv m w) (hn : m 1 = none)  : JB W k l tv (upd m 1 (some (tv))) w := by
  have h2 := h
  refine ⟨h2.bel, ?_, ?_, ?_, ?_, ?_, ?_, ?_, ?_, ?_, ?_, ?_, ?_, ?_, ?_, ?_⟩
  · rw [upd_same]; intro v hv; exact (Option.some.inj hv).symm
  · rw [upd_other _ _ (show (3 : Nat) ≠ 1 by decide)]; exact h2.a3
  · rw [upd_other _ _ (show (5 : Nat) ≠ 1 by decide)]; exact h2.a5
  · rw [upd_other _ _ (show (7 : Nat) ≠ 1 by decide)]; exact h2.a7
  · rw [upd_other _ _ (show (0 : Nat) ≠ 1 by decide)]; exact h2.a0
  · rw [upd_other _ _ (show (2 : Nat) ≠ 1 by decide)]; exact h2.a2
  · rw [upd_other _ _ (show (4 : Nat) ≠ 1 by decide)]; exact h2.a4
  · rw [upd_other _ _ (show (6 : Nat) ≠ 1 by decide)]; exact h2.a6
  · rw [upd_other _ _ (show (8 : Nat) ≠ 1 by decide)]; exact h2.a8
  · rw [upd_other _ _ (show (6 : Nat) ≠ 1 by decide), upd_other _ _ (show (8 : Nat) ≠ 1 by decide)]; exact h2.ne
  · rw [upd_other _ _ (show (4 : Nat) ≠ 1 by decide), upd_other _ _ (show (0 : Nat) ≠ 1 by decide)]; exact h2.n4
  · rw [upd_other _ _ (show (4 : Nat) ≠ 1 by decide), upd_other _ _ (show (2 : Nat) ≠ 1 by decide)]; exact h2.n2
  · rw [upd_other _ _ (show (9 : Nat) ≠ 1 by decide), upd_other _ _ (show (2 : Nat) ≠ 1 by decide), upd_other _ _ (show (4 : Nat) ≠ 1 by decide), upd_other _ _ (show (6 : Nat) ≠ 1 by decide), upd_other _ _ (show (8 : Nat) ≠ 1 by decide)]; exact h2.a9
  · rw [upd_other _ _ (show (10 : Nat) ≠ 1 by decide), upd_other _ _ (show (2 : Nat) ≠ 1 by decide), upd_other _ _ (show (4 : Nat) ≠ 1 by decide), upd_other _ _ (show (6 : Nat) ≠ 1 by decide), upd_other _ _ (show (8 : Nat) ≠ 1 by decide)]; exact h2.a10
  · rw [upd_other _ _ (show (11 : Nat) ≠ 1 by decide), upd_other _ _ (show (10 : Nat) ≠ 1 by decide)]; exact h2.a11
theorem JB.s3 {W : World} {k : Nat} {l : List Tk} {tv : Value} {m : Nat → Option Value} {w : World} (h : JB W k l tv m w) (hn : m 3 = none)  : JB W k l tv (upd m 3 (some (.int .i64 k))) w := by
  have h2 := h
  refine ⟨h2.bel, ?_, ?_, ?_, ?_, ?_, ?_, ?_, ?_, ?_, ?_, ?_, ?_, ?_, ?_, ?_⟩
  · rw [upd_other _ _ (show (1 : Nat) ≠ 3 by decide)]; exact h2.a1
  · rw [upd_same]; intro v hv; exact (Option.some.inj hv).symm
  · rw [upd_other _ _ (show (5 : Nat) ≠ 3 by decide)]; exact h2.a5
  · rw [upd_other _ _ (show (7 : Nat) ≠ 3 by decide)]; exact h2.a7
  · rw [upd_other _ _ (show (0 : Nat) ≠ 3 by decide)]; exact h2.a0
  · rw [upd_other _ _ (show (2 : Nat) ≠ 3 by decide)]; exact h2.a2
  · rw [upd_other _ _ (show (4 : Nat) ≠ 3 by decide)]; exact h2.a4
  · rw [upd_other _ _ (show (6 : Nat) ≠ 3 by decide)]; exact h2.a6
  · rw [upd_other _ _ (show (8 : Nat) ≠ 3 by decide)]; exact h2.a8
  · rw [upd_other _ _ (show (6 : Nat) ≠ 3 by decide), upd_other _ _ (show (8 : Nat) ≠ 3 by decide)]; exact h2.ne
  · rw [upd_other _ _ (show (4 : Nat) ≠ 3 by decide), upd_other _ _ (show (0 : Nat) ≠ 3 by decide)]; exact h2.n4
  · rw [upd_other _ _ (show (4 : Nat) ≠ 3 by decide), upd_other _ _ (show (2 : Nat) ≠ 3 by decide)]; exact h2.n2
  · rw [upd_other _ _ (show (9 : Nat) ≠ 3 by decide), upd_other _ _ (show (2 : Nat) ≠ 3 by decide), upd_other _ _ (show (4 : Nat) ≠ 3 by decide), upd_other _ _ (show (6 : Nat) ≠ 3 by decide), upd_other _ _ (show (8 : Nat) ≠ 3 by decide)]; exact h2.a9
  · rw [upd_other _ _ (show (10 : Nat) ≠ 3 by decide), upd_other _ _ (show (2 : Nat) ≠ 3 by decide), upd_other _ _ (show (4 : Nat) ≠ 3 by decide), upd_other _ _ (show (6 : Nat) ≠ 3 by decide), upd_other _ _ (show (8 : Nat) ≠ 3 by decide)]; exact h2.a10
  · rw [upd_other _ _ (show (11 : Nat) ≠ 3 by decide), upd_other _ _ (show (10 : Nat) ≠ 3 by decide)]; exact h2.a11
theorem JB.s5 {W : World} {k : Nat} {l : List Tk} {tv : Value} {m : Nat → Option Value} {w : World} (h : JB W k l tv m w) (hn : m 5 = none)  : JB W k l tv (upd m 5 (some (.int .i64 k))) w := by
  have h2 := h
  refine ⟨h2.bel, ?_, ?_, ?_, ?_, ?_, ?_, ?_, ?_, ?_, ?_, ?_, ?_, ?_, ?_, ?_⟩
  · rw [upd_other _ _ (show (1 : Nat) ≠ 5 by decide)]; exact h2.a1
  · rw [upd_other _ _ (show (3 : Nat) ≠ 5 by decide)]; exact h2.a3
  · rw [upd_same]; intro v hv; exact (Option.some.inj hv).symm
  · rw [upd_other _ _ (show (7 : Nat) ≠ 5 by decide)]; exact h2.a7
  · rw [upd_other _ _ (show (0 : Nat) ≠ 5 by decide)]; exact h2.a0
  · rw [upd_other _ _ (show (2 : Nat) ≠ 5 by decide)]; exact h2.a2
  · rw [upd_other _ _ (show (4 : Nat) ≠ 5 by decide)]; exact h2.a4
  · rw [upd_other _ _ (show (6 : Nat) ≠ 5 by decide)]; exact h2.a6
  · rw [upd_other _ _ (show (8 : Nat) ≠ 5 by decide)]; exact h2.a8
  · rw [upd_other _ _ (show (6 : Nat) ≠ 5 by decide), upd_other _ _ (show (8 : Nat) ≠ 5 by decide)]; exact h2.ne
  · rw [upd_other _ _ (show (4 : Nat) ≠ 5 by decide), upd_other _ _ (show (0 : Nat) ≠ 5 by decide)]; exact h2.n4
  · rw [upd_other _ _ (show (4 : Nat) ≠ 5 by decide), upd_other _ _ (show (2 : Nat) ≠ 5 by decide)]; exact h2.n2
  · rw [upd_other _ _ (show (9 : Nat) ≠ 5 by decide), upd_other _ _ (show (2 : Nat) ≠ 5 by decide), upd_other _ _ (show (4 : Nat) ≠ 5 by decide), upd_other _ _ (show (6 : Nat) ≠ 5 by decide), upd_other _ _ (show (8 : Nat) ≠ 5 by decide)]; exact h2.a9
  · rw [upd_other _ _ (show (10 : Nat) ≠ 5 by decide), upd_other _ _ (show (2 : Nat) ≠ 5 by decide), upd_other _ _ (show (4 : Nat) ≠ 5 by decide), upd_other _ _ (show (6 : Nat) ≠ 5 by decide), upd_other _ _ (show (8 : Nat) ≠ 5 by decide)]; exact h2.a10
  · rw [upd_other _ _ (show (11 : Nat) ≠ 5 by decide), upd_other _ _ (show (10 : Nat) ≠ 5 by decide)]; exact h2.a11
theorem JB.s7 {W : World} {k : Nat} {l : List Tk} {tv : Value} {m : Nat → Option Value} {w : World} (h : JB W k l tv m w) (hn : m 7 = none)  : JB W k l tv (upd m 7 (some (.int .i64 k))) w := by
  have h2 := h
  refine ⟨h2.bel, ?_, ?_, ?_, ?_, ?_, ?_, ?_, ?_, ?_, ?_, ?_, ?_, ?_, ?_, ?_⟩
  · rw [upd_other _ _ (show (1 : Nat) ≠ 7 by decide)]; exact h2.a1
  · rw [upd_other _ _ (show (3 : Nat) ≠ 7 by decide)]; exact h2.a3
  · rw [upd_other _ _ (show (5 : Nat) ≠ 7 by decide)]; exact h2.a5
  · rw [upd_same]; intro v hv; exact (Option.some.inj hv).symm
  · rw [upd_other _ _ (show (0 : Nat) ≠ 7 by decide)]; exact h2.a0
  · rw [upd_other _ _ (show (2 : Nat) ≠ 7 by decide)]; exact h2.a2
  · rw [upd_other _ _ (show (4 : Nat) ≠ 7 by decide)]; exact h2.a4
  · rw [upd_other _ _ (show (6 : Nat) ≠ 7 by decide)]; exact h2.a6
  · rw [upd_other _ _ (show (8 : Nat) ≠ 7 by decide)]; exact h2.a8
  · rw [upd_other _ _ (show (6 : Nat) ≠ 7 by decide), upd_other _ _ (show (8 : Nat) ≠ 7 by decide)]; exact h2.ne
  · rw [upd_other _ _ (show (4 : Nat) ≠ 7 by decide), upd_other _ _ (show (0 : Nat) ≠ 7 by decide)]; exact h2.n4
  · rw [upd_other _ _ (show (4 : Nat) ≠ 7 by decide), upd_other _ _ (show (2 : Nat) ≠ 7 by decide)]; exact h2.n2
  · rw [upd_other _ _ (show (9 : Nat) ≠ 7 by decide), upd_other _ _ (show (2 : Nat) ≠ 7 by decide), upd_other _ _ (show (4 : Nat) ≠ 7 by decide), upd_other _ _ (show (6 : Nat) ≠ 7 by decide), upd_other _ _ (show (8 : Nat) ≠ 7 by decide)]; exact h2.a9
  · rw [upd_other _ _ (show (10 : Nat) ≠ 7 by decide), upd_other _ _ (show (2 : Nat) ≠ 7 by decide), upd_other _ _ (show (4 : Nat) ≠ 7 by decide), upd_other _ _ (show (6 : Nat) ≠ 7 by decide), upd_other _ _ (show (8 : Nat) ≠ 7 by decide)]; exact h2.a10
  · rw [upd_other _ _ (show (11 : Nat) ≠ 7 by decide), upd_other _ _ (show (10 : Nat) ≠ 7 by decide)]; exact h2.a11
theorem JB.s0 {W : World} {k : Nat} {l : List Tk} {tv : Value} {m : Nat → Option Value} {w w2 : World} (h : JB W k l tv m w) (hn : m 0 = none) (hb : Below w.heap.size w w2) (hr : w2.ownsRow w.heap.size 42 2 (.slice (some ⟨w.heap.size, 0, none⟩) 0 0) 0 []) (hs : w.heap.size < w2.heap.size) : JB W k l tv (upd m 0 (some (.slice (some ⟨w.heap.size, 0, none⟩) 0 0))) w2 := by
  have h2 := h.keep (w' := w2) hb (m' := m) (fun _ _ => rfl)
  refine ⟨h2.bel, ?_, ?_, ?_, ?_, ?_, ?_, ?_, ?_, ?_, ?_, ?_, ?_, ?_, ?_, ?_⟩
  · rw [upd_other _ _ (show (1 : Nat) ≠ 0 by decide)]; exact h2.a1
  · rw [upd_other _ _ (show (3 : Nat) ≠ 0 by decide)]; exact h2.a3
  · rw [upd_other _ _ (show (5 : Nat) ≠ 0 by decide)]; exact h2.a5
  · rw [upd_other _ _ (show (7 : Nat) ≠ 0 by decide)]; exact h2.a7
  · rw [upd_same]; intro v hv; obtain rfl := (Option.some.inj hv).symm; exact ⟨_, rfl, h.sz, hs, own_base hr h.sz⟩
  · rw [upd_other _ _ (show (2 : Nat) ≠ 0 by decide)]; exact h2.a2
  · rw [upd_other _ _ (show (4 : Nat) ≠ 0 by decide)]; exact h2.a4
  · rw [upd_other _ _ (show (6 : Nat) ≠ 0 by decide)]; exact h2.a6
  · rw [upd_other _ _ (show (8 : Nat) ≠ 0 by decide)]; exact h2.a8
  · rw [upd_other _ _ (show (6 : Nat) ≠ 0 by decide), upd_other _ _ (show (8 : Nat) ≠ 0 by decide)]; exact h2.ne
  · rw [upd_same, upd_other _ _ (show (4 : Nat) ≠ 0 by decide)]; intro v u g hv hu hg e
    obtain rfl := (Option.some.inj hu).symm
    obtain ⟨g2, rfl, _, h3⟩ := h.a4 v hv
    have := lt_of_heap h3
    have e1 : g2 = g := Option.some.inj hg
    have e2 : w.heap.size = g := Option.some.inj e
    omega
  · rw [upd_other _ _ (show (4 : Nat) ≠ 0 by decide), upd_other _ _ (show (2 : Nat) ≠ 0 by decide)]; exact h2.n2
  · rw [upd_other _ _ (show (9 : Nat) ≠ 0 by decide), upd_other _ _ (show (2 : Nat) ≠ 0 by decide), upd_other _ _ (show (4 : Nat) ≠ 0 by decide), upd_other _ _ (show (6 : Nat) ≠ 0 by decide), upd_other _ _ (show (8 : Nat) ≠ 0 by decide)]; exact h2.a9
  · rw [upd_other _ _ (show (10 : Nat) ≠ 0 by decide), upd_other _ _ (show (2 : Nat) ≠ 0 by decide), upd_other _ _ (show (4 : Nat) ≠ 0 by decide), upd_other _ _ (show (6 : Nat) ≠ 0 by decide), upd_other _ _ (show (8 : Nat) ≠ 0 by decide)]; exact h2.a10
  · rw [upd_other _ _ (show (11 : Nat) ≠ 0 by decide), upd_other _ _ (show (10 : Nat) ≠ 0 by decide)]; exact h2.a11
theorem JB.s2 {W : World} {k : Nat} {l : List Tk} {tv : Value} {m : Nat → Option Value} {w w2 : World} (h : JB W k l tv m w) (hn : m 2 = none) {u2 : Value} (hb : Below w.heap.size w w2) (ho : TOwn w2 W.heap.size u2 l) {B : Nat} (h0 : m 0 = some (.slice (some ⟨B, 0, none⟩) 0 0)) (hat : ∀ g, u2.ownBlock = some g → g = B ∨ w.heap.size ≤ g) : JB W k l tv (upd m 2 (some (u2))) w2 := by
  have h2 := h.keep (w' := w2) hb (m' := m) (fun _ _ => rfl)
  refine ⟨h2.bel, ?_, ?_, ?_, ?_, ?_, ?_, ?_, ?_, ?_, ?_, ?_, ?_, ?_, ?_, ?_⟩
  · rw [upd_other _ _ (show (1 : Nat) ≠ 2 by decide)]; exact h2.a1
  · rw [upd_other _ _ (show (3 : Nat) ≠ 2 by decide)]; exact h2.a3
  · rw [upd_other _ _ (show (5 : Nat) ≠ 2 by decide)]; exact h2.a5
  · rw [upd_other _ _ (show (7 : Nat) ≠ 2 by decide)]; exact h2.a7
  · rw [upd_other _ _ (show (0 : Nat) ≠ 2 by decide)]; exact h2.a0
  · rw [upd_same]; intro v hv; obtain rfl := (Option.some.inj hv).symm; exact ⟨ho, owns_shape ho⟩
  · rw [upd_other _ _ (show (4 : Nat) ≠ 2 by decide)]; exact h2.a4
  · rw [upd_other _ _ (show (6 : Nat) ≠ 2 by decide)]; exact h2.a6
  · rw [upd_other _ _ (show (8 : Nat) ≠ 2 by decide)]; exact h2.a8
  · rw [upd_other _ _ (show (6 : Nat) ≠ 2 by decide), upd_other _ _ (show (8 : Nat) ≠ 2 by decide)]; exact h2.ne
  · rw [upd_other _ _ (show (4 : Nat) ≠ 2 by decide), upd_other _ _ (show (0 : Nat) ≠ 2 by decide)]; exact h2.n4
  · rw [upd_same, upd_other _ _ (show (4 : Nat) ≠ 2 by decide)]; intro v u g hv hu hg e
    obtain rfl := (Option.some.inj hu).symm
    rcases hat g e with q | q
    · exact h.n4 v _ g hv h0 hg (by rw [q]; rfl)
    · obtain ⟨g2, rfl, _, h3⟩ := h.a4 v hv
      have := lt_of_heap h3
      have e1 : g2 = g := Option.some.inj hg
      omega
  · rw [upd_other _ _ (show (9 : Nat) ≠ 2 by decide)]
    intro v hv
    obtain ⟨v2, v4, v6, v8, k1, k2, k3, k4, _⟩ := h.a9 v hv
    rw [hn] at k1; cases k1
  · rw [upd_other _ _ (show (10 : Nat) ≠ 2 by decide)]
    intro v hv
    obtain ⟨B, v2, v4, v6, v8, k1, k2, k3, k4, _⟩ := h.a10 v hv
    rw [hn] at k1; cases k1
  · rw [upd_other _ _ (show (11 : Nat) ≠ 2 by decide), upd_other _ _ (show (10 : Nat) ≠ 2 by decide)]; exact h2.a11
theorem JB.s4 {W : World} {k : Nat} {l : List Tk} {tv : Value} {m : Nat → Option Value} {w : World} (h : JB W k l tv m w) (hn : m 4 = none)  : JB W k l tv (upd m 4 (some (.slice (some ⟨w.heap.size, 0, none⟩) k k))) (w.alloc (.cells (madeCells #[.int .u64 0, .int .u64 0] (k * 2)) 42)) := by
  have h2 := h.keep (w' := (w.alloc (.cells (madeCells #[.int .u64 0, .int .u64 0] (k * 2)) 42))) (below_alloc (Below.refl _ _) _) (m' := m) (fun _ _ => rfl)
  refine ⟨h2.bel, ?_, ?_, ?_, ?_, ?_, ?_, ?_, ?_, ?_, ?_, ?_, ?_, ?_, ?_, ?_⟩
  · rw [upd_other _ _ (show (1 : Nat) ≠ 4 by decide)]; exact h2.a1
  · rw [upd_other _ _ (show (3 : Nat) ≠ 4 by decide)]; exact h2.a3
  · rw [upd_other _ _ (show (5 : Nat) ≠ 4 by decide)]; exact h2.a5
  · rw [upd_other _ _ (show (7 : Nat) ≠ 4 by decide)]; exact h2.a7
  · rw [upd_other _ _ (show (0 : Nat) ≠ 4 by decide)]; exact h2.a0
  · rw [upd_other _ _ (show (2 : Nat) ≠ 4 by decide)]; exact h2.a2
  · rw [upd_same]; intro v hv; obtain rfl := (Option.some.inj hv).symm; exact ⟨_, rfl, h.sz, heap_new _ _⟩
  · rw [upd_other _ _ (show (6 : Nat) ≠ 4 by decide)]; exact h2.a6
  · rw [upd_other _ _ (show (8 : Nat) ≠ 4 by decide)]; exact h2.a8
  · rw [upd_other _ _ (show (6 : Nat) ≠ 4 by decide), upd_other _ _ (show (8 : Nat) ≠ 4 by decide)]; exact h2.ne
  · rw [upd_same, upd_other _ _ (show (0 : Nat) ≠ 4 by decide)]; intro v u g hv hu hg e
    obtain rfl := (Option.some.inj hv).symm
    obtain ⟨B, rfl, _, h3, _⟩ := h.a0 u hu
    have e1 : w.heap.size = g := Option.some.inj hg
    have e2 : B = g := Option.some.inj e
    omega
  · rw [upd_same, upd_other _ _ (show (2 : Nat) ≠ 4 by decide)]; intro v u g hv hu hg e
    obtain rfl := (Option.some.inj hv).symm
    have h3 := ((h.a2 u hu).1.lt g e).2
    have e1 : w.heap.size = g := Option.some.inj hg
    omega
  · rw [upd_other _ _ (show (9 : Nat) ≠ 4 by decide)]
    intro v hv
    obtain ⟨v2, v4, v6, v8, k1, k2, k3, k4, _⟩ := h.a9 v hv
    rw [hn] at k2; cases k2
  · rw [upd_other _ _ (show (10 : Nat) ≠ 4 by decide)]
    intro v hv
    obtain ⟨B, v2, v4, v6, v8, k1, k2, k3, k4, _⟩ := h.a10 v hv
    rw [hn] at k2; cases k2
  · rw [upd_other _ _ (show (11 : Nat) ≠ 4 by decide), upd_other _ _ (show (10 : Nat) ≠ 4 by decide)]; exact h2.a11
theorem JB.s6 {W : World} {k : Nat} {l : List Tk} {tv : Value} {m : Nat → Option Value} {w : World} (h : JB W k l tv m w) (hn : m 6 = none)  : JB W k l tv (upd m 6 (some (.slice (some ⟨w.heap.size, 0, none⟩) k k))) (w.alloc (.cells (madeCells #[.bool false] k) 4)) := by
  have h2 := h.keep (w' := (w.alloc (.cells (madeCells #[.bool false] k) 4))) (below_alloc (Below.refl _ _) _) (m' := m) (fun _ _ => rfl)
  refine ⟨h2.bel, ?_, ?_, ?_, ?_, ?_, ?_, ?_, ?_, ?_, ?_, ?_, ?_, ?_, ?_, ?_⟩
  · rw [upd_other _ _ (show (1 : Nat) ≠ 6 by decide)]; exact h2.a1
  · rw [upd_other _ _ (show (3 : Nat) ≠ 6 by decide)]; exact h2.a3
  · rw [upd_other _ _ (show (5 : Nat) ≠ 6 by decide)]; exact h2.a5
  · rw [upd_other _ _ (show (7 : Nat) ≠ 6 by decide)]; exact h2.a7
  · rw [upd_other _ _ (show (0 : Nat) ≠ 6 by decide)]; exact h2.a0
  · rw [upd_other _ _ (show (2 : Nat) ≠ 6 by decide)]; exact h2.a2
  · rw [upd_other _ _ (show (4 : Nat) ≠ 6 by decide)]; exact h2.a4
  · rw [upd_same]; intro v hv; obtain rfl := (Option.some.inj hv).symm; exact ⟨_, rfl, h.sz, heap_new _ _⟩
  · rw [upd_other _ _ (show (8 : Nat) ≠ 6 by decide)]; exact h2.a8
  · rw [upd_same, upd_other _ _ (show (8 : Nat) ≠ 6 by decide)]; intro v u g hv hu hg e
    obtain rfl := (Option.some.inj hv).symm
    obtain ⟨g2, rfl, _, h3⟩ := h.a8 u hu
    have := lt_of_heap h3
    have e1 : w.heap.size = g := Option.some.inj hg
    have e2 : g2 = g := Option.some.inj e
    omega
  · rw [upd_other _ _ (show (4 : Nat) ≠ 6 by decide), upd_other _ _ (show (0 : Nat) ≠ 6 by decide)]; exact h2.n4
  · rw [upd_other _ _ (show (4 : Nat) ≠ 6 by decide), upd_other _ _ (show (2 : Nat) ≠ 6 by decide)]; exact h2.n2
  · rw [upd_other _ _ (show (9 : Nat) ≠ 6 by decide)]
    intro v hv
    obtain ⟨v2, v4, v6, v8, k1, k2, k3, k4, _⟩ := h.a9 v hv
    rw [hn] at k3; cases k3
  · rw [upd_other _ _ (show (10 : Nat) ≠ 6 by decide)]
    intro v hv
    obtain ⟨B, v2, v4, v6, v8, k1, k2, k3, k4, _⟩ := h.a10 v hv
    rw [hn] at k3; cases k3
  · rw [upd_other _ _ (show (11 : Nat) ≠ 6 by decide), upd_other _ _ (show (10 : Nat) ≠ 6 by decide)]; exact h2.a11
theorem JB.s8 {W : World} {k : Nat} {l : List Tk} {tv : Value} {m : Nat → Option Value} {w : World} (h : JB W k l tv m w) (hn : m 8 = none)  : JB W k l tv (upd m 8 (some (.slice (some ⟨w.heap.size, 0, none⟩) k k))) (w.alloc (.cells (madeCells #[.bool false] k) 4)) := by
  have h2 := h.keep (w' := (w.alloc (.cells (madeCells #[.bool false] k) 4))) (below_alloc (Below.refl _ _) _) (m' := m) (fun _ _ => rfl)
  refine ⟨h2.bel, ?_, ?_, ?_, ?_, ?_, ?_, ?_, ?_, ?_, ?_, ?_, ?_, ?_, ?_, ?_⟩
  · rw [upd_other _ _ (show (1 : Nat) ≠ 8 by decide)]; exact h2.a1
  · rw [upd_other _ _ (show (3 : Nat) ≠ 8 by decide)]; exact h2.a3
  · rw [upd_other _ _ (show (5 : Nat) ≠ 8 by decide)]; exact h2.a5
  · rw [upd_other _ _ (show (7 : Nat) ≠ 8 by decide)]; exact h2.a7
  · rw [upd_other _ _ (show (0 : Nat) ≠ 8 by decide)]; exact h2.a0
  · rw [upd_other _ _ (show (2 : Nat) ≠ 8 by decide)]; exact h2.a2
  · rw [upd_other _ _ (show (4 : Nat) ≠ 8 by decide)]; exact h2.a4
  · rw [upd_other _ _ (show (6 : Nat) ≠ 8 by decide)]; exact h2.a6
  · rw [upd_same]; intro v hv; obtain rfl := (Option.some.inj hv).symm; exact ⟨_, rfl, h.sz, heap_new _ _⟩
  · rw [upd_same, upd_other _ _ (show (6 : Nat) ≠ 8 by decide)]; intro v u g hv hu hg e
    obtain rfl := (Option.some.inj hu).symm
    obtain ⟨g2, rfl, _, h3⟩ := h.a6 v hv
    have := lt_of_heap h3
    have e1 : w.heap.size = g := Option.some.inj e
    have e2 : g2 = g := Option.some.inj hg
    omega
  · rw [upd_other _ _ (show (4 : Nat) ≠ 8 by decide), upd_other _ _ (show (0 : Nat) ≠ 8 by decide)]; exact h2.n4
  · rw [upd_other _ _ (show (4 : Nat) ≠ 8 by decide), upd_other _ _ (show (2 : Nat) ≠ 8 by decide)]; exact h2.n2
  · rw [upd_other _ _ (show (9 : Nat) ≠ 8 by decide)]
    intro v hv
    obtain ⟨v2, v4, v6, v8, k1, k2, k3, k4, _⟩ := h.a9 v hv
    rw [hn] at k4; cases k4
  · rw [upd_other _ _ (show (10 : Nat) ≠ 8 by decide)]
    intro v hv
    obtain ⟨B, v2, v4, v6, v8, k1, k2, k3, k4, _⟩ := h.a10 v hv
    rw [hn] at k4; cases k4
  · rw [upd_other _ _ (show (11 : Nat) ≠ 8 by decide), upd_other _ _ (show (10 : Nat) ≠ 8 by decide)]; exact h2.a11
theorem JB.s9 {W : World} {k : Nat} {l : List Tk} {tv : Value} {m : Nat → Option Value} {w : World} (h : JB W k l tv m w) (hn : m 9 = none) {v2 v4 v6 v8 : Value} (k1 : m 2 = some v2) (k2 : m 4 = some v4) (k3 : m 6 = some v6) (k4 : m 8 = some v8) : JB W k l tv (upd m 9 (some (.agg #[v2, .slice none 0 0, v4, v6, v8]))) w := by
  have h2 := h
  refine ⟨h2.bel, ?_, ?_, ?_, ?_, ?_, ?_, ?_, ?_, ?_, ?_, ?_, ?_, ?_, ?_, ?_⟩
  · rw [upd_other _ _ (show (1 : Nat) ≠ 9 by decide)]; exact h2.a1
  · rw [upd_other _ _ (show (3 : Nat) ≠ 9 by decide)]; exact h2.a3
  · rw [upd_other _ _ (show (5 : Nat) ≠ 9 by decide)]; exact h2.a5
  · rw [upd_other _ _ (show (7 : Nat) ≠ 9 by decide)]; exact h2.a7
  · rw [upd_other _ _ (show (0 : Nat) ≠ 9 by decide)]; exact h2.a0
  · rw [upd_other _ _ (show (2 : Nat) ≠ 9 by decide)]; exact h2.a2
  · rw [upd_other _ _ (show (4 : Nat) ≠ 9 by decide)]; exact h2.a4
  · rw [upd_other _ _ (show (6 : Nat) ≠ 9 by decide)]; exact h2.a6
  · rw [upd_other _ _ (show (8 : Nat) ≠ 9 by decide)]; exact h2.a8
  · rw [upd_other _ _ (show (6 : Nat) ≠ 9 by decide), upd_other _ _ (show (8 : Nat) ≠ 9 by decide)]; exact h2.ne
  · rw [upd_other _ _ (show (4 : Nat) ≠ 9 by decide), upd_other _ _ (show (0 : Nat) ≠ 9 by decide)]; exact h2.n4
  · rw [upd_other _ _ (show (4 : Nat) ≠ 9 by decide), upd_other _ _ (show (2 : Nat) ≠ 9 by decide)]; exact h2.n2
  · rw [upd_same]; intro v hv; obtain rfl := (Option.some.inj hv).symm; exact ⟨v2, v4, v6, v8, (upd_other _ _ (by decide)).trans k1, (upd_other _ _ (by decide)).trans k2, (upd_other _ _ (by decide)).trans k3, (upd_other _ _ (by decide)).trans k4, rfl⟩
  · rw [upd_other _ _ (show (10 : Nat) ≠ 9 by decide), upd_other _ _ (show (2 : Nat) ≠ 9 by decide), upd_other _ _ (show (4 : Nat) ≠ 9 by decide), upd_other _ _ (show (6 : Nat) ≠ 9 by decide), upd_other _ _ (show (8 : Nat) ≠ 9 by decide)]; exact h2.a10
  · rw [upd_other _ _ (show (11 : Nat) ≠ 9 by decide), upd_other _ _ (show (10 : Nat) ≠ 9 by decide)]; exact h2.a11
theorem JB.s10 {W : World} {k : Nat} {l : List Tk} {tv : Value} {m : Nat → Option Value} {w : World} (h : JB W k l tv m w) (hn : m 10 = none) {v2 v4 v6 v8 : Value} (k1 : m 2 = some v2) (k2 : m 4 = some v4) (k3 : m 6 = some v6) (k4 : m 8 = some v8) : JB W k l tv (upd m 10 (some (.pointer (some ⟨w.heap.size, 0, none⟩)))) (w.alloc (.cells #[v2, .slice none 0 0, v4, v6, v8] 60)) := by
  have h2 := h.keep (w' := (w.alloc (.cells #[v2, .slice none 0 0, v4, v6, v8] 60))) (below_alloc (Below.refl _ _) _) (m' := m) (fun _ _ => rfl)
  refine ⟨h2.bel, ?_, ?_, ?_, ?_, ?_, ?_, ?_, ?_, ?_, ?_, ?_, ?_, ?_, ?_, ?_⟩
  · rw [upd_other _ _ (show (1 : Nat) ≠ 10 by decide)]; exact h2.a1
  · rw [upd_other _ _ (show (3 : Nat) ≠ 10 by decide)]; exact h2.a3
  · rw [upd_other _ _ (show (5 : Nat) ≠ 10 by decide)]; exact h2.a5
  · rw [upd_other _ _ (show (7 : Nat) ≠ 10 by decide)]; exact h2.a7
  · rw [upd_other _ _ (show (0 : Nat) ≠ 10 by decide)]; exact h2.a0
  · rw [upd_other _ _ (show (2 : Nat) ≠ 10 by decide)]; exact h2.a2
  · rw [upd_other _ _ (show (4 : Nat) ≠ 10 by decide)]; exact h2.a4
  · rw [upd_other _ _ (show (6 : Nat) ≠ 10 by decide)]; exact h2.a6
  · rw [upd_other _ _ (show (8 : Nat) ≠ 10 by decide)]; exact h2.a8
  · rw [upd_other _ _ (show (6 : Nat) ≠ 10 by decide), upd_other _ _ (show (8 : Nat) ≠ 10 by decide)]; exact h2.ne
  · rw [upd_other _ _ (show (4 : Nat) ≠ 10 by decide), upd_other _ _ (show (0 : Nat) ≠ 10 by decide)]; exact h2.n4
  · rw [upd_other _ _ (show (4 : Nat) ≠ 10 by decide), upd_other _ _ (show (2 : Nat) ≠ 10 by decide)]; exact h2.n2
  · rw [upd_other _ _ (show (9 : Nat) ≠ 10 by decide), upd_other _ _ (show (2 : Nat) ≠ 10 by decide), upd_other _ _ (show (4 : Nat) ≠ 10 by decide), upd_other _ _ (show (6 : Nat) ≠ 10 by decide), upd_other _ _ (show (8 : Nat) ≠ 10 by decide)]; exact h2.a9
  · rw [upd_same]; intro v hv; obtain rfl := (Option.some.inj hv).symm; exact ⟨_, v2, v4, v6, v8, (upd_other _ _ (by decide)).trans k1, (upd_other _ _ (by decide)).trans k2, (upd_other _ _ (by decide)).trans k3, (upd_other _ _ (by decide)).trans k4, rfl, h.sz, heap_new _ _⟩
  · rw [upd_other _ _ (show (11 : Nat) ≠ 10 by decide)]; intro v hv; have q := h.a11 v hv; rw [hn] at q; cases q
theorem JB.s11 {W : World} {k : Nat} {l : List Tk} {tv : Value} {m : Nat → Option Value} {w : World} (h : JB W k l tv m w) (hn : m 11 = none) {v : Value} (k1 : m 10 = some v) : JB W k l tv (upd m 11 (some (v))) w := by
  have h2 := h
  refine ⟨h2.bel, ?_, ?_, ?_, ?_, ?_, ?_, ?_, ?_, ?_, ?_, ?_, ?_, ?_, ?_, ?_⟩
  · rw [upd_other _ _ (show (1 : Nat) ≠ 11 by decide)]; exact h2.a1
  · rw [upd_other _ _ (show (3 : Nat) ≠ 11 by decide)]; exact h2.a3
  · rw [upd_other _ _ (show (5 : Nat) ≠ 11 by decide)]; exact h2.a5
  · rw [upd_other _ _ (show (7 : Nat) ≠ 11 by decide)]; exact h2.a7
  · rw [upd_other _ _ (show (0 : Nat) ≠ 11 by decide)]; exact h2.a0
  · rw [upd_other _ _ (show (2 : Nat) ≠ 11 by decide)]; exact h2.a2
  · rw [upd_other _ _ (show (4 : Nat) ≠ 11 by decide)]; exact h2.a4
  · rw [upd_other _ _ (show (6 : Nat) ≠ 11 by decide)]; exact h2.a6
  · rw [upd_other _ _ (show (8 : Nat) ≠ 11 by decide)]; exact h2.a8
  · rw [upd_other _ _ (show (6 : Nat) ≠ 11 by decide), upd_other _ _ (show (8 : Nat) ≠ 11 by decide)]; exact h2.ne
  · rw [upd_other _ _ (show (4 : Nat) ≠ 11 by decide), upd_other _ _ (show (0 : Nat) ≠ 11 by decide)]; exact h2.n4
  · rw [upd_other _ _ (show (4 : Nat) ≠ 11 by decide), upd_other _ _ (show (2 : Nat) ≠ 11 by decide)]; exact h2.n2
  · rw [upd_other _ _ (show (9 : Nat) ≠ 11 by decide), upd_other _ _ (show (2 : Nat) ≠ 11 by decide), upd_other _ _ (show (4 : Nat) ≠ 11 by decide), upd_other _ _ (show (6 : Nat) ≠ 11 by decide), upd_other _ _ (show (8 : Nat) ≠ 11 by decide)]; exact h2.a9
  · rw [upd_other _ _ (show (10 : Nat) ≠ 11 by decide), upd_other _ _ (show (2 : Nat) ≠ 11 by decide), upd_other _ _ (show (4 : Nat) ≠ 11 by decide), upd_other _ _ (show (6 : Nat) ≠ 11 by decide), upd_other _ _ (show (8 : Nat) ≠ 11 by decide)]; exact h2.a10
  · rw [upd_same, upd_other _ _ (show (10 : Nat) ≠ 11 by decide)]; intro u hv; obtain rfl := (Option.some.inj hv).symm; exact k1
theorem JB.start (W : World) (k : Nat) (l : List Tk) (tv : Value) : JB W k l tv (fun _ => none) W.drew :=
  ⟨below_drew (Below.refl _ _), (fun v h => by cases h), (fun v h => by cases h), (fun v h => by cases h), (fun v h => by cases h), (fun v h => by cases h), (fun v h => by cases h), (fun v h => by cases h), (fun v h => by cases h), (fun v h => by cases h), (fun v u g h => by cases h), (fun v u g h => by cases h), (fun v u g h => by cases h), (fun v h => by cases h), (fun v h => by cases h), (fun v h => by cases h)⟩
theorem JB.sta {W : World} {k : Nat} {l : List Tk} {tv : Value} {m : Nat → Option Value} {w : World} (h : JB W k l tv m w) (hk : k ≤ 1024) {v : Value} (h11 : m 11 = some v) : ∃ (B gN gU gG : Nat) (vi : Value), v = .pointer (some ⟨B, 0, none⟩) ∧ Sta W w B gN gU gG k vi l := by
  obtain ⟨B, v2, v4, v6, v8, k1, k2, k3, k4, rfl, hB, hx⟩ := h.a10 v (h.a11 v h11)
  obtain ⟨gN, rfl, n1, n2⟩ := h.a4 _ k2
  obtain ⟨gU, rfl, u1, u2⟩ := h.a6 _ k3
  obtain ⟨gG, rfl, g1, g2⟩ := h.a8 _ k4
  exact ⟨B, gN, gU, gG, v2, rfl, ⟨h.bel, hB, hx, (h.a2 _ k1).1, town_at hk n1 n2, bown_at hk u1 u2, bown_at hk g1 g2, fun e => h.ne _ _ gU k3 k4 rfl (by rw [e]; rfl), fun e => h.n2 _ _ gN k2 k1 rfl e⟩⟩
theorem bat_rep (k i : Nat) : bAt (List.replicate k false) i = false := by
  unfold bAt
  rw [List.getElem?_replicate]; split <;> rfl
theorem BS.start {w W W' : World} {X ab gc Y Z k : Nat} {tb : Array Value} {lv : Value} {s : Ast} {gP cP gH cH : Nat} {qs ps : Nat → Nat} {gs : Nat → Bool} {ds : Nat → Hs} {b C KK : Nat} {row : List Tk} {H : Int} {B gN gU gG : Nat} {vi : Value} {l : List Tk}
    (h : RW w W X ab gc Y Z k tb lv s gP cP gH cH qs ps (fun _ => .slice none 0 0) gs ds b C KK row H) (st : Sta W W' B gN gU gG k vi l) :
    BS w W' X ab gc Y Z k tb lv s gP cP gH cH qs ps (fun _ => .slice none 0 0) gs ds b C KK row H B gN gU gG vi (.slice none 0 0) ⟨l, [], List.replicate k (0, 0), List.replicate k false, List.replicate k false⟩ := by
  have hs := h.rm.bel.size
  refine ⟨h.below st.bel, ⟨st.box, Nat.le_trans hs st.lob, own_lower st.oi hs, TOwn.nil _ _, own_lower st.on hs, own_base st.ou hs, own_base st.og hs, ⟨by simp, by simp, by simp, st.ne⟩, fun g hg => ⟨fun e => st.ni (by rw [hg, e]), fun e => by cases e⟩, fun g hg => by cases hg⟩, fun q _ i _ e => by cases e⟩
theorem bki_new (k : Nat) (l : List Tk) : BkI k (fun _ => Hs.new) ⟨l, [], List.replicate k (0, 0), List.replicate k false, List.replicate k false⟩ := fun i hi => ⟨by show bAt (List.replicate k false) i = _; rw [bat_rep]; rfl, by show bAt (List.replicate k false) i = _; rw [bat_rep]; rfl, fun q => absurd (show 1 ≤ 0 from q) (by decide)⟩
theorem hcn_new (k : Nat) (l : List Tk) (t : Tk) : hcn l 0 (fun _ => Hs.new) k t = l.count t := by
  unfold hcn
  rw [sm_zero (fun i _ => by rw [rest_idle (d := Hs.new) rfl]; rfl)]
  simp
def KInv (w : World) (X ab gc Y Z k : Nat) (tb : Array Value) (gP cP gH cH : Nat) (qs ps : Nat → Nat) (b C B gN gU gG j : Nat) (wq : World) : Prop :=
  ∃ (lv : Value) (s : Ast) (vs : Nat → Value) (gs : Nat → Bool) (ds : Nat → Hs) (row : List Tk) (H : Int) (K : Nat) (vi vo : Value) (Kb : Bk), BS w wq X ab gc Y Z k tb lv s gP cP gH cH qs ps vs gs ds b C K row H B gN gU gG vi vo Kb ∧ K ≤ j ∧ BkI k ds Kb ∧ (∀ t, Kb.ins.count t = Kb.outs.count t + hcn row H ds k t) ∧ Kb.ins.length ≤ 65536 + j ∧ Kb.outs.length ≤ j
end Go.Proofs.YtgjdjdgondpjeaaGreat
