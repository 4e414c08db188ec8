import Derived.Test.YtiohimbifjlfdaaRB
/- Parts, plainly: going back over the order in which a walk leaves the vertices. -/
namespace Go.Proofs.Ytiohimbifjlfdaa
set_option linter.unusedVariables false
/-- From one to the other along edges. -/
inductive Rc (E : Nat → Nat → Prop) : Nat → Nat → Prop
  | refl (a : Nat) : Rc E a a
  | head {a b c : Nat} (e : E a b) (h : Rc E b c) : Rc E a c
theorem Rc.trans {E : Nat → Nat → Prop} {a b c : Nat} (h : Rc E a b) (k : Rc E b c) : Rc E a c := by
  induction h with
  | refl => exact k
  | head e _ ih => exact .head e (ih k)
theorem Rc.one {E : Nat → Nat → Prop} {a b : Nat} (e : E a b) : Rc E a b := .head e (.refl _)
/-- Each from the other. -/
def Bo (E : Nat → Nat → Prop) (a b : Nat) : Prop := Rc E a b ∧ Rc E b a
theorem Bo.refl (E : Nat → Nat → Prop) (a : Nat) : Bo E a a := ⟨.refl _, .refl _⟩
theorem Bo.symm {E : Nat → Nat → Prop} {a b : Nat} (h : Bo E a b) : Bo E b a := ⟨h.2, h.1⟩
theorem Bo.trans {E : Nat → Nat → Prop} {a b c : Nat} (h : Bo E a b) (k : Bo E b c) : Bo E a c := ⟨h.1.trans k.1, k.2.trans h.2⟩
/-- The order of leaving: who goes from those up to x beyond x goes to one that reaches x. -/
def Lv (E : Nat → Nat → Prop) (L : List Nat) : Prop := ∀ l1 x l2, L = l1 ++ x :: l2 → ∀ w y, (w = x ∨ w ∈ l1) → E w y → (y = x ∨ y ∈ l1) ∨ Rc E y x
/-- A way of so many edges, within S. -/
inductive PI (E : Nat → Nat → Prop) (S : Nat → Prop) : Nat → Nat → Nat → Prop
  | nil {a : Nat} (h : S a) : PI E S 0 a a
  | cons {k a b c : Nat} (h : S a) (e : E a b) (t : PI E S k b c) : PI E S (k + 1) a c
theorem PI.rc {E : Nat → Nat → Prop} {S : Nat → Prop} {k a b : Nat} (h : PI E S k a b) : Rc E a b := by
  induction h with
  | nil => exact .refl _
  | cons _ e _ ih => exact .head e ih
theorem PI.mono {E : Nat → Nat → Prop} {S T : Nat → Prop} {k a b : Nat} (h : PI E S k a b) (hs : ∀ x, S x → T x) : PI E T k a b := by
  induction h with
  | nil h => exact .nil (hs _ h)
  | cons h e _ ih => exact .cons (hs _ h) e ih
theorem PI.start {E : Nat → Nat → Prop} {S : Nat → Prop} {k a b : Nat} (h : PI E S k a b) : S a := by cases h <;> assumption
theorem PI.leaves {E : Nat → Nat → Prop} {S A : Nat → Prop} {x k p f : Nat} (h : PI E S k p f) (hc : ∀ w y, A w → E w y → A y ∨ Rc E y x) (hf : ¬ A f) (hp : A p) : ∃ z j, j < k ∧ PI E S j z f ∧ Rc E z x := by
  induction h with
  | nil _ => exact absurd hp hf
  | @cons k a b c _ e t ih =>
    by_cases hb : A b
    · obtain ⟨z, j, h1, h2, h3⟩ := ih hf hb
      exact ⟨z, j, by omega, h2, h3⟩
    · rcases hc a b hp e with h1 | h1
      · exact absurd h1 hb
      · exact ⟨b, k, by omega, t, h1⟩
/-- Who comes to f through those that were left up to f can be reached from f. -/
theorem last_first {E : Nat → Nat → Prop} {l1 l2 : List Nat} {f : Nat} (hL : Lv E (l1 ++ f :: l2)) (hn : (l1 ++ f :: l2).Nodup) : ∀ k x, PI E (fun v => v = f ∨ v ∈ l1) k x f → Rc E f x := by
  intro k
  induction k using Nat.strongRecOn with
  | _ k ih =>
    intro x hp
    by_cases e : x = f
    · subst e; exact .refl _
    · have hx : x ∈ l1 := by rcases hp.start with h | h; exact absurd h e; exact h
      obtain ⟨a1, a2, rfl⟩ := List.append_of_mem hx
      have hnf : ¬ (f = x ∨ f ∈ a1) := by
        rintro (h | h)
        · exact e h.symm
        · have h2 := (List.nodup_append.1 hn).2.2 f (by simp [h]) f (by simp)
          exact h2 rfl
      have hc := hL a1 x (a2 ++ f :: l2) (by simp)
      obtain ⟨z, j, h1, h2, h3⟩ := hp.leaves (A := fun v => v = x ∨ v ∈ a1) (x := x) (fun w y hw he => hc w y hw he) hnf (.inl rfl)
      exact (ih j h1 z h2).trans h3
/-- Groups, while those of l2 have been gone back over. -/
structure GI (E : Nat → Nat → Prop) (n : Nat) (l2 : List Nat) (gr : Nat → Int) : Prop where
  all : ∀ v, v ∈ l2 → gr v ≠ -1
  who : ∀ v, v < n → gr v ≠ -1 → ∃ f : Nat, gr v = (f : Int) ∧ f ∈ l2 ∧ Bo E v f
  eq : ∀ v w, v < n → w < n → gr v ≠ -1 → Bo E v w → gr w = gr v
theorem GI.start (E : Nat → Nat → Prop) (n : Nat) : GI E n [] (fun _ => -1) := ⟨fun v h => by simp at h, fun v _ h => absurd rfl h, fun v w _ _ h => absurd rfl h⟩
theorem GI.skip {E : Nat → Nat → Prop} {n : Nat} {l2 : List Nat} {gr : Nat → Int} (h : GI E n l2 gr) {f : Nat} (hf : gr f ≠ -1) : GI E n (f :: l2) gr :=
  ⟨fun v hv => by rcases List.mem_cons.1 hv with rfl | hv; exact hf; exact h.all v hv, fun v hv hg => by
    obtain ⟨f', h1, h2, h3⟩ := h.who v hv hg
    exact ⟨f', h1, List.mem_cons_of_mem _ h2, h3⟩, h.eq⟩
/-- What a walk back from f has met. -/
structure Wb (E : Nat → Nat → Prop) (n : Nat) (gr : Nat → Int) (f : Nat) (V : Nat → Prop) : Prop where
  fst : V f
  new : ∀ v, V v → v < n ∧ gr v = -1
  way : ∀ v, V v → ∃ k, PI E V k v f
  clo : ∀ v x, V v → E x v → gr x ≠ -1 ∨ V x
theorem GI.walk {E : Nat → Nat → Prop} {n : Nat} {l1 l2 : List Nat} {f : Nat} {gr gr' : Nat → Int} {V : Nat → Prop} (hE : ∀ x y, E x y → x < n ∧ y < n) (hL : Lv E (l1 ++ f :: l2)) (hn : (l1 ++ f :: l2).Nodup) (hall : ∀ v, v < n → v ∈ l1 ++ f :: l2) (h : GI E n l2 gr) (hw : Wb E n gr f V) (hin : ∀ v, V v → gr' v = (f : Int)) (hout : ∀ v, ¬ V v → gr' v = gr v) : GI E n (f :: l2) gr' := by
  have hf := hw.new f hw.fst
  have hS : ∀ v, V v → v = f ∨ v ∈ l1 := fun v hv => by
    obtain ⟨h1, h2⟩ := hw.new v hv
    rcases List.mem_append.1 (hall v h1) with h3 | h3
    · exact .inr h3
    · rcases List.mem_cons.1 h3 with h3 | h3
      · exact .inl h3
      · exact absurd h2 (h.all v h3)
  have hbo : ∀ v, V v → Bo E v f := fun v hv => by
    obtain ⟨k, hk⟩ := hw.way v hv
    exact ⟨hk.rc, last_first hL hn k v (hk.mono hS)⟩
  have hin2 : ∀ x, Rc E x f → Rc E f x → V x := fun x h1 => by
    generalize hg : f = g at h1
    induction h1 with
    | refl a => intro _; rw [← hg]; exact hw.fst
    | @head a b c e t ih =>
      subst hg
      intro h2
      have hb := ih rfl (h2.trans (Rc.one e))
      rcases hw.clo b a hb e with h3 | h3
      · exfalso
        have := h.eq a f (hE a b e).1 hf.1 h3 ⟨.head e t, h2⟩
        exact h3 (by rw [← this]; exact hf.2)
      · exact h3
  refine ⟨fun v hv => ?_, fun v hv hg => ?_, fun v w hv hw2 hg hb => ?_⟩
  · rcases List.mem_cons.1 hv with rfl | hv
    · rw [hin _ hw.fst]; omega
    · have hV : ¬ V v := fun hV => h.all v hv (hw.new v hV).2
      rw [hout v hV]; exact h.all v hv
  · by_cases hV : V v
    · exact ⟨f, hin v hV, by simp, hbo v hV⟩
    · rw [hout v hV] at hg ⊢
      obtain ⟨f', h1, h2, h3⟩ := h.who v hv hg
      exact ⟨f', h1, List.mem_cons_of_mem _ h2, h3⟩
  · by_cases hV : V v
    · have h1 := (hb.symm.trans (hbo v hV))
      rw [hin v hV, hin w (hin2 w h1.1 h1.2)]
    · rw [hout v hV] at hg ⊢
      have h1 := h.eq v w hv hw2 hg hb
      have hVw : ¬ V w := fun h2 => hg (by rw [← h1]; exact (hw.new w h2).2)
      rw [hout w hVw, h1]
theorem GI.full {E : Nat → Nat → Prop} {n : Nat} {L : List Nat} {gr : Nat → Int} (h : GI E n L gr) (hall : ∀ v, v < n → v ∈ L) : (∀ v, v < n → ∃ f : Nat, gr v = (f : Int) ∧ f ∈ L) ∧ ∀ u v, u < n → v < n → (gr u = gr v ↔ Bo E u v) := by
  refine ⟨fun v hv => ?_, fun u v hu hv => ⟨fun he => ?_, fun hb => ?_⟩⟩
  · obtain ⟨f, h1, h2, _⟩ := h.who v hv (h.all v (hall v hv))
    exact ⟨f, h1, h2⟩
  · obtain ⟨f, h1, _, h3⟩ := h.who u hu (h.all u (hall u hu))
    obtain ⟨g, h4, _, h6⟩ := h.who v hv (h.all v (hall v hv))
    have : f = g := by rw [h1, h4] at he; omega
    subst this
    exact h3.trans h6.symm
  · exact (h.eq u v hu hv (h.all u (hall u hu)) hb).symm
end Go.Proofs.Ytiohimbifjlfdaa

/- Parts, plainly: the walk that leaves the vertices. -/
namespace Go.Proofs.Ytiohimbifjlfdaa
set_option linter.unusedVariables false
/-- Edges by their places: v's are those from s v up to s (v + 1), p goes to t p. -/
def EE (n : Nat) (s t : Nat → Nat) (w y : Nat) : Prop := w < n ∧ ∃ p, s w ≤ p ∧ p < s (w + 1) ∧ t p = y
/-- A walk under way: left, and where it stands (the last is where it is). -/
structure DS (n : Nat) (s t : Nat → Nat) (L : List Nat) (way : List (Nat × Nat)) : Prop where
  nod : (L ++ way.map Prod.fst).Nodup
  lt : ∀ v, v ∈ L ++ way.map Prod.fst → v < n
  stk : ∀ l1 a b l2, way = l1 ++ a :: b :: l2 → EE n s t a.1 b.1
  pl : ∀ a, a ∈ way → s a.1 ≤ a.2 ∧ a.2 ≤ s (a.1 + 1) ∧ ∀ p, s a.1 ≤ p → p < a.2 → t p ∈ L ++ way.map Prod.fst
  clo : ∀ w y, w ∈ L → EE n s t w y → y ∈ L ++ way.map Prod.fst
  lv : Lv (EE n s t) L
section
variable {n : Nat} {s t : Nat → Nat} {L : List Nat} {l way : List (Nat × Nat)} {u v p : Nat}
theorem DS.start (n : Nat) (s t : Nat → Nat) : DS n s t [] [] :=
  ⟨by simp, fun v h => by simp at h, fun l1 a b l2 h => by simp at h, fun a h => by simp at h, fun w y h => by simp at h, fun l1 x l2 h => by simp at h⟩
theorem stk_reach {E : Nat → Nat → Prop} {b : Nat × Nat} : ∀ l : List (Nat × Nat), (∀ l1 x y l2, l ++ [b] = l1 ++ x :: y :: l2 → E x.1 y.1) → ∀ a, a ∈ l → Rc E a.1 b.1
  | [], _, a, ha => by simp at ha
  | [c], h, a, ha => by
    have := h [] c b [] (by simp)
    simp at ha; subst ha
    exact .one this
  | c :: d :: l, h, a, ha => by
    have hd : ∀ a, a ∈ d :: l → Rc E a.1 b.1 := stk_reach (d :: l) (fun l1 x y l2 he => h (c :: l1) x y l2 (by simp [he]))
    rcases List.mem_cons.1 ha with rfl | ha
    · exact .head (h [] a d (l ++ [b]) (by simp)) (hd d (by simp))
    · exact hd a ha
theorem DS.leave (h : DS n s t L (l ++ [(u, s (u + 1))])) : DS n s t (L ++ [u]) l := by
  have hm : ∀ x, x ∈ (L ++ [u]) ++ l.map Prod.fst ↔ x ∈ L ++ (l ++ [(u, s (u + 1))]).map Prod.fst := fun x => by simp; constructor <;> (rintro (h | h | h) <;> simp [h])
  have hclo : ∀ w y, w ∈ L ++ [u] → EE n s t w y → y ∈ (L ++ [u]) ++ l.map Prod.fst := fun w y hw he => by
    rw [hm]
    rcases List.mem_append.1 hw with hw | hw
    · exact h.clo w y hw he
    · simp at hw; subst hw
      obtain ⟨_, p, h1, h2, rfl⟩ := he
      exact (h.pl (w, s (w + 1)) (by simp)).2.2 p h1 h2
  refine ⟨?_, fun x hx => h.lt x ((hm x).1 hx), fun l1 a b l2 he => h.stk l1 a b (l2 ++ [(u, s (u + 1))]) (by rw [he]; simp), fun a ha => ?_, hclo, ?_⟩
  · have hp : (L ++ [u] ++ l.map Prod.fst).Perm (L ++ (l ++ [(u, s (u + 1))]).map Prod.fst) := by
      rw [List.append_assoc, List.map_append]
      exact List.Perm.append_left L (by simpa using List.perm_append_comm (l₁ := [u]) (l₂ := l.map Prod.fst))
    exact hp.nodup_iff.2 h.nod
  · obtain ⟨h1, h2, h3⟩ := h.pl a (by simp [ha])
    exact ⟨h1, h2, fun p hp1 hp2 => (hm _).2 (h3 p hp1 hp2)⟩
  · intro l1 x l2 he w y hw hE
    rcases List.eq_nil_or_concat l2 with rfl | ⟨l3, z, rfl⟩
    · -- x is the last
      have h1 : L = l1 ∧ u = x := by
        have h2 : L ++ [u] = l1 ++ [x] := he
        have h3 := List.append_inj' h2 (by simp)
        exact ⟨h3.1, by simpa using h3.2⟩
      obtain ⟨rfl, rfl⟩ := h1
      have hy := hclo w y (by rcases hw with rfl | hw <;> simp [*]) hE
      rcases List.mem_append.1 hy with hy | hy
      · left; simp at hy; rcases hy with hy | hy
        · exact .inr hy
        · exact .inl hy
      · right
        obtain ⟨a, ha, rfl⟩ := List.mem_map.1 hy
        exact stk_reach l (fun l1 x y l2 he => h.stk l1 x y l2 he) a ha
    · have h1 : L = l1 ++ x :: l3 ∧ u = z := by
        have h2 : L ++ [u] = (l1 ++ x :: l3) ++ [z] := by simpa using he
        have h3 := List.append_inj' h2 (by simp)
        exact ⟨h3.1, by simpa using h3.2⟩
      exact h.lv l1 x l3 h1.1 w y hw hE
theorem DS.mono_m {way' : List (Nat × Nat)} (h : DS n s t L way) (hm : ∀ x, x ∈ way.map Prod.fst → x ∈ way'.map Prod.fst) {x : Nat} (hx : x ∈ L ++ way.map Prod.fst) : x ∈ L ++ way'.map Prod.fst := by
  rcases List.mem_append.1 hx with h1 | h1
  · exact List.mem_append.2 (.inl h1)
  · exact List.mem_append.2 (.inr (hm x h1))
/-- The edge that is looked at goes to one that was met. -/
theorem DS.pass (h : DS n s t L (l ++ [(u, p)])) (hp : p < s (u + 1)) (hm : t p ∈ L ++ (l ++ [(u, p)]).map Prod.fst) : DS n s t L (l ++ [(u, p + 1)]) := by
  have e : (l ++ [(u, p + 1)]).map Prod.fst = (l ++ [(u, p)]).map Prod.fst := by simp
  refine ⟨by rw [e]; exact h.nod, by rw [e]; exact h.lt, ?_, ?_, by rw [e]; exact h.clo, h.lv⟩
  · intro l1 a b l2 he
    rcases List.eq_nil_or_concat l2 with rfl | ⟨l3, z, rfl⟩
    · have h3 := List.append_inj' (show l ++ [(u, p + 1)] = (l1 ++ [a]) ++ [b] by simpa using he) (by simp)
      have h4 := h.stk l1 a (u, p) [] (by rw [h3.1]; simp)
      have : b = (u, p + 1) := by simpa using h3.2.symm
      rw [this]; exact h4
    · have h3 := List.append_inj' (show l ++ [(u, p + 1)] = (l1 ++ a :: b :: l3) ++ [z] by simpa using he) (by simp)
      exact h.stk l1 a b (l3 ++ [(u, p)]) (by rw [h3.1]; simp)
  · intro a ha
    rw [e]
    rcases List.mem_append.1 ha with ha | ha
    · exact h.pl a (by simp [ha])
    · simp at ha; subst ha
      obtain ⟨h1, h2, h3⟩ := h.pl (u, p) (by simp)
      refine ⟨by show s u ≤ p + 1; have : s u ≤ p := h1; omega, by show p + 1 ≤ s (u + 1); omega, fun q hq1 hq2 => ?_⟩
      by_cases e2 : q = p
      · rw [e2]; exact hm
      · exact h3 q hq1 (by show q < p; have : q < p + 1 := hq2; omega)
/-- One that was not met is entered. -/
theorem DS.enter (h : DS n s t L way) (hs : s v ≤ s (v + 1)) (hv : v < n) (hm : ¬ v ∈ L ++ way.map Prod.fst) (ht : ∀ l a, way = l ++ [a] → EE n s t a.1 v) : DS n s t L (way ++ [(v, s v)]) := by
  have hmm : ∀ x, x ∈ L ++ way.map Prod.fst → x ∈ L ++ (way ++ [(v, s v)]).map Prod.fst := fun x hx => h.mono_m (fun x hx => by simp at hx ⊢; exact .inl hx) hx
  refine ⟨?_, ?_, ?_, ?_, fun w y hw he => hmm y (h.clo w y hw he), h.lv⟩
  · rw [List.map_append, ← List.append_assoc]
    refine List.nodup_append.2 ⟨h.nod, by simp, fun a ha b hb => ?_⟩
    simp at hb; subst hb
    intro hc; subst hc; exact hm ha
  · intro x hx
    rw [List.map_append, ← List.append_assoc] at hx
    rcases List.mem_append.1 hx with hx | hx
    · exact h.lt x hx
    · simp at hx; omega
  · intro l1 a b l2 he
    rcases List.eq_nil_or_concat l2 with rfl | ⟨l3, z, rfl⟩
    · have h3 := List.append_inj' (show way ++ [(v, s v)] = (l1 ++ [a]) ++ [b] by simpa using he) (by simp)
      have : b = (v, s v) := by simpa using h3.2.symm
      rw [this]
      exact ht l1 a h3.1
    · have h3 := List.append_inj' (show way ++ [(v, s v)] = (l1 ++ a :: b :: l3) ++ [z] by simpa using he) (by simp)
      exact h.stk l1 a b l3 h3.1
  · intro a ha
    rcases List.mem_append.1 ha with ha | ha
    · obtain ⟨h1, h2, h3⟩ := h.pl a ha
      exact ⟨h1, h2, fun q hq1 hq2 => hmm _ (h3 q hq1 hq2)⟩
    · simp at ha; subst ha
      exact ⟨Nat.le_refl _, hs, fun q hq1 hq2 => by have : s v ≤ q := hq1; have : q < s v := hq2; omega⟩
theorem DS.done (h : DS n s t L []) : Lv (EE n s t) L ∧ L.Nodup ∧ (∀ v, v ∈ L → v < n) ∧ ∀ w y, w ∈ L → EE n s t w y → y ∈ L := by
  refine ⟨h.lv, by simpa using h.nod, fun v hv => h.lt v (by simp [hv]), fun w y hw he => by simpa using h.clo w y hw he⟩
end
end Go.Proofs.Ytiohimbifjlfdaa

/- Parts, plainly: the walk back, and the numbers of the parts. -/
namespace Go.Proofs.Ytiohimbifjlfdaa
set_option linter.unusedVariables false
/-- The walk back from f, under way. -/
structure WS (n : Nat) (s t : Nat → Nat) (gr : Nat → Int) (f : Nat) (V : Nat → Prop) (way : List (Nat × Nat)) : Prop where
  fst : V f
  new : ∀ v, V v → v < n ∧ gr v = -1
  path : ∀ v, V v → ∃ k, PI (fun x y => EE n s t y x) V k v f
  wv : ∀ a, a ∈ way → V a.1
  pl : ∀ a, a ∈ way → s a.1 ≤ a.2 ∧ a.2 ≤ s (a.1 + 1) ∧ ∀ p, s a.1 ≤ p → p < a.2 → gr (t p) ≠ -1 ∨ V (t p)
  clo : ∀ v, V v → ¬ v ∈ way.map Prod.fst → ∀ p, s v ≤ p → p < s (v + 1) → gr (t p) ≠ -1 ∨ V (t p)
section
variable {n : Nat} {s t : Nat → Nat} {gr : Nat → Int} {f : Nat} {V : Nat → Prop} {l way : List (Nat × Nat)} {u v p : Nat}
theorem WS.start (hf : f < n) (hg : gr f = -1) (hs : s f ≤ s (f + 1)) : WS n s t gr f (fun v => v = f) [(f, s f)] := by
  refine ⟨rfl, fun v hv => by subst hv; exact ⟨hf, hg⟩, fun v hv => ⟨0, by subst hv; exact .nil rfl⟩, fun a ha => by simp at ha; rw [ha], fun a ha => ?_, fun v hv hn => ?_⟩
  · simp at ha; subst ha
    exact ⟨Nat.le_refl _, hs, fun q h1 h2 => by have : s f ≤ q := h1; have : q < s f := h2; omega⟩
  · subst hv; simp at hn
theorem WS.pass (h : WS n s t gr f V (l ++ [(u, p)])) (hp : p < s (u + 1)) (hm : gr (t p) ≠ -1 ∨ V (t p)) : WS n s t gr f V (l ++ [(u, p + 1)]) := by
  have e : (l ++ [(u, p + 1)]).map Prod.fst = (l ++ [(u, p)]).map Prod.fst := by simp
  refine ⟨h.fst, h.new, h.path, fun a ha => ?_, fun a ha => ?_, by rw [e]; exact h.clo⟩
  · rcases List.mem_append.1 ha with ha | ha
    · exact h.wv a (by simp [ha])
    · simp at ha; subst ha; exact h.wv (u, p) (by simp)
  · rcases List.mem_append.1 ha with ha | ha
    · exact h.pl a (by simp [ha])
    · simp at ha; subst ha
      obtain ⟨h1, h2, h3⟩ := h.pl (u, p) (by simp)
      refine ⟨by show s u ≤ p + 1; have : s u ≤ p := h1; omega, by show p + 1 ≤ s (u + 1); omega, fun q hq1 hq2 => ?_⟩
      by_cases e2 : q = p
      · rw [e2]; exact hm
      · exact h3 q hq1 (by show q < p; have : q < p + 1 := hq2; omega)
/-- The next edge goes to a new one. -/
theorem WS.enter (h : WS n s t gr f V (l ++ [(u, p)])) (hu : u < n) (hp : p < s (u + 1)) (hv : t p = v) (hvn : v < n) (hg : gr v = -1) (hs : s v ≤ s (v + 1)) : WS n s t gr f (fun x => V x ∨ x = v) (l ++ [(u, p + 1)] ++ [(v, s v)]) := by
  obtain ⟨q1, q2, q3⟩ := h.pl (u, p) (by simp)
  have hVu := h.wv (u, p) (by simp)
  refine ⟨.inl h.fst, fun x hx => ?_, fun x hx => ?_, fun a ha => ?_, fun a ha => ?_, fun x hx hn q hq1 hq2 => ?_⟩
  · rcases hx with hx | rfl
    · exact h.new x hx
    · exact ⟨hvn, hg⟩
  · rcases hx with hx | rfl
    · obtain ⟨k, hk⟩ := h.path x hx
      exact ⟨k, hk.mono fun y hy => .inl hy⟩
    · obtain ⟨k, hk⟩ := h.path u hVu
      exact ⟨k + 1, .cons (.inr rfl) ⟨hu, p, q1, hp, hv⟩ (hk.mono fun y hy => .inl hy)⟩
  · rcases List.mem_append.1 ha with ha | ha
    · rcases List.mem_append.1 ha with ha | ha
      · exact .inl (h.wv a (by simp [ha]))
      · simp at ha; subst ha; exact .inl hVu
    · simp at ha; subst ha; exact .inr rfl
  · rcases List.mem_append.1 ha with ha | ha
    · rcases List.mem_append.1 ha with ha | ha
      · obtain ⟨h1, h2, h3⟩ := h.pl a (by simp [ha])
        exact ⟨h1, h2, fun q h4 h5 => by rcases h3 q h4 h5 with h6 | h6; exact .inl h6; exact .inr (.inl h6)⟩
      · simp at ha; subst ha
        refine ⟨by show s u ≤ p + 1; have : s u ≤ p := q1; omega, by show p + 1 ≤ s (u + 1); omega, fun q hq1 hq2 => ?_⟩
        by_cases e2 : q = p
        · rw [e2, hv]; exact .inr (.inr rfl)
        · rcases q3 q hq1 (by show q < p; have : q < p + 1 := hq2; omega) with h6 | h6
          · exact .inl h6
          · exact .inr (.inl h6)
    · simp at ha; subst ha
      exact ⟨Nat.le_refl _, hs, fun q hq1 hq2 => by have : s v ≤ q := hq1; have : q < s v := hq2; omega⟩
  · rcases hx with hx | rfl
    · rcases h.clo x hx (fun hc => hn (by simp at hc ⊢; rcases hc with hc | hc; exact .inl hc; exact .inr (.inl hc))) q hq1 hq2 with h6 | h6
      · exact .inl h6
      · exact .inr (.inl h6)
    · simp at hn
theorem WS.leave (h : WS n s t gr f V (l ++ [(u, s (u + 1))])) : WS n s t gr f V l := by
  refine ⟨h.fst, h.new, h.path, fun a ha => h.wv a (by simp [ha]), fun a ha => h.pl a (by simp [ha]), fun v hv hn q h1 h2 => ?_⟩
  by_cases e : v = u
  · subst e
    exact (h.pl (v, s (v + 1)) (by simp)).2.2 q h1 h2
  · refine h.clo v hv (fun hc => ?_) q h1 h2
    rw [List.map_append] at hc
    rcases List.mem_append.1 hc with hc | hc
    · exact hn hc
    · simp at hc; exact e hc
theorem WS.done (h : WS n s t gr f V []) : Wb (fun x y => EE n s t y x) n gr f V :=
  ⟨h.fst, h.new, h.path, fun v x hv he => by obtain ⟨_, p, h1, h2, rfl⟩ := he; exact h.clo v hv (by simp) p h1 h2⟩
end
section
variable {B : Nat → Nat → Prop}
open Classical in
/-- The least that belongs to v. -/
noncomputable def lea (B : Nat → Nat → Prop) (v : Nat) : Nat := ((List.range (v + 1)).find? (fun u => decide (B u v))).getD v
structure Eqv (B : Nat → Nat → Prop) : Prop where
  rf : ∀ a, B a a
  sy : ∀ a b, B a b → B b a
  tr : ∀ a b c, B a b → B b c → B a c
theorem Bo.eqv (E : Nat → Nat → Prop) : Eqv (Bo E) := ⟨Bo.refl E, fun _ _ h => h.symm, fun _ _ _ h k => h.trans k⟩
theorem find_least (P : Nat → Bool) : ∀ n, (∃ x, x < n ∧ P x = true) → ∃ x, (List.range n).find? P = some x ∧ x < n ∧ P x = true ∧ ∀ y, y < x → P y = false := by
  intro n
  induction n with
  | zero => rintro ⟨x, h, _⟩; omega
  | succ n ih =>
    intro hx
    by_cases h : ∃ x, x < n ∧ P x = true
    · obtain ⟨x, h1, h2, h3, h4⟩ := ih h
      exact ⟨x, by rw [List.range_succ, List.find?_append, h1]; rfl, by omega, h3, h4⟩
    · have h0 : ∀ x, x < n → P x = false := fun x hx => by
        cases hP : P x with
        | false => rfl
        | true => exact absurd ⟨x, hx, hP⟩ h
      obtain ⟨x, hx1, hx2⟩ := hx
      have hxn : x = n := by
        rcases Nat.lt_succ_iff_lt_or_eq.1 hx1 with h1 | h1
        · rw [h0 x h1] at hx2; cases hx2
        · exact h1
      subst hxn
      refine ⟨x, ?_, by omega, hx2, h0⟩
      rw [List.range_succ, List.find?_append]
      have : (List.range x).find? P = none := List.find?_eq_none.2 (fun y hy => by rw [h0 y (List.mem_range.1 hy)]; simp)
      rw [this]
      simp [hx2]
theorem lea_spec (h : Eqv B) (v : Nat) : lea B v ≤ v ∧ B (lea B v) v ∧ ∀ u, B u v → lea B v ≤ u := by
  classical
  obtain ⟨x, h1, h2, h3, h4⟩ := find_least (fun u => decide (B u v)) (v + 1) ⟨v, by omega, by simp [h.rf v]⟩
  have e : lea B v = x := by unfold lea; rw [show (fun u => @decide (B u v) (Classical.propDecidable _)) = (fun u => decide (B u v)) from rfl, h1]; rfl
  rw [e]
  refine ⟨by omega, by simpa using h3, fun u hu => ?_⟩
  apply Nat.le_of_not_lt
  intro hlt
  have := h4 u hlt
  simp [hu] at this
theorem lea_eq (h : Eqv B) {u v : Nat} (hb : B u v) : lea B u = lea B v := by
  obtain ⟨_, a2, a3⟩ := lea_spec h u
  obtain ⟨_, b2, b3⟩ := lea_spec h v
  exact Nat.le_antisymm (a3 _ (h.tr _ _ _ b2 (h.sy _ _ hb))) (b3 _ (h.tr _ _ _ a2 hb))
theorem lea_iff (h : Eqv B) {u v : Nat} : lea B u = lea B v ↔ B u v := ⟨fun e => by
  have h1 := (lea_spec h u).2.1
  rw [e] at h1
  exact h.tr _ _ _ (h.sy _ _ h1) (lea_spec h v).2.1, lea_eq h⟩
theorem lea_lea (h : Eqv B) (v : Nat) : lea B (lea B v) = lea B v := lea_eq h (lea_spec h v).2.1
/-- How many parts begin below k. -/
noncomputable def cntL (B : Nat → Nat → Prop) (k : Nat) : Nat := (List.range k).countP (fun u => decide (lea B u = u))
theorem cntL_succ (k : Nat) : cntL B (k + 1) = cntL B k + (if lea B k = k then 1 else 0) := by
  unfold cntL
  rw [List.range_succ, List.countP_append, List.countP_singleton]
  simp
theorem cntL_le (k : Nat) : cntL B k ≤ k := by
  have := List.countP_le_length (p := fun u => decide (lea B u = u)) (l := List.range k)
  simpa [cntL] using this
/-- The number of v's part. -/
noncomputable def numb (B : Nat → Nat → Prop) (v : Nat) : Nat := cntL B (lea B v)
theorem numb_eq (h : Eqv B) {u v : Nat} (hb : B u v) : numb B u = numb B v := by unfold numb; rw [lea_eq h hb]
theorem numb_new {v : Nat} (hv : lea B v = v) : numb B v = cntL B v := by unfold numb; rw [hv]
end
end Go.Proofs.Ytiohimbifjlfdaa

/- Parts, plainly: what a walk has still to do. -/
namespace Go.Proofs.Ytiohimbifjlfdaa
set_option linter.unusedVariables false
/-- What is still to be done at those below n that were not met. -/
def unp (s : Nat → Nat) (K : Nat → Bool) : Nat → Nat
  | 0 => 0
  | n + 1 => unp s K n + (if K n then 0 else s (n + 1) - s n + 2)
/-- What is still to be done where the walk stands. -/
def wpt (s : Nat → Nat) (l : List (Nat × Nat)) : Nat := (l.map fun a => s (a.1 + 1) - a.2 + 1).sum
/-- v is met too. -/
def updK (K : Nat → Bool) (v : Nat) : Nat → Bool := fun u => if u = v then true else K u
theorem unp_above (s : Nat → Nat) (K : Nat → Bool) (v : Nat) : ∀ n, n ≤ v → unp s (updK K v) n = unp s K n
  | 0, _ => rfl
  | n + 1, h => by
    unfold unp
    rw [unp_above s K v n (by omega)]
    have : updK K v n = K n := by unfold updK; rw [if_neg (by omega)]
    rw [this]
theorem unp_upd (s : Nat → Nat) (K : Nat → Bool) (v : Nat) (hK : K v = false) : ∀ n, v < n → unp s (updK K v) n + (s (v + 1) - s v + 2) = unp s K n
  | 0, h => by omega
  | n + 1, h => by
    unfold unp
    rcases Nat.lt_or_ge v n with h1 | h1
    · have := unp_upd s K v hK n h1
      have e : updK K v n = K n := by unfold updK; rw [if_neg (by omega)]
      rw [e]
      omega
    · obtain rfl : v = n := by omega
      rw [unp_above s K v v (by omega)]
      have e : updK K v v = true := by unfold updK; rw [if_pos rfl]
      rw [e, hK]
      simp
theorem wpt_nil (s : Nat → Nat) : wpt s [] = 0 := rfl
theorem wpt_snoc (s : Nat → Nat) (l : List (Nat × Nat)) (a : Nat × Nat) : wpt s (l ++ [a]) = wpt s l + (s (a.1 + 1) - a.2 + 1) := by simp [wpt]
theorem pot_pass (s : Nat → Nat) (K : Nat → Bool) (n u p : Nat) (l : List (Nat × Nat)) (hp : p < s (u + 1)) : unp s K n + wpt s (l ++ [(u, p + 1)]) < unp s K n + wpt s (l ++ [(u, p)]) := by
  rw [wpt_snoc, wpt_snoc]
  show _ + (_ + (s (u + 1) - (p + 1) + 1)) < _ + (_ + (s (u + 1) - p + 1))
  omega
theorem pot_enter (s : Nat → Nat) (K : Nat → Bool) (n u p v : Nat) (l : List (Nat × Nat)) (hp : p < s (u + 1)) (hK : K v = false) (hv : v < n) : unp s (updK K v) n + wpt s (l ++ [(u, p + 1)] ++ [(v, s v)]) < unp s K n + wpt s (l ++ [(u, p)]) := by
  have h1 := unp_upd s K v hK n hv
  rw [wpt_snoc, wpt_snoc, wpt_snoc]
  show _ + (_ + (s (u + 1) - (p + 1) + 1) + (s (v + 1) - s v + 1)) < _ + (_ + (s (u + 1) - p + 1))
  omega
theorem pot_leave (s : Nat → Nat) (K : Nat → Bool) (n u p : Nat) (l : List (Nat × Nat)) : unp s K n + wpt s l < unp s K n + wpt s (l ++ [(u, p)]) := by
  rw [wpt_snoc]; omega
/-- Unlike numbers below n are at most n. -/
theorem nodup_few : ∀ (n : Nat) (l : List Nat), l.Nodup → (∀ v, v ∈ l → v < n) → l.length ≤ n
  | 0, l, _, h => by
    cases l with
    | nil => simp
    | cons a l => have := h a (by simp); omega
  | n + 1, l, hn, h => by
    have h1 := nodup_few n (l.filter (fun v => decide (v ≠ n))) (hn.filter _) (fun v hv => by
      have := (List.mem_filter.1 hv)
      have h2 := h v this.1
      have h3 : v ≠ n := by simpa using this.2
      omega)
    have h2 : l.length ≤ (l.filter (fun v => decide (v ≠ n))).length + 1 := by
      clear h h1
      induction l with
      | nil => simp
      | cons a l ih =>
        have hn2 := (List.nodup_cons.1 hn)
        by_cases e : a = n
        · subst e
          have : l.filter (fun v => decide (v ≠ a)) = l := List.filter_eq_self.2 (fun v hv => by
            have : v ≠ a := fun e => hn2.1 (e ▸ hv)
            simpa using this)
          rw [List.filter_cons_of_neg (by simp), this]
          simp
        · rw [List.filter_cons_of_pos (by simpa using e)]
          have := ih hn2.2
          rw [List.length_cons, List.length_cons]
          omega
    omega
theorem DS.few {n : Nat} {s t : Nat → Nat} {L : List Nat} {way : List (Nat × Nat)} (h : DS n s t L way) : L.length + way.length ≤ n := by
  have := nodup_few n _ h.nod h.lt
  simpa using this
theorem stk_fst {E : Nat → Nat → Prop} {way way' : List (Nat × Nat)} (hf : way'.map Prod.fst = way.map Prod.fst) (h : ∀ l1 a b l2, way = l1 ++ a :: b :: l2 → E a.1 b.1) : ∀ l1 a b l2, way' = l1 ++ a :: b :: l2 → E a.1 b.1 := by
  intro l1 a b l2 he
  rw [he, List.map_append, List.map_cons, List.map_cons] at hf
  obtain ⟨m1, m2, h1, h2, h3⟩ := List.map_eq_append_iff.1 hf.symm
  obtain ⟨a', m3, h4, h5, h6⟩ := List.map_eq_cons_iff.1 h3
  obtain ⟨b', m4, h7, h8, h9⟩ := List.map_eq_cons_iff.1 h6
  rw [← h5, ← h8]
  exact h m1 a' b' m4 (by rw [h1, h4, h7])
theorem DS.passAt {n : Nat} {s t : Nat → Nat} {L : List Nat} {l r : List (Nat × Nat)} {u p : Nat} (h : DS n s t L (l ++ (u, p) :: r)) (hp : p < s (u + 1)) (hm : t p ∈ L ++ (l ++ (u, p) :: r).map Prod.fst) : DS n s t L (l ++ (u, p + 1) :: r) := by
  have e : (l ++ (u, p + 1) :: r).map Prod.fst = (l ++ (u, p) :: r).map Prod.fst := by simp
  refine ⟨by rw [e]; exact h.nod, by rw [e]; exact h.lt, stk_fst e h.stk, fun a ha => ?_, by rw [e]; exact h.clo, h.lv⟩
  rw [e]
  rcases List.mem_append.1 ha with ha | ha
  · exact h.pl a (by simp [ha])
  · rcases List.mem_cons.1 ha with rfl | ha
    · obtain ⟨h1, h2, h3⟩ := h.pl (u, p) (by simp)
      refine ⟨by show s u ≤ p + 1; have : s u ≤ p := h1; omega, by show p + 1 ≤ s (u + 1); omega, fun q hq1 hq2 => ?_⟩
      by_cases e2 : q = p
      · rw [e2]; exact hm
      · exact h3 q hq1 (by show q < p; have : q < p + 1 := hq2; omega)
    · exact h.pl a (by simp [ha])
theorem DS.step {n : Nat} {s t : Nat → Nat} {L : List Nat} {l : List (Nat × Nat)} {u p : Nat} (h : DS n s t L (l ++ [(u, p)])) (hp : p < s (u + 1)) (hs : s (t p) ≤ s (t p + 1)) (hv : t p < n) (hm : ¬ t p ∈ L ++ (l ++ [(u, p)]).map Prod.fst) (hE : EE n s t u (t p)) : DS n s t L (l ++ [(u, p + 1)] ++ [(t p, s (t p))]) := by
  have h1 := h.enter hs hv hm (fun l2 a he => by
    have h3 := List.append_inj' he (by simp)
    have : (u, p) = a := by simpa using h3.2
    rw [← this]; exact hE)
  have h2 := DS.passAt (l := l) (r := [(t p, s (t p))]) (u := u) (p := p) (by simpa using h1) hp (by simp)
  simpa using h2
end Go.Proofs.Ytiohimbifjlfdaa
