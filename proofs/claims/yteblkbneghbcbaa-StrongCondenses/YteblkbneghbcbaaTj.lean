/- The walk back: what it has in memory. -/
import Derived.Test.YteblkbneghbcbaaPc
import Derived.Test.YteblkbneghbcbaaWkG
namespace Go.Proofs.Yteblkbneghbcbaa
open Go.RowKit Go.Lib
set_option linter.unusedVariables false
set_option linter.unusedSimpArgs false
/-- The groups, in memory. -/
structure TM (n : Nat) (f : Nat) (Gb A Fb : Nat) (W : World) (G : Nat → Int) : Prop where
  gbx : W.heap[Gb]? = some (.cells #[.slice (some ⟨A, 0, none⟩) n n] 22 (0, 0))
  fbx : W.heap[Fb]? = some (.cells #[.int .i64 (f : Int)] 3 (0, 0))
  arr : Arr W A (tab n G)
  ne : A ≠ Gb ∧ A ≠ Fb
/-- Which have a group. -/
def hasG (G : Nat → Int) : Nat → Bool := fun v => decide (G v ≠ -1)
def setG (G : Nat → Int) (v : Nat) (x : Int) : Nat → Int := fun u => if u = v then x else G u
theorem hasG_set (G : Nat → Int) (v f : Nat) : hasG (setG G v (f : Int)) = updK (hasG G) v := by
  funext u
  unfold hasG setG updK
  by_cases e : u = v
  · simp [e]
  · simp [e]
structure TJ (n : Nat) (s t : Nat → Nat) (gr : Nat → Int) (f : Nat) (Gb A Fb : Nat) (m : Nat) (l : List (Nat × Nat)) (W : World) (G : Nat → Int) (V : Nat → Prop) : Prop where
  ws : WS n s t gr f V l
  nod : (l.map Prod.fst).Nodup
  inn : ∀ v, V v → G v = (f : Int)
  out : ∀ v, ¬ V v → G v = gr v
  m : m = unp s (hasG G) n + wpt s l
  tm : TM n f Gb A Fb W G
section
variable {n : Nat} {s t : Nat → Nat} {gr G : Nat → Int} {f Gb A Fb m : Nat} {l : List (Nat × Nat)} {W W' : World} {V : Nat → Prop}
theorem TM.old (h : TM n f Gb A Fb W G) {B : Nat} (hB : ∀ k, k < B → W'.heap[k]? = W.heap[k]?) (h1 : Gb < B) (h2 : A < B) (h3 : Fb < B) : TM n f Gb A Fb W' G :=
  ⟨(hB _ h1).trans h.gbx, (hB _ h3).trans h.fbx, (hB _ h2).trans h.arr, h.ne⟩
theorem TJ.old (h : TJ n s t gr f Gb A Fb m l W G V) {B : Nat} (hB : ∀ k, k < B → W'.heap[k]? = W.heap[k]?) (h1 : Gb < B) (h2 : A < B) (h3 : Fb < B) : TJ n s t gr f Gb A Fb m l W' G V :=
  ⟨h.ws, h.nod, h.inn, h.out, h.m, h.tm.old hB h1 h2 h3⟩
theorem TM.put (h : TM n f Gb A Fb W G) (v : Nat) : TM n f Gb A Fb (W.setCell ⟨A, v, none⟩ (.int .i64 (f : Int))) (setG G v (f : Int)) ∧ Chg (fun k => k = A) W (W.setCell ⟨A, v, none⟩ (.int .i64 (f : Int))) := by
  have hc : Chg (fun k => k = A) W (W.setCell ⟨A, v, none⟩ (.int .i64 (f : Int))) := (Chg.refl (fun k => k = A) W).setCell (p := ⟨A, v, none⟩) rfl _
  refine ⟨⟨hc.heap h.gbx (fun e => h.ne.1 e.symm), hc.heap h.fbx (fun e => h.ne.2 e.symm), ?_, h.ne⟩, hc⟩
  have := h.arr.put v (f : Int)
  rw [tab_set] at this
  exact this
end
set_option maxRecDepth 100000 in
/-- The first one. -/
theorem tj_first {n : Nat} {s t : Nat → Nat} {gr : Nat → Int} {f Gb A Fb : Nat} {W : World} (h : TM n f Gb A Fb W gr) (hf : f < n) (hs : s f ≤ s (f + 1)) :
    Calls Try.prog 65 (#[.int .i64 (f : Int)] ++ #[.pointer (some ⟨Gb, 0, none⟩), .pointer (some ⟨Fb, 0, none⟩)]) W fun e w' => Chg (fun k => k = A) W w' ∧ ((e = .returned (.bool false) ∧ gr f ≠ -1 ∧ TM n f Gb A Fb w' gr) ∨ (e = .returned (.bool true) ∧ ∃ m' G V, TJ n s t gr f Gb A Fb m' [(f, s f)] w' G V)) := by
  have ht := tab_at n gr f hf
  by_cases hK : gr f = -1
  · refine (group_new n f A Gb Fb (f : Int) (tab n gr) W (cell_of h.gbx rfl) (cell_of h.fbx rfl) h.arr (tab_length n gr) hf (by rw [ht]; exact hK)).mono ?_
    rintro e w' ⟨rfl, rfl⟩
    obtain ⟨h1, h2⟩ := h.put f
    refine ⟨h2, .inr ⟨rfl, _, setG gr f (f : Int), _, ⟨WS.start hf hK hs, by simp, fun v hv => by subst hv; unfold setG; rw [if_pos rfl], fun v hv => by unfold setG; rw [if_neg hv], rfl, h1⟩⟩⟩
  · refine (group_old n f A Gb Fb (tab n gr) W (cell_of h.gbx rfl) h.arr (tab_length n gr) hf (by rw [ht]; exact hK)).mono ?_
    rintro e w' ⟨rfl, rfl⟩
    exact ⟨Chg.refl _ _, .inl ⟨rfl, hK, h⟩⟩
set_option maxRecDepth 100000 in
theorem tj_next {n : Nat} {s t : Nat → Nat} {gr G : Nat → Int} {f Gb A Fb m u p : Nat} {l : List (Nat × Nat)} {W : World} {V : Nat → Prop} (h : TJ n s t gr f Gb A Fb m (l ++ [(u, p)]) W G V) (hp : p < s (u + 1)) (hv : t p < n) (hs : s (t p) ≤ s (t p + 1)) :
    Calls Try.prog 65 (#[.int .i64 ((t p : Nat) : Int)] ++ #[.pointer (some ⟨Gb, 0, none⟩), .pointer (some ⟨Fb, 0, none⟩)]) W fun e w' => Chg (fun k => k = A) W w' ∧ ((e = .returned (.bool false) ∧ ∃ m', m' < m ∧ ∃ G V, TJ n s t gr f Gb A Fb m' (l ++ [(u, p + 1)]) w' G V) ∨ (e = .returned (.bool true) ∧ ∃ m', m' < m ∧ ∃ G V, TJ n s t gr f Gb A Fb m' (l ++ [(u, p + 1)] ++ [(t p, s (t p))]) w' G V)) := by
  have ht := tab_at n G (t p) hv
  have hm0 := h.m
  have hu : u < n := (h.ws.new u (h.ws.wv (u, p) (by simp))).1
  by_cases hK : G (t p) = -1
  · refine (group_new n (t p) A Gb Fb (f : Int) (tab n G) W (cell_of h.tm.gbx rfl) (cell_of h.tm.fbx rfl) h.tm.arr (tab_length n G) hv (by rw [ht]; exact hK)).mono ?_
    rintro e w' ⟨rfl, rfl⟩
    obtain ⟨h1, h2⟩ := h.tm.put (t p)
    have hV : ¬ V (t p) := fun hV => by have := h.inn _ hV; omega
    have hg : gr (t p) = -1 := by rw [← h.out _ hV]; exact hK
    refine ⟨h2, .inr ⟨rfl, _, ?_, setG G (t p) (f : Int), _, ⟨h.ws.enter hu hp rfl hv hg hs, ?_, fun v hv => ?_, fun v hv => ?_, rfl, h1⟩⟩⟩
    · rw [hm0, hasG_set]
      exact pot_enter s (hasG G) n u p (t p) l hp (by unfold hasG; simp [hK]) hv
    · rw [List.map_append, List.nodup_append]
      refine ⟨?_, by simp, fun a ha b hb => ?_⟩
      · have := h.nod
        rw [List.map_append] at this ⊢
        exact this
      · simp at hb
        subst hb
        rintro rfl
        apply hV
        rw [List.map_append, List.mem_append] at ha
        rcases ha with ha | ha
        · obtain ⟨c, hc, hc2⟩ := List.mem_map.1 ha
          have := h.ws.wv c (by simp [hc])
          rw [hc2] at this; exact this
        · simp at ha
          rw [ha]
          exact h.ws.wv (u, p) (by simp)
    · unfold setG
      rcases hv with hv | rfl
      · split
        · rfl
        · exact h.inn v hv
      · rw [if_pos rfl]
    · unfold setG
      rw [if_neg (fun e => hv (.inr e))]
      exact h.out v (fun e => hv (.inl e))
  · refine (group_old n (t p) A Gb Fb (tab n G) W (cell_of h.tm.gbx rfl) h.tm.arr (tab_length n G) hv (by rw [ht]; exact hK)).mono ?_
    rintro e w' ⟨rfl, rfl⟩
    refine ⟨Chg.refl _ _, .inl ⟨rfl, _, ?_, G, V, ⟨h.ws.pass hp ?_, ?_, h.inn, h.out, rfl, h.tm⟩⟩⟩
    · rw [hm0]; exact pot_pass s (hasG G) n u p l hp
    · by_cases hV : V (t p)
      · exact .inr hV
      · exact .inl (by rw [← h.out _ hV]; exact hK)
    · have := h.nod
      rw [List.map_append] at this ⊢
      exact this
set_option maxRecDepth 100000 in
theorem tj_leave {n : Nat} {s t : Nat → Nat} {gr G : Nat → Int} {f Gb A Fb m u : Nat} {l : List (Nat × Nat)} {W : World} {V : Nat → Prop} (h : TJ n s t gr f Gb A Fb m (l ++ [(u, s (u + 1))]) W G V) :
    Calls Try.prog 66 (#[.int .i64 (u : Int)] ++ #[]) W fun e w' => e = .returned (.tuple #[]) ∧ Chg (fun k => k = A) W w' ∧ ∃ m', m' < m ∧ ∃ G V, TJ n s t gr f Gb A Fb m' l w' G V := by
  have hm0 := h.m
  refine (nothing_any (u : Int) W).mono ?_
  rintro e w' ⟨rfl, rfl⟩
  refine ⟨rfl, Chg.refl _ _, _, by rw [hm0]; exact pot_leave s (hasG G) n u (s (u + 1)) l, G, V, ⟨h.ws.leave, ?_, h.inn, h.out, rfl, h.tm⟩⟩
  have := h.nod
  rw [List.map_append, List.nodup_append] at this
  exact this.1
/-- What a walk back leaves. -/
def TEnd (n : Nat) (s t : Nat → Nat) (gr : Nat → Int) (f : Nat) (Gb A Fb : Nat) (W : World) : Prop := ∃ G, TM n f Gb A Fb W G ∧ ((gr f ≠ -1 ∧ G = gr) ∨ ∃ V, Wb (fun x y => EE n s t y x) n gr f V ∧ (∀ v, V v → G v = (f : Int)) ∧ ∀ v, ¬ V v → G v = gr v)
set_option maxRecDepth 100000 in
theorem back_walk {wr : World} {n : Nat} {va vb vc : Value} {st tl wt : List Int} {gr : Nat → Int} {f Gb A Fb : Nat} (h : TM n f Gb A Fb wr gr) (hGI : ∀ W, Chg (fun k => k = A) wr W → GIs W n va vb vc st tl wt) (hg : Good n st tl wt) (hf : f < n) :
    Calls Try.prog 64 #[gAgg n va vb vc, .int .i64 (f : Int), .func (.func 65) #[] #[.pointer (some ⟨Gb, 0, none⟩), .pointer (some ⟨Fb, 0, none⟩)], .func (.func 66) #[] #[]] wr fun e w' => e = .returned (.tuple #[]) ∧ Chg (fun k => k = A) wr w' ∧ TEnd n (sN st) (tN tl) gr f Gb A Fb w' := by
  have hl : Gb < wr.heap.size ∧ A < wr.heap.size ∧ Fb < wr.heap.size := ⟨lt_of_heap h.gbx, lt_of_heap h.arr, lt_of_heap h.fbx⟩
  have hv : ∀ p, p < tl.length → tN tl p < n := fun p hp => by have := hg.vtx p hp; unfold tN; omega
  have hpm : ∀ u p, u < n → p < sN st (u + 1) → p < tl.length := fun u p hu hp => by have := hg.range (u + 1) (by omega); unfold sN at hp; omega
  refine (walk_any 65 66 #[.pointer (some ⟨Gb, 0, none⟩), .pointer (some ⟨Fb, 0, none⟩)] #[] n f wr va vb vc st tl wt (fun k => k = A)
    (fun W => TM n f Gb A Fb W gr)
    (fun m l W => (l = [] ∧ gr f ≠ -1 ∧ TM n f Gb A Fb W gr) ∨ ∃ G V, TJ n (sN st) (tN tl) gr f Gb A Fb m l W G V)
    (enters_of Try.func65 (by kernel_rfl) rfl) (enters_of Try.func66 (by kernel_rfl) rfl) hg hf (fun k hk => by rw [hk]; exact hl.2.1) hGI
    (fun m l W W' h1 h2 => by
      rcases h1 with ⟨h3, h4, h5⟩ | ⟨G, V, h3⟩
      · exact .inl ⟨h3, h4, h5.old h2 hl.1 hl.2.1 hl.2.2⟩
      · exact .inr ⟨G, V, h3.old h2 hl.1 hl.2.1 hl.2.2⟩)
    (fun W W' h1 h2 => h1.old h2 hl.1 hl.2.1 hl.2.2)
    h
    (fun m l W h1 => by
      rcases h1 with ⟨rfl, h4, h5⟩ | ⟨G, V, h3⟩
      · exact ⟨Nat.zero_le _, fun a ha => by simp at ha⟩
      · refine ⟨?_, fun a ha => ?_⟩
        · have := nodup_few n (l.map Prod.fst) h3.nod (fun v hv => by
            obtain ⟨a, ha, rfl⟩ := List.mem_map.1 hv
            exact (h3.ws.new _ (h3.ws.wv a ha)).1)
          simpa using this
        · have := h3.ws.pl a ha
          exact ⟨(h3.ws.new _ (h3.ws.wv a ha)).1, this.1, this.2.1⟩)
    (fun W h1 => by
      refine (tj_first (s := sN st) (t := tN tl) h1 hf (sN_le hg hf)).mono ?_
      rintro e w' ⟨h5, ⟨rfl, h6, h7⟩ | ⟨rfl, m', G, V, h6⟩⟩
      · exact ⟨h5, .inl ⟨rfl, 0, .inl ⟨rfl, h6, h7⟩⟩⟩
      · exact ⟨h5, .inr ⟨rfl, m', .inr ⟨G, V, h6⟩⟩⟩)
    (fun m l u p W h1 hp => by
      rcases h1 with ⟨h3, _⟩ | ⟨G, V, h3⟩
      · simp at h3
      · have hu : u < n := (h3.ws.new u (h3.ws.wv (u, p) (by simp))).1
        have hpt := hpm u p hu hp
        refine (tj_next h3 hp (hv p hpt) (sN_le hg (hv p hpt))).mono ?_
        rintro e w' ⟨h5, ⟨rfl, m', h6, G, V, h7⟩ | ⟨rfl, m', h6, G, V, h7⟩⟩
        · exact ⟨h5, .inl ⟨rfl, m', h6, .inr ⟨G, V, h7⟩⟩⟩
        · exact ⟨h5, .inr ⟨rfl, m', h6, .inr ⟨G, V, h7⟩⟩⟩)
    (fun m l u W h1 => by
      rcases h1 with ⟨h3, _⟩ | ⟨G, V, h3⟩
      · simp at h3
      · refine (tj_leave h3).mono ?_
        rintro e w' ⟨rfl, h5, m', h6, G, V, h7⟩
        exact ⟨rfl, h5, m', h6, .inr ⟨G, V, h7⟩⟩)).mono ?_
  rintro e w' ⟨rfl, hc, m', h5⟩
  refine ⟨rfl, hc, ?_⟩
  rcases h5 with ⟨_, h6, h7⟩ | ⟨G, V, h6⟩
  · exact ⟨gr, h7, .inl ⟨h6, rfl⟩⟩
  · exact ⟨G, h6.tm, .inr ⟨V, h6.ws.done, h6.inn, h6.out⟩⟩
end Go.Proofs.Yteblkbneghbcbaa
