import Derived.Test.YtiohimbifjlfdaaSo
import Derived.Test.YtiohimbifjlfdaaMq
import Derived.Test.YtiohimbifjlfdaaQi
import Derived.Test.YtiohimbifjlfdaaGE
import Derived.Test.YtiohimbifjlfdaaEg
/- sortedKeys. -/
namespace Go.Proofs.Ytiohimbifjlfdaa
open Go.RowKit Go.Lib Go.Maps Go.Shelf
set_option linter.unusedVariables false
set_option linter.unusedSimpArgs false
theorem Try.info107q : (Try.prog.info? 84).map (fun i => (i.zero, i.size, i.bytes)) = some (some (.agg #[.int .i64 0, .int .i64 0]), 2, 16) := by kernel_rfl
/-- The keys that have come. -/
structure GN (c : Nat) (D : DataW Unit) (left : Lit → Bool) (l : List Pq) : Prop where
  a : ∀ kl, left kl = true → has D kl = true
  nod : l.Nodup
  inn : ∀ x, x ∈ l → left (pk x.1 x.2) = false ∧ ∃ p q : Nat, x = ((p : Int), (q : Int)) ∧ p < c ∧ q < c ∧ has D (pk p q) = true
  all : ∀ p q : Nat, p < c → q < c → has D (pk p q) = true → left (pk p q) = false → ((p : Int), (q : Int)) ∈ l
theorem GN.start (c : Nat) (D : DataW Unit) : GN c D (has D) [] := ⟨fun _ h => h, by simp, fun x h => by simp at h, fun p q _ _ h1 h2 => by rw [h1] at h2; cases h2⟩
theorem GN.next {c : Nat} {D : DataW Unit} {left : Lit → Bool} {l : List Pq} {x : Pq} {kl : Lit} (h : GN c D left l) (hc : c ≤ 1048576) (hD : ∀ kl, has D kl = true → ∃ p q : Nat, p < c ∧ q < c ∧ kl = pk p q) (hk : keyOf Try.prog 84 (.agg #[.int .i64 x.1, .int .i64 x.2]) = some kl) (hl : left kl = true) : GN c D (fun z => left z && !z.sameKey kl) (l ++ [x]) := by
  obtain ⟨p, q, hp, hq, rfl⟩ := hD kl (h.a kl hl)
  have h2 := key_pair (wf_small (by omega : p ≤ 1048576)) (wf_small (by omega : q ≤ 1048576))
  have h3 := law107.inj hk h2
  simp only [Value.agg.injEq, Array.mk.injEq, List.cons.injEq, Value.int.injEq, true_and, and_true] at h3
  have hx : x = ((p : Int), (q : Int)) := Prod.ext h3.1 h3.2
  subst hx
  have hself := WideAt.sameKey_self (law107.key h2)
  have hnot : ¬ ((p : Int), (q : Int)) ∈ l := fun hm => by have := (h.inn _ hm).1; rw [hl] at this; cases this
  refine ⟨fun kl h1 => h.a kl (by rw [Bool.and_eq_true] at h1; exact h1.1), List.nodup_append.2 ⟨h.nod, by simp, fun a ha b hb e => by simp at hb; subst hb; subst e; exact hnot ha⟩, fun y hy => ?_, fun a b ha hb h1 h4 => ?_⟩
  · rcases List.mem_append.1 hy with hy | hy
    · obtain ⟨h4, h5⟩ := h.inn y hy
      exact ⟨by rw [h4]; rfl, h5⟩
    · simp at hy
      subst hy
      exact ⟨by simp [hself], p, q, rfl, hp, hq, h.a _ hl⟩
  · by_cases e : a = p ∧ b = q
    · rw [e.1, e.2]; simp
    · have hne : pk a b ≠ pk p q := fun he => e (pk_inj (by omega) (by omega) (by omega) (by omega) he)
      have h5 : left (pk a b) = false := by
        cases hl2 : left (pk a b) with
        | false => rfl
        | true => rw [hl2, sameKey_ne hne] at h4; cases h4
      exact List.mem_append.2 (.inl (h.all a b ha hb h1 h5))
/-- What sortedKeys answers: the keys, sorted. -/
def KeysW (w : World) (c : Nat) (f : Nat → Nat → Option Int) (e : Ending) (w' : World) : Prop :=
  ∃ v l, e = .returned v ∧ POwn w' w.heap.size v (psrt l) ∧ Below w.heap.size w w' ∧ l.Nodup ∧ (∀ x, x ∈ l → ∃ p q : Nat, x = ((p : Int), (q : Int)) ∧ p < c ∧ q < c ∧ (f p q).isSome = true) ∧ ∀ p q : Nat, p < c → q < c → (f p q).isSome = true → ((p : Int), (q : Int)) ∈ l
theorem own_not_iter {w : World} {base : Nat} {e : TypeId} {size : Nat} {v : Value} {n : Nat} {xs : List Value} {P : Program} {k : TypeId} {R : Value → Option (DataW Unit × List MemPlace)} {b r m : Nat} {D : DataW Unit} {left : Lit → Bool} {cnt : Nat} (h : w.ownsRow base e size v n xs) (hr : w.ranges P k R b r m D left cnt) : v.ownBlock ≠ some r ∧ v.ownBlock ≠ some b := by
  obtain ⟨_, _, _, _, _, hbm, _, _, _, hit, _⟩ := hr
  rcases h.2 with ⟨rfl, _⟩ | ⟨g', cap, cur, rfl, _, hb, _⟩
  · exact ⟨fun h => by simp [Value.ownBlock] at h, fun h => by simp [Value.ownBlock] at h⟩
  · refine ⟨fun hh => ?_, fun hh => ?_⟩
    · simp only [Value.ownBlock, Option.some.injEq] at hh
      subst hh; rw [hit] at hb; cases hb
    · simp only [Value.ownBlock, Option.some.injEq] at hh
      subst hh; rw [hbm] at hb; cases hb
set_option maxRecDepth 100000 in
set_option maxHeartbeats 8000000 in
theorem sortedKeys_any (w : World) (Mb N c : Nat) (f : Nat → Nat → Option Int) (hm : MpP w Mb N c f) (hc : c ≤ 1048576) (hN : N ≤ 4194304) :
    Calls Try.prog 40 #[.map (some Mb), .func (.func 41) #[] #[]] w (KeysW w c f) := by
  obtain ⟨i0, hi, hz0, hz1, hz2⟩ := info_parts Try.info107q
  obtain ⟨D, hown, hf, hD⟩ := hm
  have hsz : size D ≤ N := hown.size_le
  obtain ⟨k, hk⟩ : ∃ k, k = size D := ⟨_, rfl⟩
  have HF := hide hf; have HD := hide hD; have HOW := hide hown; have HC := hide hc
  have hkN : k ≤ 4194304 := by omega
  have HKK := hide hk
  clear hf hD hc hsz
  go_enter Try.func40, Try.ntmps40
  go_wp2_with (first
    | (at_len; refine wpList_len_own _ rfl _ 58 rfl 84 46 Try.underlying58 _ Mb N D rfl HOW.out ?_; rw [← hk]; clear hk hown)
    | (at_make; refine wpList_make_own _ rfl _ _ 81 rfl w.heap.size 84 i0 (.agg #[.int .i64 0, .int .i64 0]) 2 Try.underlying81 hi hz0 hz1 _ _ _ k rfl rfl rfl (by rw [hz2]; omega) (by unfold maxLen; omega) (Nat.le_refl _) ?_; intro w1 hro1 hgr1; have HR1 := hide hro1; have HG1 := hide hgr1; have HO1 := hide (HOW.out.kept hgr1 (by simp)); clear hro1 hgr1)
    | (at_range; refine wpList_range_own _ rfl _ 58 rfl 84 46 law107 Try.underlying58 _ Mb N D rfl HO1.out ?_; intro w2 hrg2 hgr2 hsz2; have HRG := hide hrg2; have HG2 := hide hgr2; have HZ2 := hide hsz2; clear hrg2 hgr2 hsz2)
    | fail)
  go_frame
  obtain ⟨r, hr⟩ : ∃ r, r = w1.heap.size := ⟨_, rfl⟩
  have hbe : Below w.heap.size w w2 := ((Below.refl _ _).grown HG1.out (Nat.le_refl _) (by intro j hj; cases hj)).grown HG2.out (HG1.out.size) (by intro j hj; cases hj)
  have hlo : w.heap.size ≤ r := by rw [hr]; exact HG1.out.size
  have hro2 : POwn w2 w.heap.size (.slice (some ⟨w.heap.size, 0, none⟩) 0 k) [] := HR1.out.kept HG2.out (Or.inr (by simp [Value.ownBlock]))
  have HRO2 := hide hro2; have HBE := hide hbe; have HLO := hide hlo; have HSZ := hide (show w1.heap.size < w2.heap.size by rw [HZ2.out]; omega)
  rw [← hr] at HRG ⊢
  clear hr hbe hlo hro2 HG1 HG2 HR1 HO1 HZ2
  go_loopw [5] (fun v wr => ∃ (left : Lit → Bool) (cnt : Nat) (l : List Pq), wr.ranges Try.prog 84 (plainElem Try.prog 46) Mb r N D left cnt ∧ POwn wr w.heap.size v l ∧ Below w.heap.size w wr ∧ GN c D left l ∧ l.length + cnt ≤ k) (fun _ wr => wr.rangeLeft Mb r)
  case atStart => exact ⟨_, _, [], HRG.out, HRO2.out, HBE.out, GN.start c D, by rw [HKK.out]; simp⟩
  case round =>
    obtain ⟨left, cnt, l, hrg, hpo, hbl, hgn, hlc⟩ := hrel
    have HRR := hide hrg; have HPO := hide hpo; have HBL := hide hbl; have HGN := hide hgn; have HLC := hide hlc
    clear hrg hpo hbl hgn hlc HRG HRO2 HBE
    obtain ⟨vo, vc, rfl⟩ : ∃ vo vc, u5 = .slice vo l.length vc := by
      obtain ⟨_, ⟨rfl, h0⟩ | ⟨g, cap, cur, rfl, _⟩⟩ := HPO.out
      · exact ⟨_, _, by rw [h0]⟩
      · exact ⟨_, _, rfl⟩
    obtain ⟨k1, hk1⟩ : ∃ k1, k1 = l.length := ⟨_, rfl⟩
    rw [← hk1] at HPO ⊢
    have HK1 := hide hk1
    clear hk1
    go_wp2_with (first
      | (at_next; refine wpList_next_ranges _ rfl _ rfl 84 law107 _ (fun x : Pq => .agg #[.int .i64 x.1, .int .i64 x.2]) (fun c : Int => .int .u64 c) (fun key kl h => by obtain ⟨a, b, rfl, _⟩ := key_pair_inv h; exact ⟨(a, b), rfl⟩) (fun v y h => by obtain ⟨c, rfl, _⟩ := plainElem_int_inv Try.underlying46 h; exact ⟨c, rfl⟩) Mb r N D left cnt rfl HRR.out ?_ ?_)
      | fail)
    · intro hc0 hl0
      have HL0 := hide hl0
      have hso : Calls Try.prog 63 #[.slice vo k1 vc, .func (.func 41) #[] #[]] wr fun e w' => e = .returned (.tuple #[]) ∧ POwn w' w.heap.size (.slice vo k1 vc) (psrt l) ∧ Below w.heap.size wr w' := by
        rcases (id HPO.out).2 with ⟨hv, hn⟩ | ⟨g, cap, cur, hv, _⟩
        · simp only [Value.slice.injEq] at hv
          obtain ⟨rfl, rfl, rfl⟩ := hv
          obtain rfl : l = [] := List.eq_nil_of_length_eq_zero hn
          have hc := AnyF.slices_SortFunc_none Try.sortPq none 0 (.func (.func 41) #[] #[]) wr
          change Calls Try.prog 63 _ _ _ at hc
          refine hc.mono ?_
          rintro e w' ⟨rfl, rfl⟩
          exact ⟨rfl, by rw [show psrt [] = [] by simp [psrt]]; exact ⟨rfl, Or.inl ⟨rfl, rfl⟩⟩, Below.refl _ _⟩
        · simp only [Value.slice.injEq] at hv
          obtain ⟨rfl, _, rfl⟩ := hv
          exact sortFunc_own l w.heap.size g k1 vc wr HPO.out HBL.out.size (by have := HLC.out; omega)
      have HSO := hide hso
      clear hso hl0 hc0
      go_wp2_with (go_at_call 63; refine HSO.out.mono ?_; rintro e w' ⟨rfl, hpo9, hbl9⟩; have HP9 := hide hpo9; have HB9 := hide hbl9; clear hpo9 hbl9)
      go_ret
      refine ⟨_, l, rfl, HP9.out, HBL.out.trans HB9.out, HGN.out.nod, fun x hx => ?_, fun p q hp hq hfs => ?_⟩
      · obtain ⟨_, p, q, h1, h2, h3, h4⟩ := HGN.out.inn x hx
        exact ⟨p, q, h1, h2, h3, by rw [← (HF.out p q h2 h3).1]; exact h4⟩
      · exact HGN.out.all p q hp hq (by rw [(HF.out p q hp hq).1]; exact hfs) (HL0.out _)
    · intro x1 x2 cw kl y1 y2 w3 cnt3 hkey hlk hv hat hrg3 hlt3 hgr3 hsz3 hent
      have HGN3 := hide (HGN.out.next (x := (x1, x2)) HC.out HD.out hkey hlk)
      have hm0 : wr.rangeLeft Mb r = cnt := HRR.out.left_eq
      have HM0 := hide hm0; have HLT3 := hide hlt3
      have hrl := HRR.out.lt
      have hblk : (Value.slice vo k1 vc).ownBlock ≠ some r := (own_not_iter HPO.out HRR.out).1
      have hpo3 : POwn w3 w.heap.size (.slice vo k1 vc) l := HPO.out.kept hgr3 (Or.inr hblk)
      have hbl3 : Below w.heap.size w w3 := HBL.out.grown hgr3 HBL.out.size (fun j hj => by cases hj; exact HLO.out)
      have HO3 : Hid (((w3.alloc (.cells #[.int .i64 x1, .int .i64 x2] 84)).alloc (.cells #[.int .i64 x1, .int .i64 x2] 84)).ownsRow w.heap.size 84 2 (.slice vo k1 vc) k1 (pCells l)) := by
        have := hpo3; unfold POwn at this; rw [← HK1.out] at this; exact (this.alloc _).alloc _
      have HR3 := hide ((hrg3.alloc (.cells #[.int .i64 x1, .int .i64 x2] 84)).alloc (.cells #[.int .i64 x1, .int .i64 x2] 84))
      have HB3 := hide (below_alloc (below_alloc hbl3 (.cells #[.int .i64 x1, .int .i64 x2] 84)) (.cells #[.int .i64 x1, .int .i64 x2] 84))
      have HKB : Hid (k1 ≤ 4194304) := by show _ ≤ _; have := HLC.out; have := HK1.out; omega
      clear hm0 hrl hblk hpo3 hbl3 hrg3 hlt3 hgr3 hsz3 hat hv hlk hkey HRR HPO HBL
      have HTW : Hid (∀ j u, [Value.int .i64 x1, .int .i64 x2][j]? = some u → ((w3.alloc (.cells #[.int .i64 x1, .int .i64 x2] 84)).alloc (.cells #[.int .i64 x1, .int .i64 x2] 84)).cell? ((⟨w3.heap.size + 1, 0, none⟩ : Addr).add j) = some u) := by
        have := two_at (w3.alloc (.cells #[.int .i64 x1, .int .i64 x2] 84)) (.int .i64 x1) (.int .i64 x2) 84
        rw [World.size_alloc] at this
        exact this
      go_wp2_with (first
        | (at_builtin; refine wpList_append_lies _ rfl (.tmp 16) (.tmp 18) 81 rfl w.heap.size 84 i0 (.agg #[.int .i64 0, .int .i64 0]) 2 16 Try.underlying81 hi hz0 hz1 hz2 rfl (by omega) (.slice vo k1 vc) k1 (pCells l) rfl HO3.out ⟨w3.heap.size + 1, 0, none⟩ 1 1 [.int .i64 x1, .int .i64 x2] rfl rfl HTW.out (by simp [Value.oneCell']) (by omega) (by unfold maxLen; have := HKB.out; omega) (by have := HKB.out; omega) HB3.out.size (w3.heap.size + 2) (by simp) ?_; intro g8 cap8 w8 hown hgrow hat hlt8; have HO8 := hide hown; have HG8 := hide hgrow; clear hown hgrow hat hlt8)
        | fail)
      have hnb := own_not_iter HO3.out HR3.out
      have hr8 := HR3.out.kept HG8.out (fun h => hnb.2 h.symm) (fun h => hnb.1 h.symm)
      refine ⟨⟨_, cnt3, l ++ [(x1, x2)], hr8, ?_, HB3.out.grown HG8.out HB3.out.size (fun j hj => (World.ownsRow.lt HO3.out j hj).1), HGN3.out, ?_⟩, ?_⟩
      · unfold POwn
        rw [pCells_snoc, List.length_append, List.length_singleton, ← HK1.out]
        exact HO8.out
      · have := HLT3.out; have := HLC.out; simp; omega
      · rw [hr8.left_eq, HM0.out]; exact HLT3.out
end Go.Proofs.Ytiohimbifjlfdaa

/- The edges between parts, plainly, in their order. -/
namespace Go.Proofs.Ytiohimbifjlfdaa
set_option linter.unusedVariables false
/-- An edge, if there is one. -/
def oneE (f : Nat → Nat → Option Int) (p q : Nat) : List Ed3 := match f p q with | some x => [((p : Int), (q : Int), x)] | none => []
/-- The edges of a row, of all rows. -/
def rowE' (f : Nat → Nat → Option Int) (p : Nat) : Nat → List Ed3
  | 0 => []
  | q + 1 => rowE' f p q ++ oneE f p q
def kE (f : Nat → Nat → Option Int) (c : Nat) : Nat → List Ed3
  | 0 => []
  | p + 1 => kE f c p ++ rowE' f p c
def keyE (e : Ed3) : Pq := (e.1, e.2.1)
section
variable {f : Nat → Nat → Option Int} {c k p : Nat}
theorem mem_oneE {q : Nat} {e : Ed3} : e ∈ oneE f p q ↔ ∃ x, f p q = some x ∧ e = ((p : Int), (q : Int), x) := by
  unfold oneE
  cases h : f p q with
  | none => simp
  | some x => simp
theorem mem_rowE' {e : Ed3} : e ∈ rowE' f p k ↔ ∃ q, q < k ∧ ∃ x, f p q = some x ∧ e = ((p : Int), (q : Int), x) := by
  induction k with
  | zero => simp [rowE']
  | succ k ih =>
    unfold rowE'
    rw [List.mem_append, ih, mem_oneE]
    constructor
    · rintro (⟨q, h1, h2⟩ | h)
      · exact ⟨q, by omega, h2⟩
      · exact ⟨k, by omega, h⟩
    · rintro ⟨q, h1, h2⟩
      by_cases e : q = k
      · subst e; exact .inr h2
      · exact .inl ⟨q, by omega, h2⟩
theorem mem_kE {e : Ed3} : e ∈ kE f c k ↔ ∃ p, p < k ∧ ∃ q, q < c ∧ ∃ x, f p q = some x ∧ e = ((p : Int), (q : Int), x) := by
  induction k with
  | zero => simp [kE]
  | succ k ih =>
    unfold kE
    rw [List.mem_append, ih, mem_rowE']
    constructor
    · rintro (⟨q, h1, h2⟩ | h)
      · exact ⟨q, by omega, h2⟩
      · exact ⟨k, by omega, h⟩
    · rintro ⟨q, h1, h2⟩
      by_cases e : q = k
      · subst e; exact .inr h2
      · exact .inl ⟨q, by omega, h2⟩
theorem rowE'_pair : ((rowE' f p k).map keyE).Pairwise (fun a b => plt a b = true) := by
  induction k with
  | zero => simp [rowE']
  | succ k ih =>
    unfold rowE'
    rw [List.map_append, List.pairwise_append]
    refine ⟨ih, ?_, fun a ha b hb => ?_⟩
    · unfold oneE; cases f p k <;> simp
    · obtain ⟨e1, h1, rfl⟩ := List.mem_map.1 ha
      obtain ⟨e2, h2, rfl⟩ := List.mem_map.1 hb
      obtain ⟨q, hq, x, _, rfl⟩ := mem_rowE'.1 h1
      obtain ⟨y, _, rfl⟩ := mem_oneE.1 h2
      rw [plt_iff]
      right
      exact ⟨rfl, by show (q : Int) < (k : Int); omega⟩
theorem kE_pair : ((kE f c k).map keyE).Pairwise (fun a b => plt a b = true) := by
  induction k with
  | zero => simp [kE]
  | succ k ih =>
    unfold kE
    rw [List.map_append, List.pairwise_append]
    refine ⟨ih, rowE'_pair, fun a ha b hb => ?_⟩
    obtain ⟨e1, h1, rfl⟩ := List.mem_map.1 ha
    obtain ⟨e2, h2, rfl⟩ := List.mem_map.1 hb
    obtain ⟨p, hp, q, _, x, _, rfl⟩ := mem_kE.1 h1
    obtain ⟨q2, _, y, _, rfl⟩ := mem_rowE'.1 h2
    rw [plt_iff]
    left
    show (p : Int) < (k : Int)
    omega
theorem kE_nodup : ((kE f c k).map keyE).Nodup := by
  refine kE_pair.imp ?_
  intro a b h e
  subst e
  rw [plt_iff] at h
  omega
end
theorem nodup_sub {α : Type} [DecidableEq α] : ∀ (l m : List α), l.Nodup → (∀ x, x ∈ l → x ∈ m) → l.length ≤ m.length
  | [], m, _, _ => by simp
  | a :: l, m, hn, h => by
    have hn2 := List.nodup_cons.1 hn
    have ha : a ∈ m := h a (by simp)
    have h1 := nodup_sub l (m.erase a) hn2.2 (fun x hx => by
      have hne : x ≠ a := fun e => hn2.1 (e ▸ hx)
      exact (List.mem_erase_of_ne hne).2 (h x (by simp [hx])))
    rw [List.length_erase_of_mem ha] at h1
    have := List.length_pos_of_mem ha
    simp
    omega
/-- As many as there are edges, at most. -/
theorem kE_few {F T : Nat → Nat} {Wt : Nat → Int} {m c k : Nat} : (kE (lwt F T Wt m) c k).length ≤ m := by
  have h1 := nodup_sub ((kE (lwt F T Wt m) c k).map keyE) ((List.range m).map (fun i => (((F i : Nat) : Int), ((T i : Nat) : Int)))) kE_nodup (fun x hx => by
    obtain ⟨e, he, rfl⟩ := List.mem_map.1 hx
    obtain ⟨p, _, q, _, y, hy, rfl⟩ := mem_kE.1 he
    obtain ⟨_, i, hi, hF, hT, _⟩ := lwt_val (F := F) (T := T) (Wt := Wt) (k := m) (p := p) (q := q) (by rw [hy]; simp)
    exact List.mem_map.2 ⟨i, List.mem_range.2 hi, by rw [hF, hT]; rfl⟩)
  simpa using h1
theorem perm_same {α : Type} [DecidableEq α] {l m : List α} (hl : l.Nodup) (hm : m.Nodup) (h : ∀ x, x ∈ l ↔ x ∈ m) : l.Perm m := by
  rw [List.perm_iff_count]
  intro a
  rw [hl.count, hm.count]
  by_cases ha : a ∈ l
  · rw [if_pos ha, if_pos ((h a).1 ha)]
  · rw [if_neg ha, if_neg (fun hc => ha ((h a).2 hc))]
/-- The sorted keys are those of the edges in their order. -/
theorem keys_kE {f : Nat → Nat → Option Int} {c : Nat} {l : List Pq} (hn : l.Nodup) (h1 : ∀ x, x ∈ l → ∃ p q : Nat, x = ((p : Int), (q : Int)) ∧ p < c ∧ q < c ∧ (f p q).isSome = true) (h2 : ∀ p q : Nat, p < c → q < c → (f p q).isSome = true → ((p : Int), (q : Int)) ∈ l) : psrt l = (kE f c c).map keyE := by
  refine (psrt_unique (perm_same kE_nodup hn fun x => ⟨fun hx => ?_, fun hx => ?_⟩) (kE_pair.imp ?_)).symm
  · obtain ⟨e, he, rfl⟩ := List.mem_map.1 hx
    obtain ⟨p, hp, q, hq, y, hy, rfl⟩ := mem_kE.1 he
    exact h2 p q hp hq (by rw [hy]; rfl)
  · obtain ⟨p, q, rfl, hp, hq, hs⟩ := h1 x hx
    obtain ⟨y, hy⟩ := Option.isSome_iff_exists.1 hs
    exact List.mem_map.2 ⟨((p : Int), (q : Int), y), mem_kE.2 ⟨p, hp, q, hq, y, hy, rfl⟩, rfl⟩
  · intro a b h
    rw [ple_iff]
    rw [plt_iff] at h
    omega
end Go.Proofs.Ytiohimbifjlfdaa

/- inOrder. -/
namespace Go.Proofs.Ytiohimbifjlfdaa
open Go.RowKit Go.Lib Go.Maps
set_option linter.unusedVariables false
set_option linter.unusedSimpArgs false
theorem own_ne {w : World} {b1 b2 e1 e2 s1 s2 n1 n2 : Nat} {v1 v2 : Value} {x1 x2 : List Value} (h1 : w.ownsRow b1 e1 s1 v1 n1 x1) (h2 : w.ownsRow b2 e2 s2 v2 n2 x2) (hne : e1 ≠ e2) : v1.ownBlock = none ∨ v1.ownBlock ≠ v2.ownBlock := by
  rcases h1.2 with ⟨rfl, _⟩ | ⟨g, cap, cur, rfl, _, hb, _⟩
  · exact .inl rfl
  · right
    rcases h2.2 with ⟨rfl, _⟩ | ⟨g2, cap2, cur2, rfl, _, hb2, _⟩
    · simp [Value.ownBlock]
    · intro e
      simp only [Value.ownBlock, Option.some.injEq] at e
      subst e
      rw [hb] at hb2
      simp only [Option.some.injEq, Obj.cells.injEq] at hb2
      exact hne hb2.2.1
theorem own_block_ne {w : World} {b e s n B : Nat} {v : Value} {xs : List Value} {cs : Array Value} {t : TypeId} {fr : Nat × Nat} (h : w.ownsRow b e s v n xs) (hB : w.heap[B]? = some (.cells cs t fr)) (hne : e ≠ t) : some B ≠ v.ownBlock := by
  rcases h.2 with ⟨rfl, _⟩ | ⟨g, cap, cur, rfl, _, hb, _⟩
  · simp [Value.ownBlock]
  · intro e
    simp only [Value.ownBlock, Option.some.injEq] at e
    subst e
    rw [hB] at hb
    simp only [Option.some.injEq, Obj.cells.injEq] at hb
    exact hne hb.2.1.symm
theorem own_base {w : World} {b1 b2 e s n : Nat} {v : Value} {xs : List Value} (h : w.ownsRow b1 e s v n xs) (hb : b2 ≤ b1) : w.ownsRow b2 e s v n xs := by
  obtain ⟨h1, h2 | ⟨g, cap, cur, hv, hg, r⟩⟩ := h
  · exact ⟨h1, .inl h2⟩
  · exact ⟨h1, .inr ⟨g, cap, cur, hv, Nat.le_trans hb hg, r⟩⟩
theorem pown_at {w : World} {fr k : Nat} {v : Value} {ks : List Pq} (h : POwn w fr v ks) (hk : k < ks.length) : ∃ g c, v = .slice (some ⟨g, 0, none⟩) ks.length c ∧ ks.length ≤ c ∧ w.cell? ⟨g, k * 2, none⟩ = some (.int .i64 (pqAt ks k).1) ∧ w.cell? ⟨g, k * 2 + 1, none⟩ = some (.int .i64 (pqAt ks k).2) := by
  obtain ⟨h0, ⟨rfl, hn⟩ | ⟨g, cap, cur, rfl, hg, hb, h1, h2, h3, h4⟩⟩ := h
  · omega
  · obtain ⟨p, q⟩ := pCells_at ks k hk
    rw [← h4, List.getElem?_take_of_lt (by omega)] at p q
    exact ⟨g, cap, rfl, h1, cell_of hb (by rw [← Array.getElem?_toList]; exact p), cell_of hb (by rw [← Array.getElem?_toList]; exact q)⟩
set_option maxRecDepth 100000 in
/-- m[p], where it is. -/
theorem MpP.get {W : World} {B n c : Nat} {f : Nat → Nat → Option Int} (h : MpP W B n c f) {p q : Nat} (hp : p < c) (hq : q < c) (hc : c ≤ 1048576) {x : Int} (hx : f p q = some x) : (Instr.lookup 58 (.map (some B)) (.agg #[.int .i64 (p : Int), .int .i64 (q : Int)]) false).run Try.prog W = .ok (.int .u64 x) W := by
  obtain ⟨D, h1, h2, h3⟩ := h
  obtain ⟨y, hr, hat, _⟩ := h1.lookup_int law107 Try.underlying58 Try.underlying46 (zero58 W) (key_pair (wf_small (by omega : p ≤ 1048576)) (wf_small (by omega : q ≤ 1048576)))
  have h6 := (h2 p q hp hq).2 x hx (.lit (.int .u64 0))
  rw [h6] at hat
  injection hat with hat
  injection hat with _ hat
  rw [hat]; exact hr
structure IO (w wr : World) (kv ev : Value) (ks : List Pq) (E : List Ed3) : Prop where
  bel : Below w.heap.size w wr
  ks : POwn wr w.heap.size kv ks
  ed : wr.ownsRow w.heap.size 48 3 ev E.length (eCells E)
section
variable {w wr X Y : World} {kv ev : Value} {ks : List Pq} {E : List Ed3}
theorem IO.on (h : IO w wr kv ev ks E) (hb : Below wr.heap.size wr X) : IO w X kv ev ks E :=
  ⟨below_on h.bel hb, own_chg (S := fun _ => False) h.ks (Chg.of_below hb) (fun _ _ h => h), own_chg (S := fun _ => False) h.ed (Chg.of_below hb) (fun _ _ h => h)⟩
theorem IO.more {g cap : Nat} {x : Ed3} (h : IO w X kv ev ks E) (hown : Y.ownsRow w.heap.size 48 3 (.slice (some ⟨g, 0, none⟩) (E.length + 1) cap) (E.length + 1) (eCells E ++ [.int .i64 x.1, .int .i64 x.2.1, .int .u64 x.2.2])) (hg : X.grownBy Y ev.ownBlock) : IO w Y kv (.slice (some ⟨g, 0, none⟩) (E ++ [x]).length cap) ks (E ++ [x]) := by
  refine ⟨h.bel.grown hg h.bel.size (fun j hj => (World.ownsRow.lt h.ed j hj).1), ?_, ?_⟩
  · exact World.ownsRow.kept h.ks hg (own_ne h.ks h.ed (by decide))
  · rw [List.length_append, List.length_singleton, show eCells (E ++ [x]) = eCells E ++ [.int .i64 x.1, .int .i64 x.2.1, .int .u64 x.2.2] by simp [eCells]]
    exact hown
end
set_option maxRecDepth 100000 in
set_option maxHeartbeats 8000000 in
theorem inOrder_any (w : World) (Mb N c : Nat) (f : Nat → Nat → Option Int) (hm : MpP w Mb N c f) (hc : c ≤ 1048576) (hN : N ≤ 4194304) (hk : (kE f c c).length ≤ 4194304) :
    Calls Try.prog 19 #[.map (some Mb)] w fun e w' => ∃ v, e = .returned v ∧ w'.ownsRow w.heap.size 48 3 v (kE f c c).length (eCells (kE f c c)) ∧ Below w.heap.size w w' := by
  obtain ⟨i0, hi, hz0, hz1, hz2⟩ := info_parts Try.info48
  obtain ⟨D, hown, hf, hD⟩ := id hm
  have hsz : size D ≤ N := hown.size_le
  obtain ⟨k0, hk0⟩ : ∃ k0, k0 = size D := ⟨_, rfl⟩
  have HOW := hide hown; have HC := hide hc; have HM := hide hm; have HK := hide hk; have HN := hide hN
  have hkN : k0 ≤ 4194304 := by omega
  have hne0 : Mb < w.heap.size := hm.lt
  have HMB := hide hne0
  clear hf hD hc hsz hm hk hne0
  go_enter Try.func19, Try.ntmps19
  go_wp2_with (first
    | (have hguard := hk0; clear hguard; at_len; refine wpList_len_own _ rfl _ 58 rfl 84 46 Try.underlying58 _ Mb N D rfl HOW.out ?_; rw [← hk0]; clear hk0 hown)
    | (at_make; refine wpList_make_own _ rfl _ _ 22 rfl w.heap.size 48 i0 (.agg #[.int .i64 0, .int .i64 0, .int .u64 0]) 3 Try.underlying22 hi hz0 hz1 _ _ _ k0 rfl rfl rfl (by rw [hz2]; omega) (by unfold maxLen; omega) (Nat.le_refl _) ?_; intro w1 hro1 hgr1; have HR1 := hide hro1; have HB1 : Hid (Below w.heap.size w w1) := (Below.refl _ _).grown hgr1 (Nat.le_refl _) (by intro j hj; cases hj); clear hro1 hgr1)
    | (go_at_call 40; refine (sortedKeys_any w1 Mb N c f (HM.out.stay (HB1.out.block _ HMB.out)) HC.out HN.out).mono ?_; rintro e w2 ⟨v2, l2, rfl, hpo2, hbe2, hnd2, hin2, hal2⟩; have HP2 := hide hpo2; have HB2 := hide hbe2; have HKS := hide (keys_kE hnd2 hin2 hal2); clear hpo2 hbe2 hnd2 hin2 hal2; obtain ⟨vo2, vc2, rfl⟩ : ∃ vo vc, v2 = .slice vo (psrt l2).length vc := by (obtain ⟨_, ⟨rfl, h0⟩ | ⟨g, cap, cur, rfl, _⟩⟩ := HP2.out; exact ⟨_, _, by rw [h0]⟩; exact ⟨_, _, rfl⟩))
    | fail)
  obtain ⟨ks, hks⟩ : ∃ ks, ks = psrt l2 := ⟨_, rfl⟩
  rw [← hks] at HP2 HKS ⊢
  obtain ⟨kk, hkk⟩ : ∃ kk, kk = ks.length := ⟨_, rfl⟩
  rw [← hkk] at HP2 ⊢
  have HKK := hide hkk
  have HKE : Hid (kk = (kE f c c).length) := by show _ = _; rw [hkk, HKS.out]; simp
  have HB12 := hide (HB1.out.trans (HB2.out.mono HB1.out.size))
  have HI0 : Hid (IO w w2 (.slice vo2 kk vc2) (.slice (some ⟨w.heap.size, 0, none⟩) 0 k0) ks ((kE f c c).take 0)) := ⟨HB12.out, own_base HP2.out HB1.out.size, by
    rw [List.take_zero]
    exact own_chg (S := fun _ => False) HR1.out (Chg.of_below HB2.out) (fun _ _ h => h)⟩
  clear hks hkk HR1 HB1 HB2 HP2 HB12
  go_loopw [3, 12] (fun ev t wr => ∃ i : Nat, t = .int .i64 (i : Int) ∧ i ≤ kk ∧ IO w wr (.slice vo2 kk vc2) ev ks ((kE f c c).take i)) (fun _ t _ => kk - (RowKit.intOf t).toNat)
  case atStart => exact ⟨0, rfl, Nat.zero_le _, HI0.out⟩
  case round =>
    obtain ⟨i, rfl, hik, hio⟩ := hrel
    have HIO := hide hio
    clear hio HI0
    by_cases hlt : i < kk
    · obtain ⟨g2, c2, hv2, hc2, d0, d1⟩ := pown_at HIO.out.ks (k := i) (by rw [← HKK.out]; exact hlt)
      rw [← HKK.out] at hv2 hc2
      simp only [Value.slice.injEq, true_and] at hv2
      obtain ⟨rfl, rfl⟩ := hv2
      have hie : i < (kE f c c).length := by rw [← HKE.out]; exact hlt
      obtain ⟨p, hp, q, hq, x, hx, hE⟩ := mem_kE.1 (List.getElem_mem hie)
      have hpq : pqAt ks i = ((p : Int), (q : Int)) := by
        unfold pqAt
        rw [HKS.out, List.getElem?_map, List.getElem?_eq_getElem hie, hE]
        rfl
      rw [hpq] at d0 d1
      have HTK : Hid ((kE f c c).take (i + 1) = (kE f c c).take i ++ [((p : Int), (q : Int), x)]) := by show _ = _; rw [← hE, List.take_append_getElem hie]
      have hlen : ((kE f c c).take i).length = i := by rw [List.length_take]; omega
      have HOE : Hid (wr.ownsRow w.heap.size 48 3 u3 i (eCells ((kE f c c).take i))) := by have := HIO.out.ed; rw [hlen] at this; exact this
      have HLN := hide hlen
      obtain ⟨B, hB⟩ : ∃ B, B = wr.heap.size := ⟨_, rfl⟩
      obtain ⟨X, hX⟩ : ∃ X, X = wr.alloc (.cells #[.int .i64 (p : Int), .int .i64 (q : Int)] 84) := ⟨_, rfl⟩
      have hbX : Below wr.heap.size wr X := by rw [hX]; exact below_alloc (Below.refl _ _) _
      have hqX : X.heap[wr.heap.size]? = some (.cells #[.int .i64 (p : Int), .int .i64 (q : Int)] 84 (0, 0)) := by rw [hX]; exact heap_new _ _
      have HIX := hide (HIO.out.on hbX)
      have HMX : Hid (∀ W, Below w.heap.size w W → (Instr.lookup 58 (.map (some Mb)) (.agg #[.int .i64 (p : Int), .int .i64 (q : Int)]) false).run Try.prog W = .ok (.int .u64 x) W) := fun W hW => (HM.out.stay (hW.block _ HMB.out)).get hp hq HC.out hx
      have hki : (i : Int) < (kk : Int) := by omega
      have hik2 : i ≤ 4194304 := by have := HK.out; have := HKE.out; omega
      clear hp hq hx hE hpq hie hlen HIO
      obtain ⟨eo, ec, rfl⟩ : ∃ eo ec, u3 = .slice eo i ec := by
        obtain ⟨_, ⟨rfl, h0⟩ | ⟨g, cap, cur, rfl, _⟩⟩ := HOE.out
        · exact ⟨_, _, by rw [h0]⟩
        · exact ⟨_, _, rfl⟩
      go_upto_region 5 with fail
      rw [← hX, ← hB]
      rw [← hB] at hqX
      have q0 := cell_of hqX (i := 0) rfl
      have q1 := cell_of hqX (i := 1) rfl
      have HBX : Hid (Below X.heap.size X X) := Below.refl _ _
      have HLB := hide (lt_of_heap hqX)
      have HQX := hide hqX
      have HS : Hid (∀ W, Below X.heap.size X W → W.cell? ⟨B, 0, none⟩ = some (.int .i64 (p : Int)) ∧ W.cell? ⟨B, 1, none⟩ = some (.int .i64 (q : Int)) ∧ (Instr.lookup 58 (.map (some Mb)) (.agg #[.int .i64 (p : Int), .int .i64 (q : Int)]) false).run Try.prog W = .ok (.int .u64 x) W) := fun W hW => ⟨(below_cell hW HLB.out).trans q0, (below_cell hW HLB.out).trans q1, HMX.out W (below_on HIX.out.bel hW)⟩
      have hS0 := HS.out X (Below.refl _ _)
      have HOX : Hid (X.ownsRow w.heap.size 48 3 (.slice eo i ec) i (eCells ((kE f c c).take i))) := by have := HIX.out.ed; rw [HLN.out] at this; exact this
      have HXZ := hide HIX.out.bel.size
      have HIK := hide hik2
      clear hX hB hbX hqX q0 q1 d0 d1 HOE hik2
      refine wp_region_noPanic ?_
      go_region_held3 (fun W => W.cell? ⟨B, 0, none⟩ = some (.int .i64 (p : Int)) ∧ W.cell? ⟨B, 1, none⟩ = some (.int .i64 (q : Int)) ∧ (Instr.lookup 58 (.map (some Mb)) (.agg #[.int .i64 (p : Int), .int .i64 (q : Int)]) false).run Try.prog W = .ok (.int .u64 x) W) (first | exact hS0 | exact hSn | exact HS.out _ (below_alloc (Below.refl _ _) _) | exact HS.out _ (below_alloc (Below.refl _ _) _).drew | exact HS.out _ (Below.refl _ _).drew | go_keep) (first
        | (refine step_append_lies _ (by rfl) _ _ _ (by rfl) w.heap.size 48 i0 (.agg #[.int .i64 0, .int .i64 0, .int .u64 0]) 3 24 Try.underlying22 hi hz0 hz1 hz2 rfl (by omega) (.slice eo i ec) i (eCells ((kE f c c).take i)) (by rfl) ((HOX.out.alloc _).drew) ⟨X.heap.size, 0, none⟩ 1 1 [.int .i64 (p : Int), .int .i64 (q : Int), .int .u64 x] (by rfl) (by rfl) (three_at' X _ _ _ _) (by simp [Value.oneCell']) (by omega) (by unfold maxLen; have := HIK.out; omega) (by have := HIK.out; omega) (by have := HXZ.out; simp; omega) (X.heap.size + 1) (by simp) ?_; intro g8 cap8 w8 hown hgrow hat hlt2; have HI8 := hide (IO.more (x := ((p : Int), (q : Int), x)) (HIX.out.on (below_alloc (Below.refl _ _) (.cells #[.int .i64 (p : Int), .int .i64 (q : Int), .int .u64 x] 48)).drew) (by rw [HLN.out]; exact hown) hgrow); have hb8 : w8.heap[B]? = some (.cells #[.int .i64 (p : Int), .int .i64 (q : Int)] 84 (0, 0)) := (hgrow.block B (by have := HLB.out; simp; omega) (own_block_ne HOX.out HQX.out (by decide))).trans ((Below.heap_alloc _ _ _ HLB.out).trans HQX.out); have hSn := And.intro (cell_of hb8 (i := 0) rfl) (And.intro (cell_of hb8 (i := 1) rfl) (HMX.out w8 HI8.out.bel)); clear hown hgrow hat hlt2 hb8)
        | fail)
      all_goals (
        refine NoPanic.normal ?_
        have hik2 := HIK.out
        go_wp2_with fail
        refine ⟨⟨i + 1, by simp, by omega, ?_⟩, by simp [RowKit.intOf]; omega⟩
        rw [HTK.out]
        have := HI8.out
        rw [List.length_append, List.length_singleton, HLN.out] at this
        exact this)
    · obtain rfl : kk = i := by omega
      have hlen : (kE f c c).take kk = kE f c c := by rw [HKE.out, List.take_length]
      have HEN : Hid (wr.ownsRow w.heap.size 48 3 u3 (kE f c c).length (eCells (kE f c c))) := by have := HIO.out.ed; rw [hlen] at this; exact this
      clear hlen
      obtain ⟨eo, el, ec, rfl⟩ : ∃ eo el ec, u3 = .slice eo el ec := by
        obtain ⟨_, ⟨rfl, h0⟩ | ⟨g, cap, cur, rfl, _⟩⟩ := HEN.out
        · exact ⟨_, _, _, rfl⟩
        · exact ⟨_, _, _, rfl⟩
      go_wp2_with fail
      go_ret
      exact ⟨_, rfl, HEN.out, HIO.out.bel⟩
end Go.Proofs.Ytiohimbifjlfdaa
