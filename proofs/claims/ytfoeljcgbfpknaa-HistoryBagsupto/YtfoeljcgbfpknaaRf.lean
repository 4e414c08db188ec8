/- The document's Spans. -/
import Derived.Test.YtfoeljcgbfpknaaMk
import Derived.Deep.DeepAppendWide
namespace Go.Proofs.Ytfoeljcgbfpknaa
open Go.RowKit Go.Lib
set_option linter.unusedVariables false
set_option linter.unusedSimpArgs false
theorem Try.info69 : (Try.prog.info? 69).map (fun i => (i.zero, i.size, i.bytes)) = some (some (.agg #[.int .i64 0, .bool false, .int .u64 0, .int .u64 0, .int .i64 0, .int .i64 0, .int .i64 0]), 7, 56) := by kernel_rfl
/-- What Spans answers. -/
def SpP (evs : List Ev) (w : World) (e : Ending) (w' : World) : Prop :=
  ∃ v, e = .returned (.tuple #[v, .int .i64 (aEr evs), .int .i64 (aIx evs)]) ∧ SOwn w' w.heap.size v (aSp evs) ∧ Below w.heap.size w w'
theorem SpP.bad {evs : List Ev} {w w' : World} {i : Nat} (h : badAt evs = some i) (hb : Below w.heap.size w w') : SpP evs w (.returned (.tuple #[.slice none 0 0, .int .i64 70, .int .i64 (i : Int)])) w' := by
  obtain ⟨h1, h2, h3⟩ := ans_bad h
  refine ⟨_, by rw [h2, h3], ?_, hb⟩
  rw [h1]; exact ROwn.nil _ _
theorem rn_bad {evs : List Ev} {i : Nat} {l : List Sp} {last : Int} (hi : i < evs.length) (h : rn evs i = some (l, last)) (hs : stp l last i (evAt evs i) = none) : badAt evs = some i :=
  bad_some hi (by rw [h]; rfl) (by rw [rn_next h, hs]; rfl)
theorem rn_good {evs : List Ev} {i : Nat} {l l' : List Sp} {last : Int} (h : rn evs i = some (l, last)) (hs : stp l last i (evAt evs i) = some l') : rn evs (i + 1) = some (l', (evAt evs i).tm) := by
  rw [rn_next h, hs]; rfl
theorem SOwn.more {w' : World} {fr : Nat} {v' : Value} {l : List Sp} {s : Sp} (hown : w'.ownsRow fr 69 7 v' (l.length + 1) (rCells Sp.arr l ++ s.arr.toList)) : SOwn w' fr v' (l ++ [s]) := ROwn.grown (w := w') (v := v') rfl hown
theorem own_ge {w X Y w' : World} {fr : Nat} {v : Value} {l : List Sp} (h : SOwn X fr v l) (hfr : fr = w.heap.size) (hb : Below w.heap.size w X) (hY : Below X.heap.size X Y) (hg : Y.grownBy w' v.ownBlock) : Below w.heap.size w w' := by
  have h1 : Below w.heap.size w Y := below_on hb hY
  exact h1.grown hg h1.size fun k hk => by have := (h.lt k hk).1; omega
theorem mdec {i n : Nat} (h : i < n) : n - (RowKit.intOf (Value.int .i64 ((i : Int) + 1))).toNat < n - (RowKit.intOf (Value.int .i64 (i : Int))).toNat := by
  simp [RowKit.intOf]; omega
/-- A box of an event that a round has made, and the row of spans. -/
structure BxP (w wr W : World) (tm who kind key load : Int) (v : Value) (l : List Sp) : Prop where
  bx : W.heap[wr.heap.size]? = some (.cells #[.int .i64 tm, .int .i64 who, .int .i64 kind, .int .u64 key, .int .u64 load] 87 (0, 0))
  own : SOwn W w.heap.size v l
  bel : Below w.heap.size w W
  at' : ∀ g, v.ownBlock = some g → g < wr.heap.size
theorem bxp {w wr W : World} {tm who kind key load : Int} {v : Value} {l : List Sp} (h : SOwn wr w.heap.size v l) (hb : Below w.heap.size w wr) (hW : Below (wr.alloc (.cells #[.int .i64 tm, .int .i64 who, .int .i64 kind, .int .u64 key, .int .u64 load] 87)).heap.size (wr.alloc (.cells #[.int .i64 tm, .int .i64 who, .int .i64 kind, .int .u64 key, .int .u64 load] 87)) W) : BxP w wr W tm who kind key load v l := by
  have h1 : Below wr.heap.size wr W := below_on (below_alloc (Below.refl _ _) _) hW
  exact ⟨(hW.block _ (by simp)).trans (heap_new _ _), h.below h1, below_on hb h1, fun g e => (h.lt g e).2⟩
section
variable {w wr W W' : World} {tm who kind key load : Int} {v : Value} {l : List Sp}
theorem BxP.box (h : BxP w wr W tm who kind key load v l) : W.cell? ⟨wr.heap.size, 0, none⟩ = some (.int .i64 tm) ∧ W.cell? ⟨wr.heap.size, 1, none⟩ = some (.int .i64 who) ∧ W.cell? ⟨wr.heap.size, 2, none⟩ = some (.int .i64 kind) ∧ W.cell? ⟨wr.heap.size, 3, none⟩ = some (.int .u64 key) ∧ W.cell? ⟨wr.heap.size, 4, none⟩ = some (.int .u64 load) :=
  ⟨cell_of h.bx rfl, cell_of h.bx rfl, cell_of h.bx rfl, cell_of h.bx rfl, cell_of h.bx rfl⟩
theorem BxP.row (h : BxP w wr W tm who kind key load v l) : RAt Sp.arr 7 W v l := h.own.rat Sp.size
theorem BxP.on (h : BxP w wr W tm who kind key load v l) (hb : Below W.heap.size W W') : BxP w wr W' tm who kind key load v l :=
  ⟨(hb.block _ (lt_of_heap h.bx)).trans h.bx, h.own.below hb, below_on h.bel hb, h.at'⟩
theorem BxP.far {g n c : Nat} (h : BxP w wr W tm who kind key load (.slice (some ⟨g, 0, none⟩) n c) l) : ¬ g = wr.heap.size := by have := h.at' g rfl; omega
end
/-- The cells of one span. -/
structure SpC (W : World) (g k : Nat) (sw : Int) (si : Bool) (sk sl sb se sn : Int) : Prop where
  cs : W.cell? ⟨g, k * 7, none⟩ = some (.int .i64 sw) ∧ W.cell? ⟨g, k * 7 + 1, none⟩ = some (.bool si) ∧ W.cell? ⟨g, k * 7 + 2, none⟩ = some (.int .u64 sk) ∧ W.cell? ⟨g, k * 7 + 3, none⟩ = some (.int .u64 sl) ∧ W.cell? ⟨g, k * 7 + 4, none⟩ = some (.int .i64 sb) ∧ W.cell? ⟨g, k * 7 + 5, none⟩ = some (.int .i64 se) ∧ W.cell? ⟨g, k * 7 + 6, none⟩ = some (.int .i64 sn)
  fr : W.frozen? ⟨g, k * 7, none⟩ = false ∧ W.frozen? ⟨g, k * 7 + 1, none⟩ = false ∧ W.frozen? ⟨g, k * 7 + 2, none⟩ = false ∧ W.frozen? ⟨g, k * 7 + 3, none⟩ = false ∧ W.frozen? ⟨g, k * 7 + 4, none⟩ = false ∧ W.frozen? ⟨g, k * 7 + 5, none⟩ = false ∧ W.frozen? ⟨g, k * 7 + 6, none⟩ = false
theorem spc {W : World} {f g n c k : Nat} {l : List Sp} {sw : Int} {si : Bool} {sk sl sb se sn : Int} (h : SOwn W f (.slice (some ⟨g, 0, none⟩) n c) l) (hk : l[k]? = some ⟨sw, si, sk, sl, sb, se, sn⟩) : SpC W g k sw si sk sl sb se sn := by
  have hc := h.cell Sp.size hk
  exact ⟨⟨hc 0 _ rfl, hc 1 _ rfl, hc 2 _ rfl, hc 3 _ rfl, hc 4 _ rfl, hc 5 _ rfl, hc 6 _ rfl⟩, h.free _, h.free _, h.free _, h.free _, h.free _, h.free _, h.free _⟩
theorem shut_own {W : World} {f g n c k : Nat} {l : List Sp} {s : Sp} (h : SOwn W f (.slice (some ⟨g, 0, none⟩) n c) l) (hk : l[k]? = some s) (i : Nat) (e : Ev) (he : e.kind ≠ 4) :
    SOwn ((W.setCell ⟨g, k * 7 + 5, none⟩ (.int .i64 (i : Int))).setCell ⟨g, k * 7 + 6, none⟩ (.int .i64 e.kind)) f (.slice (some ⟨g, 0, none⟩) n c) (l.set k (shut i e s)) := by
  have h2 := h.end2 hk (i : Int) e.kind
  unfold shut
  rw [if_neg he, if_neg he]
  exact h2
theorem shut_own4 {W : World} {f g n c k : Nat} {l : List Sp} {s : Sp} (h : SOwn W f (.slice (some ⟨g, 0, none⟩) n c) l) (hk : l[k]? = some s) (i : Nat) (e : Ev) (he : e.kind = 4) :
    SOwn ((((W.setCell ⟨g, k * 7 + 5, none⟩ (.int .i64 (i : Int))).setCell ⟨g, k * 7 + 6, none⟩ (.int .i64 e.kind)).setCell ⟨g, k * 7 + 2, none⟩ (.int .u64 e.key)).setCell ⟨g, k * 7 + 2 + 1, none⟩ (.int .u64 e.load)) f (.slice (some ⟨g, 0, none⟩) n c) (l.set k (shut i e s)) := by
  have h2 := (h.end2 hk (i : Int) e.kind).end4 (getq_set hk) e.key e.load
  rw [List.set_set] at h2
  unfold shut
  rw [if_pos he, if_pos he]
  exact h2
theorem shut_bel {w W : World} {g : Nat} (hb : Below w.heap.size w W) (hg : w.heap.size ≤ g) (a b : Nat) (u v : Value) : Below w.heap.size w ((W.setCell ⟨g, a, none⟩ u).setCell ⟨g, b, none⟩ v) :=
  (hb.setCell hg _).setCell hg _
set_option maxRecDepth 100000 in
set_option maxHeartbeats 8000000 in
theorem refSpans_any (v : Value) (evs : List Ev) (w : World) (h : EAt w v evs) (hlen : evs.length ≤ 3518437208880) : Calls Try.prog 26 #[v] w (SpP evs w) := by
  obtain ⟨i0, hi0, hz0, hz1, hz2⟩ := info_parts Try.info69
  obtain ⟨ao, cap, rfl, hcap, h63⟩ := h.shape
  have H := hide h
  have HQ : Hid (∀ l last i, i < evs.length → rn evs i = some (l, last) → stp l last i (evAt evs i) = none → badAt evs = some i) := fun l last i a b c => rn_bad a b c
  obtain ⟨n, hn⟩ : ∃ n, n = evs.length := ⟨_, rfl⟩
  have HN := hide hn
  rw [← hn] at hcap H HQ hlen ⊢
  clear h hn
  have HPL := hide plain_any
  have HOP := hide open_any
  unfold Ev.arr at HPL
  go_enter Try.func26, Try.ntmps26
  go_wp2
  go_loopw [5, 6, 7] (fun v t1 t2 wr => ∃ (i : Nat) (l : List Sp) (last : Int), i ≤ n ∧ t2 = .int .i64 (i : Int) ∧ t1 = .int .i64 last ∧ rn evs i = some (l, last) ∧ SOwn wr w.heap.size v l ∧ Below w.heap.size w wr) (fun _ _ t _ => n - (RowKit.intOf t).toNat)
  case atStart => exact ⟨0, [], 0, by omega, rfl, rfl, rfl, ROwn.nil _ _, Below.refl _ _⟩
  case round =>
    obtain ⟨i, l, last, hin, rfl, rfl, hrn, hso, hbel⟩ := hrel
    have HR := hide hrn
    have HS := hide hso
    have HB := hide hbel
    obtain ⟨la, lc, rfl, hlc, hl63⟩ := (hso.rat Sp.size).shape
    have hll := rn_len evs hrn
    clear hrn hso hbel
    by_cases hlt : i < n
    · obtain ⟨g, o, rfl, hg, p⟩ := (H.out.below HB.out).at i (by have := HN.out; omega)
      have HE : Hid (evAt evs i = evs[i]'(by have := HN.out; omega)) := hide (by have := HN.out; simp [evAt, show i < evs.length by omega])
      rw [← HE.out] at p
      have HV : Hid (∃ e, e = evAt evs i) := ⟨_, rfl⟩
      obtain ⟨e, he⟩ := HV.out
      have HEV := hide he
      rw [← he] at p
      have HQi := hide (HQ.out l last i hlt HR.out)
      rw [← he] at HQi
      have HG : Hid (∀ l', stp l last i e = some l' → rn evs (i + 1) = some (l', e.tm)) := hide (by rw [he]; intro l'; exact rn_good HR.out)
      clear he HV HE HQ
      obtain ⟨tm, who, kind, key, load⟩ := e
      have p0 : wr.cell? ⟨g, o + i * 5, none⟩ = some (.int .i64 tm) := p 0 _ rfl
      have p1 : wr.cell? ⟨g, o + i * 5 + 1, none⟩ = some (.int .i64 who) := p 1 _ rfl
      have p2 : wr.cell? ⟨g, o + i * 5 + 2, none⟩ = some (.int .i64 kind) := p 2 _ rfl
      have p3 : wr.cell? ⟨g, o + i * 5 + 3, none⟩ = some (.int .u64 key) := p 3 _ rfl
      have p4 : wr.cell? ⟨g, o + i * 5 + 4, none⟩ = some (.int .u64 load) := p 4 _ rfl
      clear p
      have HK : Hid (∀ W, Below (wr.alloc (.cells #[.int .i64 tm, .int .i64 who, .int .i64 kind, .int .u64 key, .int .u64 load] 87)).heap.size (wr.alloc (.cells #[.int .i64 tm, .int .i64 who, .int .i64 kind, .int .u64 key, .int .u64 load] 87)) W → BxP w wr W tm who kind key load (.slice la l.length lc) l) := fun W hW => bxp HS.out HB.out hW
      by_cases hok : okE ⟨tm, who, kind, key, load⟩ last = true
      · have HP := hide (fun W => HPL.out ⟨tm, who, kind, key, load⟩ last W)
        rw [hok] at HP
        have hkr : 1 ≤ kind ∧ kind ≤ 6 := by unfold okE at hok; have := of_decide_eq_true hok; simp only at this; exact ⟨this.2.1, this.2.2.1⟩
        have HST : Hid (stp l last i ⟨tm, who, kind, key, load⟩ = match opn l who with | none => if begs kind = true then some (l ++ [born i ⟨tm, who, kind, key, load⟩]) else none | some k => if ends (spAt l k).ins kind = true then some (l.set k (shut i ⟨tm, who, kind, key, load⟩ (spAt l k))) else none) := hide (by unfold stp; rw [if_pos hok]; rfl)
        clear hok
        have HO := hide (fun W h => HOP.out (.slice la l.length lc) l who W h)
        rcases hop : opn l who with _ | k
        · rw [hop] at HO HST
          clear hop
          simp only [opI] at HO HST
          by_cases hbg : kind = 1 ∨ kind = 3
          · have HG2 := hide (HG.out _ (by rw [HST.out]; exact if_pos (by unfold begs; exact decide_eq_true hbg)))
            clear HST HQi HG
            have hsz : ((l.length + 1) + (l.length + 1) / 4 + 192) * 56 ≤ 281474976710656 := by omega
            rcases hbg with rfl | rfl
            · go_wp2_with (first
                | (go_at_call 50; refine (HP.out _).mono ?_; rintro e w2 ⟨rfl, hb2⟩; have HX := hide (HK.out _ hb2); obtain ⟨q0, q1, q2, q3, q4⟩ := HX.out.box; clear hb2 p0 p1 p2 p3 p4)
                | (go_at_call 51; refine (HO.out _ HX.out.row).mono ?_; rintro e w3 ⟨rfl, hb3⟩; have HY := hide (HX.out.on hb3); clear q0 q1 q2 q3 q4; obtain ⟨q0, q1, q2, q3, q4⟩ := HY.out.box; clear hb3 HX)
                | (at_builtin; refine wpList_append_own_wide _ rfl (.tmp 42) (.tmp 52) 22 rfl w.heap.size 69 i0 _ 7 56 Try.underlying22 hi0 hz0 hz1 hz2 rfl (by decide) _ _ _ rfl (World.ownsRow.alloc HY.out.own _) ⟨w3.heap.size, 0, none⟩ 1 1 (born i ⟨tm, who, 1, key, load⟩).arr.toList rfl rfl (arr_at w3 _ _) (by simp [Value.oneCell', born, Sp.arr]) (by unfold maxLen; omega) hsz (by have := HY.out.bel.size; simp; omega) ?_; intro v5 w5 hown5 hgrow5 hq5; have HW := hide (SOwn.more hown5); have HBW := hide (own_ge HY.out.own rfl HY.out.bel (below_alloc (Below.refl _ _) _) hgrow5); clear hown5 hgrow5 hq5 q0 q1 q2 q3 q4)
                | fail)
              go_roundw
              case rel => exact ⟨i + 1, _, tm, hlt, by simp, rfl, HG2.out, HW.out, HBW.out⟩
              case measure => exact mdec hlt
            · go_wp2_with (first
                | (go_at_call 50; refine (HP.out _).mono ?_; rintro e w2 ⟨rfl, hb2⟩; have HX := hide (HK.out _ hb2); obtain ⟨q0, q1, q2, q3, q4⟩ := HX.out.box; clear hb2 p0 p1 p2 p3 p4)
                | (go_at_call 51; refine (HO.out _ HX.out.row).mono ?_; rintro e w3 ⟨rfl, hb3⟩; have HY := hide (HX.out.on hb3); clear q0 q1 q2 q3 q4; obtain ⟨q0, q1, q2, q3, q4⟩ := HY.out.box; clear hb3 HX)
                | (at_builtin; refine wpList_append_own_wide _ rfl (.tmp 42) (.tmp 52) 22 rfl w.heap.size 69 i0 _ 7 56 Try.underlying22 hi0 hz0 hz1 hz2 rfl (by decide) _ _ _ rfl (World.ownsRow.alloc HY.out.own _) ⟨w3.heap.size, 0, none⟩ 1 1 (born i ⟨tm, who, 3, key, load⟩).arr.toList rfl rfl (arr_at w3 _ _) (by simp [Value.oneCell', born, Sp.arr]) (by unfold maxLen; omega) hsz (by have := HY.out.bel.size; simp; omega) ?_; intro v5 w5 hown5 hgrow5 hq5; have HW := hide (SOwn.more hown5); have HBW := hide (own_ge HY.out.own rfl HY.out.bel (below_alloc (Below.refl _ _) _) hgrow5); clear hown5 hgrow5 hq5 q0 q1 q2 q3 q4)
                | fail)
              go_roundw
              case rel => exact ⟨i + 1, _, tm, hlt, by simp, rfl, HG2.out, HW.out, HBW.out⟩
              case measure => exact mdec hlt
          · have HB2 := hide (HQi.out (by rw [HST.out]; exact if_neg (by unfold begs; simp [hbg])))
            clear HST HQi HG
            have hk1 : ¬ kind = 1 := fun e => hbg (.inl e)
            have hk3 : ¬ kind = 3 := fun e => hbg (.inr e)
            have hk1b : (kind == 1) = false := by simp [hk1]
            have hk3b : (kind == 3) = false := by simp [hk3]
            clear hbg
            go_wp2_with (first
              | (go_at_call 50; refine (HP.out _).mono ?_; rintro e w2 ⟨rfl, hb2⟩; have HX := hide (HK.out _ hb2); obtain ⟨q0, q1, q2, q3, q4⟩ := HX.out.box; clear hb2 p0 p1 p2 p3 p4)
              | (go_at_call 51; refine (HO.out _ HX.out.row).mono ?_; rintro e w3 ⟨rfl, hb3⟩; have HY := hide (HX.out.on hb3); clear q0 q1 q2 q3 q4; obtain ⟨q0, q1, q2, q3, q4⟩ := HY.out.box; clear hb3 HX)
              | fail)
            go_ret3
            exact SpP.bad HB2.out HY.out.bel
        · obtain ⟨hkl, hkw, hke, _⟩ := opn_some hop
          rw [hop] at HO HST
          clear hop hkw hke
          simp only [opI] at HO HST
          obtain ⟨gl, lc', hlv, _, _, hfg, _⟩ := HS.out.spot (by omega)
          simp only [Value.slice.injEq, true_and] at hlv
          obtain ⟨rfl, rfl⟩ := hlv
          have hkl2 : (k : Int) < (l.length : Int) := by omega
          have hk0 : (0 : Int) ≤ (k : Int) := by omega
          have hk0' : ¬ (k : Int) < 0 := by omega
          by_cases hbg : kind = 1 ∨ kind = 3
          · have HB2 := hide (HQi.out (by rw [HST.out]; exact if_neg (by unfold ends; rcases hbg with rfl | rfl <;> simp)))
            clear HST HQi HG
            rcases hbg with rfl | rfl
            · go_wp2_with (first
                | (go_at_call 50; refine (HP.out _).mono ?_; rintro e w2 ⟨rfl, hb2⟩; have HX := hide (HK.out _ hb2); obtain ⟨q0, q1, q2, q3, q4⟩ := HX.out.box; clear hb2 p0 p1 p2 p3 p4)
                | (go_at_call 51; refine (HO.out _ HX.out.row).mono ?_; rintro e w3 ⟨rfl, hb3⟩; have HY := hide (HX.out.on hb3); clear q0 q1 q2 q3 q4; obtain ⟨q0, q1, q2, q3, q4⟩ := HY.out.box; clear hb3 HX)
                | fail)
              go_ret3
              exact SpP.bad HB2.out HY.out.bel
            · go_wp2_with (first
                | (go_at_call 50; refine (HP.out _).mono ?_; rintro e w2 ⟨rfl, hb2⟩; have HX := hide (HK.out _ hb2); obtain ⟨q0, q1, q2, q3, q4⟩ := HX.out.box; clear hb2 p0 p1 p2 p3 p4)
                | (go_at_call 51; refine (HO.out _ HX.out.row).mono ?_; rintro e w3 ⟨rfl, hb3⟩; have HY := hide (HX.out.on hb3); clear q0 q1 q2 q3 q4; obtain ⟨q0, q1, q2, q3, q4⟩ := HY.out.box; clear hb3 HX)
                | fail)
              go_ret3
              exact SpP.bad HB2.out HY.out.bel
          · obtain ⟨s, hs⟩ : ∃ s, s = spAt l k := ⟨_, rfl⟩
            have HSK := hide (spAt_get hkl)
            rw [← hs] at HST HSK
            clear hs
            obtain ⟨sw, si, sk, sl, sb, se, sn⟩ := s
            have hk4 : kind = 2 ∨ kind = 4 ∨ kind = 5 ∨ kind = 6 := by omega
            clear hkr hbg
            have HRC : Hid (∀ W, SOwn W w.heap.size (.slice (some ⟨gl, 0, none⟩) l.length lc) l → SpC W gl k sw si sk sl sb se sn) := fun W hW => spc hW HSK.out
            rcases hk4 with rfl | rfl | rfl | rfl <;> cases si
            · -- kind 2, insert false
              have HB2 := hide (HQi.out (by rw [HST.out]; exact if_neg (by show ¬ ends false 2 = true; decide)))
              clear HST HQi HG
              go_wp2_with (first
                | (go_at_call 50; refine (HP.out _).mono ?_; rintro e w2 ⟨rfl, hb2⟩; have HX := hide (HK.out _ hb2); obtain ⟨q0, q1, q2, q3, q4⟩ := HX.out.box; clear hb2 p0 p1 p2 p3 p4)
                | (go_at_call 51; refine (HO.out _ HX.out.row).mono ?_; rintro e w3 ⟨rfl, hb3⟩; have HY := hide (HX.out.on hb3); clear q0 q1 q2 q3 q4; obtain ⟨q0, q1, q2, q3, q4⟩ := HY.out.box; obtain ⟨r0, r1, r2, r3, r4, r5, r6⟩ := (HRC.out _ HY.out.own).cs; clear hb3 HX)
                | fail)
              go_ret3
              exact SpP.bad HB2.out HY.out.bel
            · -- kind 2, insert true
              have HG2 := hide (HG.out _ (by rw [HST.out]; exact if_pos (by show ends true 2 = true; decide)))
              clear HST HQi HG
              go_wp2_with (first
                | (go_at_call 50; refine (HP.out _).mono ?_; rintro e w2 ⟨rfl, hb2⟩; have HX := hide (HK.out _ hb2); obtain ⟨q0, q1, q2, q3, q4⟩ := HX.out.box; clear hb2 p0 p1 p2 p3 p4)
                | (go_at_call 51; refine (HO.out _ HX.out.row).mono ?_; rintro e w3 ⟨rfl, hb3⟩; have HY := hide (HX.out.on hb3); clear q0 q1 q2 q3 q4; obtain ⟨q0, q1, q2, q3, q4⟩ := HY.out.box; have HZ := hide (HRC.out _ HY.out.own); obtain ⟨r0, r1, r2, r3, r4, r5, r6⟩ := HZ.out.cs; obtain ⟨f0, f1, f2, f3, f4, f5, f6⟩ := HZ.out.fr; have hne : ¬ gl = wr.heap.size := HY.out.far; clear hb3 HX)
                | fail)
              go_roundw
              case rel => exact ⟨i + 1, _, tm, hlt, by simp, rfl, HG2.out, shut_own HY.out.own HSK.out i ⟨tm, who, 2, key, load⟩ (by show (2 : Int) ≠ 4; decide), shut_bel HY.out.bel hfg _ _ _ _⟩
              case measure => exact mdec hlt
            · -- kind 4, insert false
              have HG2 := hide (HG.out _ (by rw [HST.out]; exact if_pos (by show ends false 4 = true; decide)))
              clear HST HQi HG
              go_wp2_with (first
                | (go_at_call 50; refine (HP.out _).mono ?_; rintro e w2 ⟨rfl, hb2⟩; have HX := hide (HK.out _ hb2); obtain ⟨q0, q1, q2, q3, q4⟩ := HX.out.box; clear hb2 p0 p1 p2 p3 p4)
                | (go_at_call 51; refine (HO.out _ HX.out.row).mono ?_; rintro e w3 ⟨rfl, hb3⟩; have HY := hide (HX.out.on hb3); clear q0 q1 q2 q3 q4; obtain ⟨q0, q1, q2, q3, q4⟩ := HY.out.box; have HZ := hide (HRC.out _ HY.out.own); obtain ⟨r0, r1, r2, r3, r4, r5, r6⟩ := HZ.out.cs; obtain ⟨f0, f1, f2, f3, f4, f5, f6⟩ := HZ.out.fr; have hne : ¬ gl = wr.heap.size := HY.out.far; clear hb3 HX)
                | fail)
              go_roundw
              case rel => exact ⟨i + 1, _, tm, hlt, by simp, rfl, HG2.out, shut_own4 HY.out.own HSK.out i ⟨tm, who, 4, key, load⟩ rfl, shut_bel (shut_bel HY.out.bel hfg _ _ _ _) hfg _ _ _ _⟩
              case measure => exact mdec hlt
            · -- kind 4, insert true
              have HB2 := hide (HQi.out (by rw [HST.out]; exact if_neg (by show ¬ ends true 4 = true; decide)))
              clear HST HQi HG
              go_wp2_with (first
                | (go_at_call 50; refine (HP.out _).mono ?_; rintro e w2 ⟨rfl, hb2⟩; have HX := hide (HK.out _ hb2); obtain ⟨q0, q1, q2, q3, q4⟩ := HX.out.box; clear hb2 p0 p1 p2 p3 p4)
                | (go_at_call 51; refine (HO.out _ HX.out.row).mono ?_; rintro e w3 ⟨rfl, hb3⟩; have HY := hide (HX.out.on hb3); clear q0 q1 q2 q3 q4; obtain ⟨q0, q1, q2, q3, q4⟩ := HY.out.box; obtain ⟨r0, r1, r2, r3, r4, r5, r6⟩ := (HRC.out _ HY.out.own).cs; clear hb3 HX)
                | fail)
              go_ret3
              exact SpP.bad HB2.out HY.out.bel
            · -- kind 5, insert false
              have HG2 := hide (HG.out _ (by rw [HST.out]; exact if_pos (by show ends false 5 = true; decide)))
              clear HST HQi HG
              go_wp2_with (first
                | (go_at_call 50; refine (HP.out _).mono ?_; rintro e w2 ⟨rfl, hb2⟩; have HX := hide (HK.out _ hb2); obtain ⟨q0, q1, q2, q3, q4⟩ := HX.out.box; clear hb2 p0 p1 p2 p3 p4)
                | (go_at_call 51; refine (HO.out _ HX.out.row).mono ?_; rintro e w3 ⟨rfl, hb3⟩; have HY := hide (HX.out.on hb3); clear q0 q1 q2 q3 q4; obtain ⟨q0, q1, q2, q3, q4⟩ := HY.out.box; have HZ := hide (HRC.out _ HY.out.own); obtain ⟨r0, r1, r2, r3, r4, r5, r6⟩ := HZ.out.cs; obtain ⟨f0, f1, f2, f3, f4, f5, f6⟩ := HZ.out.fr; have hne : ¬ gl = wr.heap.size := HY.out.far; clear hb3 HX)
                | fail)
              go_roundw
              case rel => exact ⟨i + 1, _, tm, hlt, by simp, rfl, HG2.out, shut_own HY.out.own HSK.out i ⟨tm, who, 5, key, load⟩ (by show (5 : Int) ≠ 4; decide), shut_bel HY.out.bel hfg _ _ _ _⟩
              case measure => exact mdec hlt
            · -- kind 5, insert true
              have HB2 := hide (HQi.out (by rw [HST.out]; exact if_neg (by show ¬ ends true 5 = true; decide)))
              clear HST HQi HG
              go_wp2_with (first
                | (go_at_call 50; refine (HP.out _).mono ?_; rintro e w2 ⟨rfl, hb2⟩; have HX := hide (HK.out _ hb2); obtain ⟨q0, q1, q2, q3, q4⟩ := HX.out.box; clear hb2 p0 p1 p2 p3 p4)
                | (go_at_call 51; refine (HO.out _ HX.out.row).mono ?_; rintro e w3 ⟨rfl, hb3⟩; have HY := hide (HX.out.on hb3); clear q0 q1 q2 q3 q4; obtain ⟨q0, q1, q2, q3, q4⟩ := HY.out.box; obtain ⟨r0, r1, r2, r3, r4, r5, r6⟩ := (HRC.out _ HY.out.own).cs; clear hb3 HX)
                | fail)
              go_ret3
              exact SpP.bad HB2.out HY.out.bel
            · -- kind 6, insert false
              have HG2 := hide (HG.out _ (by rw [HST.out]; exact if_pos (by show ends false 6 = true; decide)))
              clear HST HQi HG
              go_wp2_with (first
                | (go_at_call 50; refine (HP.out _).mono ?_; rintro e w2 ⟨rfl, hb2⟩; have HX := hide (HK.out _ hb2); obtain ⟨q0, q1, q2, q3, q4⟩ := HX.out.box; clear hb2 p0 p1 p2 p3 p4)
                | (go_at_call 51; refine (HO.out _ HX.out.row).mono ?_; rintro e w3 ⟨rfl, hb3⟩; have HY := hide (HX.out.on hb3); clear q0 q1 q2 q3 q4; obtain ⟨q0, q1, q2, q3, q4⟩ := HY.out.box; have HZ := hide (HRC.out _ HY.out.own); obtain ⟨r0, r1, r2, r3, r4, r5, r6⟩ := HZ.out.cs; obtain ⟨f0, f1, f2, f3, f4, f5, f6⟩ := HZ.out.fr; have hne : ¬ gl = wr.heap.size := HY.out.far; clear hb3 HX)
                | fail)
              go_roundw
              case rel => exact ⟨i + 1, _, tm, hlt, by simp, rfl, HG2.out, shut_own HY.out.own HSK.out i ⟨tm, who, 6, key, load⟩ (by show (6 : Int) ≠ 4; decide), shut_bel HY.out.bel hfg _ _ _ _⟩
              case measure => exact mdec hlt
            · -- kind 6, insert true
              have HG2 := hide (HG.out _ (by rw [HST.out]; exact if_pos (by show ends true 6 = true; decide)))
              clear HST HQi HG
              go_wp2_with (first
                | (go_at_call 50; refine (HP.out _).mono ?_; rintro e w2 ⟨rfl, hb2⟩; have HX := hide (HK.out _ hb2); obtain ⟨q0, q1, q2, q3, q4⟩ := HX.out.box; clear hb2 p0 p1 p2 p3 p4)
                | (go_at_call 51; refine (HO.out _ HX.out.row).mono ?_; rintro e w3 ⟨rfl, hb3⟩; have HY := hide (HX.out.on hb3); clear q0 q1 q2 q3 q4; obtain ⟨q0, q1, q2, q3, q4⟩ := HY.out.box; have HZ := hide (HRC.out _ HY.out.own); obtain ⟨r0, r1, r2, r3, r4, r5, r6⟩ := HZ.out.cs; obtain ⟨f0, f1, f2, f3, f4, f5, f6⟩ := HZ.out.fr; have hne : ¬ gl = wr.heap.size := HY.out.far; clear hb3 HX)
                | fail)
              go_roundw
              case rel => exact ⟨i + 1, _, tm, hlt, by simp, rfl, HG2.out, shut_own HY.out.own HSK.out i ⟨tm, who, 6, key, load⟩ (by show (6 : Int) ≠ 4; decide), shut_bel HY.out.bel hfg _ _ _ _⟩
              case measure => exact mdec hlt
      · have HP := hide (fun W => HPL.out ⟨tm, who, kind, key, load⟩ last W)
        rw [Bool.eq_false_iff.2 hok] at HP
        have HB2 := hide (HQi.out (by unfold stp; rw [if_neg hok]))
        clear hok HQi HG
        go_wp2_with (first
          | (go_at_call 50; refine (HP.out _).mono ?_; rintro e w2 ⟨rfl, hb2⟩; have HX := hide (HK.out _ hb2); clear hb2 p0 p1 p2 p3 p4)
          | fail)
        go_ret3
        exact SpP.bad HB2.out HX.out.bel
    · obtain rfl : i = n := by omega
      have hbd := bad_none (evs := evs) (by rw [← HN.out, HR.out]; rfl)
      by_cases hm : 2000 < i
      · have HA := hide (ans_many hbd (by rw [← HN.out]; exact hm))
        have hmi : (2000 : Int) < (i : Int) := by omega
        clear hbd
        go_wp2
        go_ret3
        obtain ⟨h1, h2, h3⟩ := HA.out
        refine ⟨_, by rw [h2, h3]; rfl, ?_, HB.out⟩
        rw [h1]; exact ROwn.nil _ _
      · have HA := hide (ans_good hbd (by rw [← HN.out]; exact hm) (by rw [← HN.out]; exact HR.out))
        have hmi : ¬ (2000 : Int) < (i : Int) := by omega
        clear hbd
        go_wp2
        go_ret3
        obtain ⟨h1, h2, h3⟩ := HA.out
        refine ⟨_, by rw [h2, h3]; rfl, ?_, HB.out⟩
        rw [h1]; exact HS.out
end Go.Proofs.Ytfoeljcgbfpknaa
