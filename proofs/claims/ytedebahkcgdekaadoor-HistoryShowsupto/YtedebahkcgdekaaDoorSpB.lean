/- history.Show. -/
import Derived.Test.YtedebahkcgdekaaDoorSpA
namespace Go.Proofs.YtedebahkcgdekaaDoor
open Go.Shelf Go.RowKit Go.Sort Go.Lib
set_option linter.unusedVariables false
set_option linter.unusedSimpArgs false
/-- May the event be written? -/
def okV (e : Ev) : Bool := isE e && decide (e.tm ≤ 1000000000) && decide (e.who ≤ 1000000000)
def lineE (e : Ev) : List UInt8 := lineN e.tm.toNat e.who.toNat e.kind.toNat e.key.toNat e.load.toNat
/-- The first n lines, if all of these may be written. -/
def okN (l : List Ev) (n : Nat) : Prop := ∀ i, i < n → okV (evAt l i) = true
def txN (l : List Ev) : Nat → List UInt8
  | 0 => []
  | n + 1 => txN l n ++ lineE (evAt l n)
open Classical in
noncomputable def shS (l : List Ev) : ByteArray := if okN l l.length then bs (txN l l.length) else ⟨#[]⟩
open Classical in
noncomputable def shE (l : List Ev) : Int := if okN l l.length then 0 else 70
theorem sh_good {l : List Ev} (h : okN l l.length) : shS l = bs (txN l l.length) ∧ shE l = 0 := ⟨if_pos h, if_pos h⟩
theorem sh_bad {l : List Ev} {i : Nat} (hi : i < l.length) (h : okV (evAt l i) = false) : shS l = ⟨#[]⟩ ∧ shE l = 70 := by
  have : ¬ okN l l.length := fun k => by rw [k i hi] at h; cases h
  exact ⟨if_neg this, if_neg this⟩
theorem line_lenE {e : Ev} (h : Evok e) : (lineE e).length ≤ 93 := by
  obtain ⟨⟨_, _⟩, ⟨_, _⟩, ⟨_, _⟩, ⟨_, _⟩⟩ := h
  exact line_len (by omega) (by omega) (by omega) (by omega)
theorem txN_len {l : List Ev} (hk : ∀ i, i < l.length → Evok (evAt l i)) : ∀ n, n ≤ l.length → (txN l n).length ≤ n * 93
  | 0, _ => by simp [txN]
  | n + 1, h => by
    have h1 := txN_len hk n (by omega)
    have h2 := line_lenE (hk n (by omega))
    simp [txN]; omega
theorem okN_next {l : List Ev} {n : Nat} (h : okN l n) (k : okV (evAt l n) = true) : okN l (n + 1) := fun i hi => by
  by_cases e : i = n
  · subst e; exact k
  · exact h i (by omega)
/-- What is known behind the box of one event. -/
structure BX (w wr W : World) (B : Nat) (ar : Array Value) (bsv : List Value) : Prop where
  box : ∀ (j : Nat) u, ar[j]? = some u → W.cell? ⟨wr.heap.size, j, none⟩ = some u
  bd : Lib.IsBuilder 42 5 B B bsv W
  bel : Below w.heap.size w W
  ub : B ≤ W.heap.size
theorem bx_of {w wr W : World} {B : Nat} {ar : Array Value} {bsv : List Value} (hB : B = w.heap.size) (h1 : Lib.IsBuilder 42 5 B B bsv wr) (h2 : Below w.heap.size w wr) (h3 : Below (wr.alloc (.cells ar 35)).heap.size (wr.alloc (.cells ar 35)) W) : BX w wr W B ar bsv := by
  have hb : Below wr.heap.size wr W := below_on (below_alloc (Below.refl _ _) _) h3
  refine ⟨fun j u hj => ?_, isb_below h1 hb, below_on h2 hb, ?_⟩
  · have hh := (h3.block wr.heap.size (by simp)).trans (heap_new wr (.cells ar 35))
    exact cell_of hh hj
  · have := h2.size; have := hb.size; omega
theorem BX.on {w wr W W' : World} {B : Nat} {ar : Array Value} {bsv : List Value} (h : BX w wr W B ar bsv) (hb : Below W.heap.size W W') : BX w wr W' B ar bsv :=
  ⟨fun j u hj => (below_cell hb (block_of_cell (h.box j u hj))).trans (h.box j u hj), isb_below h.bd hb, below_on h.bel hb, Nat.le_trans h.ub hb.size⟩
theorem mdec {i n : Nat} (h : i < n) : n - (RowKit.intOf (.int .i64 ((i : Int) + 1))).toNat < n - (RowKit.intOf (.int .i64 (i : Int))).toNat := by simp [RowKit.intOf]; omega
set_option maxRecDepth 100000 in
set_option maxHeartbeats 4000000 in
theorem show_any (v : Value) (l : List Ev) (w : World) (h : EAt w v l) (hk : ∀ i, i < l.length → Evok (evAt l i)) (hlen : l.length ≤ 1048576) (hW : WordsAt w) (htab : Lib.TabIs Tryd.prog w "internal/strconv.uint64pow10" .u64 Lib.pow10Tab) :
    Calls Tryd.prog 6 #[v] w fun e w' => e = .returned (.tuple #[.string (shS l), .int .i64 (shE l)]) ∧ Below w.heap.size w w' := by
  obtain ⟨ao, cap, rfl, hcap, h63⟩ := h.shape
  have H := hide h
  have HIE := hide isE_any
  unfold Ev.arr at HIE
  have HLI : Hid (∀ (t p k x y : Nat), t ≤ 1000000000 → p ≤ 1000000000 → 1 ≤ k → k ≤ 6 → x < 18446744073709551616 → y < 18446744073709551616 → ∀ W : World, Below w.heap.size w W →
      Calls Tryd.prog 14 #[.agg #[.int .i64 t, .int .i64 p, .int .i64 k, .int .u64 x, .int .u64 y]] W fun e w' => e = .returned (.string (bs (lineN t p k x y))) ∧ Below W.heap.size W w') := fun t p k x y a b c d e f W hb => line_any t p k x y a b c d e f W (hW.below hb) (Lib.tabBelow_of_tabIs htab W hb)
  have HK := hide hk
  have HG := hide (fun (h : okN l l.length) => sh_good h)
  have HBD := hide (fun i (hi : i < l.length) h => sh_bad (l := l) (i := i) hi h)
  have HTL := hide (txN_len hk)
  obtain ⟨n, hn⟩ : ∃ n, n = l.length := ⟨_, rfl⟩
  have HN := hide hn
  rw [← hn] at hcap H HK hlen HG HBD HTL ⊢
  obtain ⟨SS, hSS⟩ : ∃ SS, SS = shS l := ⟨_, rfl⟩
  obtain ⟨SE, hSE⟩ : ∃ SE, SE = shE l := ⟨_, rfl⟩
  rw [← hSS, ← hSE] at HG HBD ⊢
  clear h hn hSS hSE hk hW htab
  have hB0 : Lib.IsBuilder 42 5 w.heap.size w.heap.size (Lib.byteCells (txN l 0)) (w.alloc (.cells #[.pointer none, .slice none 0 0] 42)) := by
    refine .inl ⟨Nat.le_refl _, _, heap_new _ _, ⟨by simp [txN, Lib.byteCells], Or.inl ⟨rfl, by simp [txN, Lib.byteCells]⟩⟩, by intro e; cases e⟩
  have HB0 := hide hB0
  clear hB0
  go_enter Tryd.func6, Tryd.ntmps6
  go_wp2_with fail
  obtain ⟨B, hB⟩ : ∃ B, B = w.heap.size := ⟨_, rfl⟩
  have HBB := hide hB
  go_loopw [9] (fun t wr => ∃ i : Nat, i ≤ n ∧ t = .int .i64 (i : Int) ∧ okN l i ∧ Lib.IsBuilder 42 5 w.heap.size w.heap.size (Lib.byteCells (txN l i)) wr ∧ Below w.heap.size w wr) (fun t _ => n - (RowKit.intOf t).toNat)
  case atStart => exact ⟨0, Nat.zero_le _, rfl, fun i hi => absurd hi (Nat.not_lt_zero _), HB0.out, below_alloc (Below.refl _ _) _⟩
  case round =>
    obtain ⟨i, hi, rfl, hok, hbd, hbel⟩ := hrel
    have HOK := hide hok
    have HBDR := hide hbd
    have HB := hide hbel
    clear hok hbd hbel
    by_cases hlt : i < n
    · obtain ⟨g, o, rfl, hg, p⟩ := (H.out.below HB.out).at i (by have := HN.out; omega)
      have HE : Hid (evAt l i = l[i]'(by have := HN.out; omega)) := hide (by have := HN.out; simp [evAt, show i < l.length by omega])
      rw [← HE.out] at p
      have HV : Hid (∃ e, e = evAt l i) := ⟨_, rfl⟩
      obtain ⟨e, he⟩ := HV.out
      have HEV := hide he
      have hevo := HK.out i hlt
      rw [← he] at p hevo
      clear he HV HE
      obtain ⟨tm, who, kind, key, load⟩ := e
      have p0 : wr.cell? ⟨g, o + i * 5, none⟩ = some (.int .i64 tm) := p 0 _ rfl
      have p1 : wr.cell? ⟨g, o + i * 5 + 1, none⟩ = some (.int .i64 who) := p 1 _ rfl
      have p2 : wr.cell? ⟨g, o + i * 5 + 2, none⟩ = some (.int .i64 kind) := p 2 _ rfl
      have p3 : wr.cell? ⟨g, o + i * 5 + 3, none⟩ = some (.int .u64 key) := p 3 _ rfl
      have p4 : wr.cell? ⟨g, o + i * 5 + 4, none⟩ = some (.int .u64 load) := p 4 _ rfl
      clear p
      have HX0 : Hid (∀ W, Below (wr.alloc (.cells #[.int .i64 tm, .int .i64 who, .int .i64 kind, .int .u64 key, .int .u64 load] 35)).heap.size (wr.alloc (.cells #[.int .i64 tm, .int .i64 who, .int .i64 kind, .int .u64 key, .int .u64 load] 35)) W → BX w wr W w.heap.size #[.int .i64 tm, .int .i64 who, .int .i64 kind, .int .u64 key, .int .u64 load] (Lib.byteCells (txN l i))) := fun W hW => bx_of rfl HBDR.out HB.out hW
      have HP := hide (fun W => HIE.out ⟨tm, who, kind, key, load⟩ W)
      by_cases hie : isE ⟨tm, who, kind, key, load⟩ = true
      · rw [hie] at HP
        have hie2 : 0 ≤ who ∧ 1 ≤ kind ∧ kind ≤ 6 ∧ 0 ≤ tm ∧ (kind = 1 ∨ kind = 4 ∨ (key = 0 ∧ load = 0)) := of_decide_eq_true hie
        obtain ⟨k1, k2, k3, k4, _⟩ := hie2
        obtain ⟨_, _, ⟨k5, k6⟩, ⟨k7, k8⟩⟩ := hevo
        simp only at k5 k6 k7 k8
        obtain ⟨t, rfl⟩ := Int.eq_ofNat_of_zero_le k4
        obtain ⟨q, rfl⟩ := Int.eq_ofNat_of_zero_le k1
        obtain ⟨k, rfl⟩ := Int.eq_ofNat_of_zero_le (show 0 ≤ kind by omega)
        obtain ⟨x, rfl⟩ := Int.eq_ofNat_of_zero_le k5
        obtain ⟨y, rfl⟩ := Int.eq_ofNat_of_zero_le k7
        by_cases ht : (t : Int) ≤ 1000000000
        · by_cases hq : (q : Int) ≤ 1000000000
          · have hov : okV (evAt l i) = true := by rw [← HEV.out]; unfold okV; rw [hie, decide_eq_true ht, decide_eq_true hq]; rfl
            have HNX := hide (okN_next HOK.out hov)
            have HLN := hide (HLI.out t q k x y (by omega) (by omega) (by omega) (by omega) (by omega) (by omega))
            have htx : txN l (i + 1) = txN l i ++ lineN t q k x y := by show txN l i ++ lineE (evAt l i) = _; rw [← HEV.out]; rfl
            have HTX := hide htx
            have HSZ : Hid ((Lib.byteCells (txN l i)).length + (bs (lineN t q k x y)).size ≤ 140737488355328) := by
              show (Lib.byteCells (txN l i)).length + (bs (lineN t q k x y)).size ≤ 140737488355328
              have h1 := HTL.out (i + 1) (by omega)
              rw [htx, List.length_append] at h1
              rw [bs_size, Lib.byteCells_length]
              omega
            clear htx hov hie
            obtain ⟨LS, hLS⟩ : ∃ LS, LS = bs (lineN t q k x y) := ⟨_, rfl⟩
            rw [← hLS] at HLN HSZ
            have HLS := hide hLS
            have HWR := hide (fun W h1 h2 => write_any w.heap.size w.heap.size (Lib.byteCells (txN l i)) LS W h1 HSZ.out h2)
            clear hLS HSZ k6 k8 hlen
            go_wp2_with (first
              | (go_at_call 12; refine (HP.out _).mono ?_; rintro e w2 ⟨rfl, hb2⟩; have HX := hide (HX0.out _ hb2); clear hb2 p0 p1 p2 p3 p4; have q0 := HX.out.box 0 _ rfl; have q1 := HX.out.box 1 _ rfl; have q2 := HX.out.box 2 _ rfl; have q3 := HX.out.box 3 _ rfl; have q4 := HX.out.box 4 _ rfl)
              | (go_at_call 14; refine (HLN.out _ HX.out.bel).mono ?_; rintro e w3 ⟨rfl, hb3⟩; have HY := hide (HX.out.on hb3); clear hb3)
              | (go_at_call 13; refine (HWR.out _ HY.out.bd HY.out.ub).mono ?_; rintro e w4 ⟨rfl, hbd, hb4⟩; have HZ := hide (And.intro hbd (HY.out.bel.trans hb4)); clear hbd hb4)
              | fail)
            go_roundw
            case rel =>
              refine ⟨i + 1, hlt, by simp, HNX.out, ?_, HZ.out.2⟩
              have h5 := HZ.out.1
              rw [HLS.out] at h5
              rw [HTX.out, Lib.byteCells_append]
              exact h5
            case measure => exact mdec hlt
          · have hov : okV (evAt l i) = false := by rw [← HEV.out]; unfold okV; rw [hie, decide_eq_true ht, decide_eq_false hq]; rfl
            have HEND := hide (HBD.out i hlt hov)
            clear hov hie
            go_wp2_with (first
              | (go_at_call 12; refine (HP.out _).mono ?_; rintro e w2 ⟨rfl, hb2⟩; have HX := hide (HX0.out _ hb2); clear hb2 p0 p1 p2 p3 p4; have q0 := HX.out.box 0 _ rfl; have q1 := HX.out.box 1 _ rfl; have q2 := HX.out.box 2 _ rfl; have q3 := HX.out.box 3 _ rfl; have q4 := HX.out.box 4 _ rfl)
              | fail)
            go_ret2
            exact ⟨by rw [HEND.out.1, HEND.out.2]; rfl, HX.out.bel⟩
        · have hov : okV (evAt l i) = false := by rw [← HEV.out]; unfold okV; rw [hie, decide_eq_false ht]; rfl
          have HEND := hide (HBD.out i hlt hov)
          clear hov hie
          go_wp2_with (first
            | (go_at_call 12; refine (HP.out _).mono ?_; rintro e w2 ⟨rfl, hb2⟩; have HX := hide (HX0.out _ hb2); clear hb2 p0 p1 p2 p3 p4; have q0 := HX.out.box 0 _ rfl; have q1 := HX.out.box 1 _ rfl; have q2 := HX.out.box 2 _ rfl; have q3 := HX.out.box 3 _ rfl; have q4 := HX.out.box 4 _ rfl)
            | fail)
          go_ret2
          exact ⟨by rw [HEND.out.1, HEND.out.2]; rfl, HX.out.bel⟩
      · have hief : isE ⟨tm, who, kind, key, load⟩ = false := by simpa using hie
        have hov : okV (evAt l i) = false := by rw [← HEV.out]; unfold okV; rw [hief]; rfl
        have HEND := hide (HBD.out i hlt hov)
        rw [hief] at HP
        clear hov hief hie
        go_wp2_with (first
          | (go_at_call 12; refine (HP.out _).mono ?_; rintro e w2 ⟨rfl, hb2⟩; have HX := hide (HX0.out _ hb2); clear hb2 p0 p1 p2 p3 p4; have q0 := HX.out.box 0 _ rfl; have q1 := HX.out.box 1 _ rfl; have q2 := HX.out.box 2 _ rfl; have q3 := HX.out.box 3 _ rfl; have q4 := HX.out.box 4 _ rfl)
          | fail)
        go_ret2
        exact ⟨by rw [HEND.out.1, HEND.out.2]; rfl, HX.out.bel⟩
    · obtain rfl : i = n := by omega
      have HEND := hide (HG.out (HOK.out))
      have HSTR := hide (Tryd.Builder_String_any _ _ (txN l i) wr HBDR.out HB.out.size)
      obtain ⟨LS, hLS⟩ : ∃ LS : ByteArray, LS = ⟨(txN l i).toArray⟩ := ⟨_, rfl⟩
      rw [← hLS] at HSTR
      have HLS := hide hLS
      clear hLS
      go_wp2_with (first
        | (go_at_call 15; refine HSTR.out.mono ?_; rintro e w2 ⟨rfl, hb2⟩; have HX := hide (HB.out.trans hb2); clear hb2)
        | fail)
      go_ret2
      refine ⟨?_, HX.out⟩
      have h5 := HEND.out.1
      have h6 := HEND.out.2
      show Ending.returned (Value.tuple #[.string LS, .int .i64 0]) = _
      rw [h5, h6, HLS.out]
      rfl
end Go.Proofs.YtedebahkcgdekaaDoor
