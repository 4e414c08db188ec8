/- ownWords: lists that share nothing. -/
import Derived.Test.YtgjdjdgondpjeaaGreatR3
namespace Go.Proofs.YtgjdjdgondpjeaaGreat
open Go.RowKit Go.Lib
theorem one_at1 (w : World) (x0 : Value) (t : TypeId) : ∀ j u, [x0][j]? = some u → (w.alloc (.cells #[x0] t)).cell? ((⟨w.heap.size, 0, none⟩ : Addr).add j) = some u := by
  intro j u hj
  have hh : (w.alloc (.cells #[x0] t)).heap[w.heap.size]? = some (.cells #[x0] t (0, 0)) := heap_new _ _
  rw [Addr.add_lit]
  match j, hj with
  | 0, hj => simp at hj; subst hj; exact cell_of hh rfl
set_option linter.unusedVariables false
theorem at_set' (L : List Int) (i j : Nat) (x : Int) (hi : i < L.length) : at_ (L.set i x) j = if i = j then x else at_ L j := by
  unfold at_
  rw [List.getElem?_set]
  by_cases e : i = j
  · subst e; simp [hi]
  · rw [if_neg e, if_neg e]
/-- One of the lists: nothing, or a block of its own, of which the first c bear its mark. -/
def Lst (X : World) (G : Nat) (v : Value) (n g : Nat) (mk : Int) (c : Nat) : Prop :=
  (v = .slice none 0 0 ∧ n = 0) ∨ (v = .slice (some ⟨g, 0, none⟩) n n ∧ 0 < n ∧ G ≠ g ∧ ∃ L, ArrU X g L ∧ L.length = n ∧ ∀ t, t < c → at_ L t = mk)
/-- Four lists in the block G. -/
structure OW (G : Nat) (vs : Nat → Value) (ns gs : Nat → Nat) (c : Nat → Nat) (X : World) : Prop where
  cel : ∀ i, i < 4 → X.cell? ⟨G, i, none⟩ = some (vs i)
  l : ∀ i, i < 4 → Lst X G (vs i) (ns i) (gs i) (1000 + i) (c i)
  dis : ∀ i j, i < 4 → j < 4 → i ≠ j → 0 < ns i → 0 < ns j → gs i ≠ gs j
  bd : ∀ i, i < 4 → ns i ≤ 200000
theorem OW.below {G : Nat} {vs : Nat → Value} {ns gs c : Nat → Nat} {X Y : World} (h : OW G vs ns gs c X) (hb : Below X.heap.size X Y) : OW G vs ns gs c Y :=
  ⟨fun i hi => (below_cell hb (block_of_cell (h.cel i hi))).trans (h.cel i hi), fun i hi => by
    rcases h.l i hi with e | ⟨e1, e0, e2, L, a, b, d⟩
    · exact .inl e
    · exact .inr ⟨e1, e0, e2, L, a.below hb (lt_of_heap a), b, d⟩, h.dis, h.bd⟩
theorem OW.mono {G : Nat} {vs : Nat → Value} {ns gs c c' : Nat → Nat} {X : World} (h : OW G vs ns gs c X) (hc : ∀ i, i < 4 → c' i ≤ c i) : OW G vs ns gs c' X :=
  ⟨h.cel, fun i hi => by
    rcases h.l i hi with e | ⟨e1, e0, e2, L, a, b, d⟩
    · exact .inl e
    · exact .inr ⟨e1, e0, e2, L, a, b, fun t ht => d t (by have := hc i hi; omega)⟩, h.dis, h.bd⟩
theorem OW.put {G : Nat} {vs : Nat → Value} {ns gs c : Nat → Nat} {X : World} (h : OW G vs ns gs c X) {i k : Nat} (hi : i < 4) (hk : k < ns i) (hc : c i = k) :
    OW G vs ns gs (fun j => if j = i then k + 1 else c j) (X.setCell ⟨gs i, k, none⟩ (.int .u64 (1000 + i))) := by
  have hGi : G ≠ gs i := by
    rcases h.l i hi with ⟨_, e⟩ | ⟨_, _, e2, _⟩
    · omega
    · exact e2
  refine ⟨fun j hj => ?_, fun j hj => ?_, h.dis, h.bd⟩
  · have := h.cel j hj
    unfold World.cell? at this ⊢
    rw [Below.heap_setCell X ⟨gs i, k, none⟩ (.int .u64 (1000 + i)) G hGi]
    exact this
  · by_cases e : j = i
    · subst e
      simp only [if_true]
      rcases h.l j hj with ⟨_, e⟩ | ⟨e1, e0, e2, L, a, b, d⟩
      · omega
      · refine .inr ⟨e1, e0, e2, _, a.put k _, by simp [b], fun t ht => ?_⟩
        rw [at_set' _ _ _ _ (by omega)]
        by_cases et : k = t
        · rw [if_pos et]
        · rw [if_neg et]; exact d t (by omega)
    · simp only [if_neg e]
      rcases h.l j hj with e' | ⟨e1, e0, e2, L, a, b, d⟩
      · exact .inl e'
      · refine .inr ⟨e1, e0, e2, L, (Below.heap_setCell _ _ _ _ (h.dis j i hj hi e e0 (by omega))).trans a, b, d⟩
/-- A list that an append takes: one's own, or one that is full. -/
def AP (B : Nat) (X : World) (v : Value) (m : Nat) : Prop := (∃ xs, X.ownsRow B 40 1 v m xs) ∨ (∃ g L, v = .slice (some ⟨g, 0, none⟩) m m ∧ ArrU X g L ∧ L.length = m)
theorem wpList_append_ap {X : World} {ops : Array Oper} {rest : List Oper} {o : Oper} {a : Act} {Q : Exit → Act → World → Prop} (hgd : o.guard = none) (s x : Operand)
    (ho : o.op = .call { callee := .builtin .append, args := #[s, x], argTypes := #[47, 47] }) (i : TypeInfo) (hi : Tryz.prog.info? 40 = some i) (hz : i.zero = some (.int .u64 0)) (hsize : i.size = 1) (hby : i.bytes = 8)
    (B : Nat) (v : Value) (m : Nat) (hs : a.eval s = v) (hap : AP B X v m) (hB : B ≤ X.heap.size) (hm : m ≤ 300000) (hx : a.eval x = .slice (some ⟨X.heap.size, 0, none⟩) 1 1)
    (h : ∀ v' w', AP B w' v' (m + 1) → Below B X w' → wpList Tryz.prog ops Q rest (a.put o.dst v') w') : wpList Tryz.prog ops Q (o :: rest) a (X.alloc (.cells #[.int .u64 77] 40)) := by
  rcases hap with ⟨xs, hown⟩ | ⟨g, L, rfl, hA, hL⟩
  · refine wpList_append_own _ hgd s x 47 ho B 40 i (.int .u64 0) 1 8 Tryz.underlying47 hi hz hsize hby rfl (by decide) v m xs hs (hown.alloc _) ⟨X.heap.size, 0, none⟩ 1 1 [.int .u64 77] hx rfl (one_at1 X _ _) (by simp [Value.oneCell']) (by unfold maxLen; omega) (by omega) (by simp; omega) ?_
    intro v' w' h1 h2 h3
    refine h v' w' (.inl ⟨_, h1⟩) ?_
    refine ((Below.refl B X).alloc hB _).grown h2 (by simp; omega) (fun j hj => ?_)
    exact (hown.lt j hj).1
  · refine wpList_append_grows _ hgd s x 47 ho 40 i (.int .u64 0) 1 8 Tryz.underlying47 hi hz hsize hby rfl (by decide) (some ⟨g, 0, none⟩) m m (L.map (Value.int .u64)) hs (fun e => by cases e) (by simp [hL]) (fun b hb j u hj => ?_) ⟨X.heap.size, 0, none⟩ 1 1 [.int .u64 77] hx rfl (one_at1 X _ _) (by simp [Value.oneCell']) (by omega) (by unfold maxLen; omega) (by omega) ?_
    · cases hb
      have hjl : j < L.length := by have := (List.getElem?_eq_some_iff.1 hj).1; simpa using this
      have hA2 : ArrU (X.alloc (.cells #[.int .u64 77] 40)) g L := hA.below ((Below.refl _ X).alloc (Nat.le_refl _) _) (lt_of_heap hA)
      rw [Addr.add_lit, Nat.zero_add, hA2.cell j hjl]
      have : (L.map (Value.int .u64))[j]? = some (.int .u64 (at_ L j)) := by simp [at_, hjl]
      rw [← this]; exact hj
    · intro v' w' h1 h2
      refine h v' w' (.inl ⟨_, ⟨h1.1, h1.2.imp id fun ⟨g, cap, cur, he, hg, r⟩ => ⟨g, cap, cur, he, by simp at hg; omega, r⟩⟩⟩) ?_
      exact ((Below.refl B X).alloc hB _).grown h2 (by simp; omega) (fun j hj => by cases hj)
theorem Lst.ap {X : World} {G : Nat} {v : Value} {n g : Nat} {mk : Int} {c B : Nat} (h : Lst X G v n g mk c) : AP B X v n := by
  rcases h with ⟨rfl, rfl⟩ | ⟨rfl, _, _, L, a, b, _⟩
  · exact .inl ⟨[], World.ownsRow_nil X _ 40 1⟩
  · exact .inr ⟨g, L, rfl, a, b⟩
/-- What is turned: the lists' own blocks. -/
def Own4 (ns gs : Nat → Nat) (k : Nat) : Prop := ∃ i, i < 4 ∧ 0 < ns i ∧ k = gs i
/-- How far the marks go: the lists ahead of i are done, of i the first k. -/
def upC (ns : Nat → Nat) (i k : Nat) : Nat → Nat := fun j => if j = i then k else if j < i then ns j else 0
theorem upC_next (ns : Nat → Nat) (i k : Nat) : (fun j => if j = i then k + 1 else upC ns i k j) = upC ns i (k + 1) := by
  funext j
  unfold upC
  by_cases e : j = i
  · rw [if_pos e, if_pos e]
  · rw [if_neg e, if_neg e, if_neg e]
theorem upC_row (ns : Nat → Nat) (i : Nat) : upC ns i (ns i) = upC ns (i + 1) 0 := by
  funext j
  unfold upC
  by_cases e : j = i
  · subst e; rw [if_pos rfl, if_neg (by omega), if_pos (by omega)]
  · rw [if_neg e]
    by_cases e2 : j = i + 1
    · rw [if_pos e2, if_neg (by omega)]
    · rw [if_neg e2]
      by_cases e3 : j < i
      · rw [if_pos e3, if_pos (by omega)]
      · rw [if_neg e3, if_neg (by omega)]
set_option maxRecDepth 100000 in
set_option maxHeartbeats 16000000 in
theorem ownWords_any (G : Nat) (vs : Nat → Value) (ns gs : Nat → Nat) (w : World) (h : OW G vs ns gs (fun _ => 0) w) :
    Calls Tryz.prog 35 #[.slice (some ⟨G, 0, none⟩) 4 4] w fun e w' => e = .returned (.bool true) ∧ Chg (Own4 ns gs) w w' := by
  obtain ⟨i0, hi, hz0, hz1, hz2⟩ := info_parts Tryz.info40
  have H0 := hide (h.mono (c' := upC ns 0 0) (fun i _ => by unfold upC; by_cases e : i = 0 <;> simp [e]))
  clear h
  go_enter Tryz.func35, Tryz.ntmps35
  go_wp2
  go_loopw [3] (fun t wr => ∃ i : Nat, i ≤ 4 ∧ t = .int .i64 i ∧ OW G vs ns gs (upC ns i 0) wr ∧ Chg (Own4 ns gs) w wr) (fun t _ => 4 - (RowKit.intOf t).toNat)
  case atStart => exact ⟨0, by omega, rfl, H0.out, Chg.refl _ _⟩
  case round =>
    obtain ⟨i, hi4, rfl, how, hch⟩ := hrel
    clear H0
    by_cases hlt : i < 4
    · have hcel := how.cel i hlt
      have hbd := how.bd i hlt
      have HOW := hide how
      have HCH := hide hch
      rcases how.l i hlt with ⟨hv, hn⟩ | ⟨hv, hn0, hGg, _⟩
      · rw [hv] at hcel
        have HN := hide hn
        have HR : Hid (OW G vs ns gs (upC ns (i + 1) 0) wr) := hide (by rw [← upC_row, hn]; exact how)
        clear how hch hv hn hbd
        go_wp2
        go_loopw [4] (fun t wr' => t = .int .i64 0 ∧ wr' = wr) (fun _ _ => 0)
        case atStart => exact ⟨rfl, rfl⟩
        case round =>
          obtain ⟨rfl, rfl⟩ := hrel
          go_wp2
          go_roundw
          case rel => exact ⟨i + 1, by omega, by simp, HR.out, HCH.out⟩
          case measure => simp [RowKit.intOf]; omega
      · rw [hv] at hcel
        obtain ⟨n, hn⟩ : ∃ n, n = ns i := ⟨_, rfl⟩
        obtain ⟨g, hg⟩ : ∃ g, g = gs i := ⟨_, rfl⟩
        rw [← hn, ← hg] at hcel
        rw [← hn] at hn0 hbd
        have HN := hide hn
        have HG := hide hg
        have HV := hide hv
        clear how hch hv hn hg hGg
        go_wp2
        go_loopw [4] (fun t wr' => ∃ k : Nat, k ≤ n ∧ t = .int .i64 k ∧ OW G vs ns gs (upC ns i k) wr' ∧ Chg (Own4 ns gs) w wr') (fun t _ => n - (RowKit.intOf t).toNat)
        case atStart => exact ⟨0, by omega, rfl, HOW.out, HCH.out⟩
        case round =>
          obtain ⟨k, hk, rfl, how, hch⟩ := hrel
          clear HOW HCH hcel
          have hcel := how.cel i hlt
          rw [HV.out, ← HN.out, ← HG.out] at hcel
          have HOW := hide how
          have HCH := hide hch
          by_cases hkn : k < n
          · obtain ⟨u, hu⟩ : ∃ u, wr.cell? ⟨g, k, none⟩ = some u := by
              rcases how.l i hlt with ⟨_, e⟩ | ⟨_, _, _, L, a, b, _⟩
              · have := HN.out; omega
              · exact ⟨_, by rw [HG.out]; exact a.cell k (by have := HN.out; omega)⟩
            have hfr : wr.frozen? ⟨g, k, none⟩ = false := by
              rcases how.l i hlt with ⟨_, e⟩ | ⟨_, _, _, L, a, b, _⟩
              · have := HN.out; omega
              · rw [HG.out]; exact a.free k
            have hp := how.put hlt (by have := HN.out; omega) (show upC ns i k i = k by unfold upC; rw [if_pos rfl])
            rw [upC_next, ← HG.out] at hp
            have HP := hide hp
            have HCP := hide (hch.setCell (p := ⟨g, k, none⟩) (show Own4 ns gs g from ⟨i, hlt, by have := HN.out; omega, HG.out⟩) (.int .u64 (1000 + (i : Int))))
            clear how hch hp
            go_wp2
            go_roundw
            case rel => exact ⟨k + 1, by omega, by simp, HP.out, HCP.out⟩
            case measure => simp [RowKit.intOf]; omega
          · obtain rfl : k = n := by omega
            have HR : Hid (OW G vs ns gs (upC ns (i + 1) 0) wr) := hide (by rw [← upC_row, ← HN.out]; exact how)
            clear how hch
            go_wp2
            go_roundw
            case rel => exact ⟨i + 1, by omega, by simp, HR.out, HCH.out⟩
            case measure => simp [RowKit.intOf]; omega
    · obtain rfl : i = 4 := by omega
      have HOW := hide how
      have HCH := hide hch
      clear how hch
      have HF : Hid (OW G vs ns gs ns wr) := hide (HOW.out.mono (fun j hj => by unfold upC; rw [if_neg (by omega), if_pos hj]; exact Nat.le_refl _))
      obtain ⟨W0, hW0⟩ : ∃ W0, W0 = wr := ⟨_, rfl⟩
      have HB0 : Hid (Below W0.heap.size W0 wr) := hide (by rw [hW0]; exact Below.refl _ _)
      have HCW : Hid (Chg (Own4 ns gs) w W0) := hide (by rw [hW0]; exact HCH.out)
      have HOW0 : Hid (OW G vs ns gs ns W0) := hide (by rw [hW0]; exact HF.out)
      clear HOW HCH HF hW0
      rw [show ((4 : Nat) : Int) = 4 from rfl]
      go_wp2
      go_loopw [5] (fun t wr => ∃ i : Nat, i ≤ 4 ∧ t = .int .i64 i ∧ Below W0.heap.size W0 wr) (fun t _ => 4 - (RowKit.intOf t).toNat)
      case atStart => exact ⟨0, by omega, rfl, HB0.out⟩
      case round =>
        obtain ⟨i, hi4, rfl, hbl⟩ := hrel
        clear HB0
        by_cases hlt2 : i < 4
        · have how := HOW0.out.below hbl
          have hcel := how.cel i hlt2
          have hbd := how.bd i hlt2
          have hap := (how.l i hlt2).ap (B := W0.heap.size)
          obtain ⟨v, hv⟩ : ∃ v, v = vs i := ⟨_, rfl⟩
          obtain ⟨n, hn⟩ : ∃ n, n = ns i := ⟨_, rfl⟩
          rw [← hv] at hcel hap
          rw [← hn] at hap hbd
          have HAP := hide hap
          have HBL := hide hbl
          clear how hap hv hn hbl
          have hi4i : (i : Int) < 4 := by omega
          have hdi : decide ((i : Int) < 4) = true := decide_eq_true hi4i
          go_wp2
          go_loopw [6, 7] (fun v t wr => ∃ k : Nat, k ≤ 64 ∧ t = .int .i64 k ∧ AP W0.heap.size wr v (n + k) ∧ Below W0.heap.size W0 wr) (fun _ t _ => 64 - (RowKit.intOf t).toNat)
          case atStart => exact ⟨0, by omega, rfl, HAP.out, HBL.out⟩
          case round =>
            obtain ⟨k, hk, rfl, hap, hbl⟩ := hrel
            clear HAP HBL hcel
            have HBL := hide hbl
            have HAP := hide hap
            by_cases hk64 : k < 64
            · clear hap hbl
              have hk64' : (k : Int) < 64 := by omega
              go_wp2_with (at_builtin; refine wpList_append_ap rfl (.tmp 48) (.tmp 49) rfl i0 hi hz0 hz1 hz2 W0.heap.size _ (n + k) rfl HAP.out HBL.out.size (by omega) rfl ?_; intro v5 w5 hap5 hb5; have HAP5 := hide hap5; have HBL5 := hide (HBL.out.trans hb5); clear hap5 hb5)
              go_roundw
              case rel => exact ⟨k + 1, by omega, by simp, HAP5.out, HBL5.out⟩
              case measure => simp [RowKit.intOf]; omega
            · obtain rfl : k = 64 := by omega
              clear hap hbl
              rw [show ((64 : Nat) : Int) = 64 from rfl]
              go_wp2
              go_roundw
              case rel => exact ⟨i + 1, by omega, by simp, HBL.out⟩
              case measure => simp [RowKit.intOf]; omega
        · obtain rfl : i = 4 := by omega
          have HOW1 := hide (HOW0.out.below hbl)
          have HCH1 := hide (HCW.out.trans (Chg.of_below hbl))
          clear hbl HOW0 HCW
          rw [show ((4 : Nat) : Int) = 4 from rfl]
          obtain ⟨W1, hW1⟩ : ∃ W1, W1 = wr := ⟨_, rfl⟩
          rw [← hW1] at HOW1 HCH1 ⊢
          clear hW1
          go_wp2
          go_loopw [8] (fun t wr => ∃ i : Nat, i ≤ 4 ∧ t = .int .i64 i ∧ wr = W1) (fun t _ => 4 - (RowKit.intOf t).toNat)
          case atStart => exact ⟨0, by omega, rfl, rfl⟩
          case round =>
            obtain ⟨i, hi4, rfl, hwr⟩ := hrel
            subst hwr
            by_cases hlt3 : i < 4
            · have hcel := HOW1.out.cel i hlt3
              have hbd := HOW1.out.bd i hlt3
              rcases HOW1.out.l i hlt3 with ⟨hv, hn⟩ | ⟨hv, hn0, hGg, L, hA, hLn, hLm⟩
              · rw [hv] at hcel
                clear hv hn hbd
                go_wp2
                go_loopw [9] (fun t wr' => t = .int .i64 0 ∧ wr' = wr) (fun _ _ => 0)
                case atStart => exact ⟨rfl, rfl⟩
                case round =>
                  obtain ⟨rfl, rfl⟩ := hrel
                  go_wp2
                  go_roundw
                  case rel => exact ⟨i + 1, by omega, by simp, by trivial⟩
                  case measure => simp [RowKit.intOf]; omega
              · rw [hv] at hcel
                obtain ⟨n, hn⟩ : ∃ n, n = ns i := ⟨_, rfl⟩
                obtain ⟨g, hg⟩ : ∃ g, g = gs i := ⟨_, rfl⟩
                rw [← hn, ← hg] at hcel
                rw [← hn] at hLn hbd
                have HLC : Hid (∀ k, k < n → wr.cell? ⟨g, k, none⟩ = some (.int .u64 (1000 + (i : Int)))) := fun k hk => by
                  rw [hg, hA.cell k (by omega), hLm k (by omega)]
                clear hv hn hg hGg hA hLn hLm hn0
                go_wp2
                go_loopw [9] (fun t wr' => ∃ k : Nat, k ≤ n ∧ t = .int .i64 k ∧ wr' = wr) (fun t _ => n - (RowKit.intOf t).toNat)
                case atStart => exact ⟨0, by omega, rfl, rfl⟩
                case round =>
                  obtain ⟨k, hk, rfl, hwr2⟩ := hrel
                  subst hwr2
                  by_cases hkn : k < n
                  · have hc := HLC.out k hkn
                    go_wp2
                    go_roundw
                    case rel => exact ⟨k + 1, by omega, by simp, by trivial⟩
                    case measure => simp [RowKit.intOf]; omega
                  · obtain rfl : k = n := by omega
                    go_wp2
                    go_roundw
                    case rel => exact ⟨i + 1, by omega, by simp, by trivial⟩
                    case measure => simp [RowKit.intOf]; omega
            · obtain rfl : i = 4 := by omega
              rw [show ((4 : Nat) : Int) = 4 from rfl]
              go_wp2
              go_ret
              exact ⟨rfl, HCH1.out⟩
end Go.Proofs.YtgjdjdgondpjeaaGreat
