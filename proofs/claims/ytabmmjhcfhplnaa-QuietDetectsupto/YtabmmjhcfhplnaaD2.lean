/- QuietDetects: tree. -/
import Derived.Test.YtabmmjhcfhplnaaD1
import Derived.Test.YtabmmjhcfhplnaaQa
import Derived.Deep.Cut
import Derived.Deep.AppendLies
namespace Go.Proofs.Ytabmmjhcfhplnaa
open Go.RowKit Go.Lib Go.MuLone
set_option linter.unusedVariables false
set_option linter.unusedSimpArgs false
theorem Try.dinfo3 : (Try.prog.info? 3).map (fun i => (i.zero, i.size, i.bytes)) = some (some (.int .i64 0), 1, 8) := by kernel_rfl
theorem dinfo_parts {o : Option TypeInfo} {a : Option Value} {b c : Nat} (h : o.map (fun i => (i.zero, i.size, i.bytes)) = some (a, b, c)) : ∃ i, o = some i ∧ i.zero = a ∧ i.size = b ∧ i.bytes = c := by
  obtain ⟨i, hi, hz⟩ := Option.map_eq_some_iff.1 h
  simp only [Prod.mk.injEq] at hz
  exact ⟨i, hi, hz⟩
theorem done_cell (w : World) (x : Value) (t : TypeId) : ∀ j u, [x][j]? = some u → (w.alloc (.cells #[x] t)).cell? ((⟨w.heap.size, 0, none⟩ : Addr).add j) = some u := by
  intro j u hj
  have hh : (w.alloc (.cells #[x] t)).heap[w.heap.size]? = some (.cells #[x] t (0, 0)) := heap_new _ _
  rw [Addr.add_lit]
  match j, hj with
  | 0, hj => simp at hj; subst hj; exact cell_of hh rfl
theorem dmdec {i n : Nat} (h : i < n) : n - (RowKit.intOf (.int .i64 ((i : Int) + 1))).toNat < n - (RowKit.intOf (.int .i64 (i : Int))).toNat := by
  simp [RowKit.intOf]; omega
def nums (L : List Nat) : List Value := L.map (fun (x : Nat) => Value.int .i64 (x : Int))
theorem nums_snoc (L : List Nat) (m : Nat) : nums (L ++ [m]) = nums L ++ [.int .i64 (m : Int)] := by simp [nums]
theorem dmod4 (x : Int) : -4 < x.tmod 4 ∧ x.tmod 4 < 4 := by
  have h2 := Int.tmod_lt_of_pos x (show (0 : Int) < 4 by decide)
  refine ⟨?_, h2⟩
  rcases Int.le_total 0 x with h | h
  · have := Int.tmod_nonneg (4 : Int) h; omega
  · have h3 := Int.tmod_lt_of_pos (-x) (show (0 : Int) < 4 by decide)
    rw [Int.neg_tmod] at h3
    omega
/-- tree under way. -/
structure TM (w wr : World) (lv : Value) (i N : Nat) (L : List Nat) : Prop where
  len : L.length = i
  sum : L.sum ≤ N - 1
  row : wr.ownsRow w.heap.size 3 1 lv i (nums L)
  bel : Below w.heap.size w wr
theorem TM.push {w wr w5 : World} {lv lv' : Value} {i N m : Nat} {L : List Nat} {X : Obj} (h : TM w wr lv i N L) (hm : L.sum + m ≤ N - 1) (h1 : w5.ownsRow w.heap.size 3 1 lv' (i + 1) (nums L ++ [.int .i64 (m : Int)])) (h2 : (wr.alloc X).grownBy w5 lv.ownBlock) : TM w w5 lv' (i + 1) N (L ++ [m]) :=
  ⟨by simp [h.len], by simp; omega, by rw [nums_snoc]; exact h1, (below_alloc h.bel X).grown h2 (by have := h.bel.size; rw [World.size_alloc]; omega) (fun j hj => (owns_lt h.row hj).1)⟩
set_option maxRecDepth 100000 in
set_option maxHeartbeats 2000000 in
theorem tree_any (v : Value) (l : List Int) (w : World) (hI : IAt w v l) (hl : l.length ≤ 1048576) (h0 : 0 < l.length) :
    Calls Try.prog 7 #[v] w fun e w' => ∃ (v' : Value) (L : List Nat), e = .returned v' ∧ L.length = l.length ∧ L.sum ≤ l.length - 1 ∧ w'.ownsRow w.heap.size 3 1 v' L.length (nums L) ∧ Below w.heap.size w w' := by
  obtain ⟨ao, c, rfl, hc1, hc2, hc3⟩ := id hI
  have HI := hide hI
  obtain ⟨n, hn⟩ : ∃ n, n = l.length := ⟨_, rfl⟩
  rw [← hn] at hl hc1 h0 ⊢
  have HN := hide hn
  have HL := hide hl
  have HT0 : Hid (TM w w (.slice none 0 0) 0 n []) := ⟨rfl, Nat.zero_le _, World.ownsRow_nil _ _ _ _, Below.refl _ _⟩
  have HN1 : Hid (Value.int .i64 ((n : Int) - 1) = Value.int .i64 ((n - 1 - ([] : List Nat).sum : Nat) : Int)) := by
    have e : ((n : Int) - 1) = ((n - 1 - ([] : List Nat).sum : Nat) : Int) := by simp; omega
    rw [e]; exact rfl
  clear hI hc3 hn
  go_enter Try.func7, Try.ntmps7
  go_upto_region 4 with fail
  clear hl
  go_loopw [3, 4, 5] (fun lv t4 t5 wr => ∃ (i : Nat) (L : List Nat), i ≤ n ∧ t5 = .int .i64 i ∧ t4 = .int .i64 ((n - 1 - L.sum : Nat) : Int) ∧ TM w wr lv i n L) (fun _ _ tt _ => n - (RowKit.intOf tt).toNat)
  case atStart => exact ⟨0, [], by omega, rfl, HN1.out, HT0.out⟩
  case round =>
    obtain ⟨i, L, hin, rfl, rfl, htm⟩ := hrel
    clear HT0
    have HTM := hide htm
    clear htm
    by_cases hlt : i < n
    · have hil : i < l.length := by rw [← HN.out]; exact hlt
      obtain ⟨po2, pc2, hv2, hv3, hv4, h3⟩ := HI.out.below HTM.out.bel
      obtain ⟨gp, op', he, e0⟩ := h3 i hil
      simp only [Value.slice.injEq] at hv2
      obtain ⟨hv2, hvl, hvc⟩ := hv2
      clear hvl hvc hv3 hv4
      subst hv2
      subst he
      obtain ⟨x, hx⟩ : ∃ x, x = nth l i := ⟨_, rfl⟩
      rw [← hx] at e0
      have hic : i < c := by omega
      have hilt : (i : Int) < (n : Int) := by omega
      obtain ⟨r, hr⟩ : ∃ r, r = n - 1 - L.sum := ⟨_, rfl⟩
      rw [← hr]
      have HR := hide hr
      have HRB : Hid (r ≤ 1048576) := by
        have h1 := HL.out
        have h2 : r ≤ 1048576 := by omega
        exact h2
      clear hx h3 hil hr
      go_upto_region 7 with fail
      obtain ⟨y, hy⟩ : ∃ y, y = x.tmod 4 := ⟨_, rfl⟩
      rw [← hy]
      clear hy e0
      go_upto_if 22 with fail
      go_cut [6] from 22 to 22 (fun a wx => ∃ y : Int, a = .int .i64 y ∧ 0 ≤ y ∧ wr = wx)
      case first =>
        by_cases hneg : y < 0
        · go_wp2_with fail
          go_meet
          case rel => exact ⟨0, rfl, Int.le_refl _, rfl⟩
        · have HY : Hid (0 ≤ y) := Int.not_lt.1 hneg
          go_wp2_with fail
          go_meet
          case rel => exact ⟨y, rfl, HY.out, rfl⟩
      case rest =>
      obtain ⟨y, rfl, hy0, rfl⟩ := hcut
      go_upto_if 25 with fail
      go_cut [6] from 25 to 26 (fun a wx => ∃ m : Nat, a = .int .i64 (m : Int) ∧ m ≤ r ∧ wr = wx)
      case first =>
        by_cases hgt : (r : Int) < y
        · go_wp2_with fail
          go_meet
          case rel => exact ⟨r, rfl, Nat.le_refl _, rfl⟩
        · have HY : Hid (∃ m : Nat, y = (m : Int) ∧ m ≤ r) := ⟨y.toNat, by omega, by omega⟩
          go_wp2_with fail
          go_meet
          case rel =>
            obtain ⟨m, h1, h2⟩ := HY.out
            exact ⟨m, by rw [h1], h2, rfl⟩
      case rest =>
        obtain ⟨m, rfl, hmr, rfl⟩ := hcut
        have HWS : Hid (wrap64 ((r : Int) - (m : Int)) = ((n - 1 - (L ++ [m]).sum : Nat) : Int)) := by
          have h1 := HR.out
          have h2 := HRB.out
          show wrap64 ((r : Int) - (m : Int)) = ((n - 1 - (L ++ [m]).sum : Nat) : Int)
          rw [IntWalk.wrap64_in _ (by omega), List.sum_append]
          simp
          omega
        have HWI : Hid (wrap64 ((i : Int) + 1) = (i : Int) + 1) := IntWalk.wrap64_in _ (by have := HL.out; omega)
        have HSM : Hid (L.sum + m ≤ n - 1) := by
          have h1 := HR.out
          have h2 := HTM.out.sum
          show L.sum + m ≤ n - 1
          omega
        have HRW := hide HTM.out.row
        have HYW : Hid (w.heap.size ≤ wr.heap.size) := HTM.out.bel.size
        have HKB : Hid (i ≤ 1048576) := Nat.le_trans hin HL.out
        obtain ⟨i3, hi3, hy0, hy1, hy2⟩ := dinfo_parts Try.dinfo3
        clear hmr
        go_wp2_with (first
          | (at_builtin; refine wpList_append_lies _ rfl (.tmp 30) (.tmp 32) 22 rfl w.heap.size 3 i3 (.int .i64 0) 1 8 Try.underlying22 hi3 hy0 hy1 hy2 rfl (by omega) u3 i (nums L) rfl (HRW.out.alloc _) ⟨wr.heap.size, 0, none⟩ 1 1 [.int .i64 (m : Int)] rfl rfl (done_cell wr _ _) (by simp [Value.oneCell']) (by omega) (by have := HKB.out; unfold maxLen; omega) (by have := HKB.out; omega) (by have := HYW.out; simp; omega) (wr.heap.size + 1) (by simp) ?_; intro g5 cap5 w5 hownB hgrowB hatB hltB; have HB5 := hide (HTM.out.push HSM.out hownB hgrowB); clear hownB hgrowB hatB hltB)
          | fail)
        try rw [HWI.out]
        try rw [HWS.out]
        go_roundw
        case rel => exact ⟨i + 1, L ++ [m], Nat.succ_le_of_lt hlt, rfl, rfl, HB5.out⟩
        case measure => exact dmdec hlt
    · obtain rfl : i = n := by omega
      obtain ⟨oo, occ, hov⟩ := owns_shape HTM.out.row
      subst hov
      go_wp2_with fail
      go_ret
      exact ⟨_, L, rfl, HTM.out.len, HTM.out.sum, by rw [HTM.out.len]; exact HTM.out.row, HTM.out.bel⟩
end Go.Proofs.Ytabmmjhcfhplnaa
