/- The sum. -/
import Derived.Test.YtahhlmmdmjocdaaDoorAny
import Derived.Laws.BitsAllLaws
namespace Go.Proofs.YtahhlmmdmjocdaaDoor
open Go.RowKit Go.Lib
set_option linter.unusedVariables false

def tbl : List Nat := [0, 274646895, 549293790, 820201905, 1098587580, 1361435347, 1640403810, 1905808397, 2197175160, 2460548119, 2722870694, 2987750089, 3280807620, 3553878443, 3811616794, 4084100981]
def tb (i : Nat) : Nat := tbl[i]?.getD 0
def SumsAt (w : World) : Prop := 0 < w.heap.size ∧ ∀ i, i < 16 → w.cell? ⟨0, i, none⟩ = some (.int .u32 ((tb i : Nat) : Int))
theorem SumsAt.below {w w' : World} (h : SumsAt w) (hb : Below w.heap.size w w') : SumsAt w' := ⟨Nat.lt_of_lt_of_le h.1 hb.size, fun i hi => (below_cell hb h.1).trans (h.2 i hi)⟩
theorem tb_lt (i : Nat) : tb i < 4294967296 := by
  rcases Nat.lt_or_ge i 16 with h | h
  · have : ∀ j : Fin 16, tb j.val < 4294967296 := by decide
    exact this ⟨i, h⟩
  · unfold tb; rw [List.getElem?_eq_none (by simpa [tbl] using h)]; decide

def half (r : Nat) : Nat := (r / 16) ^^^ tb (r % 16)
def sumStep (r : Nat) (x : Int) : Nat := half (half (r ^^^ x.toNat))
def sumAll (bs : List Int) (r : Nat) : Nat := bs.foldl sumStep r
def crc (bs : List Int) : Nat := 4294967295 ^^^ sumAll bs 4294967295
theorem half_lt {r : Nat} (h : r < 4294967296) : half r < 4294967296 := Nat.xor_lt_two_pow (n := 32) (by omega) (tb_lt _)
theorem step_lt {r : Nat} {x : Int} (h : r < 4294967296) (hx : 0 ≤ x ∧ x < 256) : sumStep r x < 4294967296 := half_lt (half_lt (Nat.xor_lt_two_pow (n := 32) h (by omega)))

theorem xor32 (a b : Nat) (ha : a < 4294967296) (hb : b < 4294967296) : bits .xor .u32 (a : Int) (b : Int) = ((a ^^^ b : Nat) : Int) := u32_xor_nat a b ha hb
theorem and15 (a : Nat) (ha : a < 4294967296) : bits .and .u32 (a : Int) 15 = ((a % 16 : Nat) : Int) := by
  have h := u32_and_nat a 15 ha (by decide)
  rw [show a % 16 = a &&& 15 from (Nat.and_two_pow_sub_one_eq_mod a 4).symm]
  exact h

set_option maxRecDepth 100000 in
set_option maxHeartbeats 2000000 in
theorem crc_any (v : Value) (bs : List Int) (w : World) (h : RowAt .u8 w v bs) (hs : SumsAt w) (hby : ∀ x ∈ bs, 0 ≤ x ∧ x < 256) (hbig : bs.length ≤ 175921860444160) :
    Calls Tryd.prog 18 #[v] w fun e w' => e = .returned (.int .u32 ((crc bs : Nat) : Int)) ∧ w' = w := by
  have H := hide h
  obtain ⟨ao, c, rfl⟩ : ∃ ao c, v = .slice ao bs.length c := by obtain ⟨ao, c, h, _⟩ := h; exact ⟨ao, c, h⟩
  have HS := hide hs; have HBY := hide hby
  obtain ⟨L, hL⟩ : ∃ L, L = bs.length := ⟨_, rfl⟩
  rw [← hL] at hbig H ⊢
  have HL := hide hL
  clear h hs hby hL
  go_enter Tryd.func18, Tryd.ntmps18
  go_wp2
  go_loopw [8, 3] (fun t a wr => ∃ i r : Nat, i ≤ L ∧ t = .int .i64 i ∧ a = .int .u32 r ∧ r < 4294967296 ∧ sumAll (bs.drop i) r = sumAll bs 4294967295 ∧ wr = w) (fun t _ _ => L - (RowKit.intOf t).toNat)
  case atStart => exact ⟨0, 4294967295, by omega, rfl, rfl, by decide, by simp, rfl⟩
  case round =>
    obtain ⟨i, r, hi, rfl, rfl, hr, hsum, rfl⟩ := hrel
    by_cases hlt : i < L
    · have hil : i < bs.length := by rw [← HL.out]; exact hlt
      obtain ⟨g, o, c', he, k1, k2, k3⟩ := H.out.spot (by intro e; rw [e] at hil; simp at hil)
      simp only [Value.slice.injEq] at he
      obtain ⟨rfl, _, rfl⟩ := he
      have d := k3 i hil
      have hx := HBY.out (bs[i]) (List.getElem_mem hil)
      rw [List.getElem?_eq_getElem hil] at d
      simp only [Option.getD_some] at d
      obtain ⟨x, hxv⟩ : ∃ x : Nat, bs[i] = (x : Int) := ⟨(bs[i]).toNat, by omega⟩
      rw [hxv] at d hx
      have hx2 : x < 4294967296 := by omega
      have e1 := xor32 r x hr hx2
      have hr1 : r ^^^ x < 4294967296 := Nat.xor_lt_two_pow (n := 32) hr (by omega)
      obtain ⟨r1, hr1e⟩ : ∃ r1, r1 = r ^^^ x := ⟨_, rfl⟩
      rw [← hr1e] at e1 hr1
      have e2 := and15 r1 hr1
      have t1 := HS.out.2 (r1 % 16) (by omega)
      have hq1 : r1 / 16 < 4294967296 := by omega
      have e3 := xor32 (r1 / 16) (tb (r1 % 16)) hq1 (tb_lt _)
      have hr2 := half_lt hr1
      rw [show (r1 / 16) ^^^ tb (r1 % 16) = half r1 from rfl] at e3
      obtain ⟨r2, hr2e⟩ : ∃ r2, r2 = half r1 := ⟨_, rfl⟩
      rw [← hr2e] at e3 hr2
      rw [show ((r1 / 16 : Nat) : Int) = (r1 : Int) / 16 by omega] at e3
      have e4 := and15 r2 hr2
      have t2 := HS.out.2 (r2 % 16) (by omega)
      have e5 := xor32 (r2 / 16) (tb (r2 % 16)) (by omega) (tb_lt _)
      have hr3 := half_lt hr2
      rw [show (r2 / 16) ^^^ tb (r2 % 16) = half r2 from rfl] at e5
      have HN : Hid (sumAll (bs.drop (i + 1)) (half r2) = sumAll bs 4294967295) := by
        have h9 := hsum
        rw [List.drop_eq_getElem_cons hil] at h9
        have h10 : sumStep r bs[i] = half r2 := by unfold sumStep; rw [hxv, hr2e, hr1e]; rfl
        unfold sumAll at h9 ⊢
        rw [List.foldl_cons, h10] at h9
        exact h9
      obtain ⟨r3, hr3e⟩ : ∃ r3, r3 = half r2 := ⟨_, rfl⟩
      rw [← hr3e] at e5 hr3 HN
      rw [show ((r2 / 16 : Nat) : Int) = (r2 : Int) / 16 by omega] at e5
      have hli : (i : Int) < (L : Int) := by omega
      have hm1 : ((r1 % 16 : Nat) : Int) < 16 := by omega
      have hm2 : ((r2 % 16 : Nat) : Int) < 16 := by omega
      clear hsum hxv hr1e hr2e hr3e k3
      go_wp2
      go_roundw
      case rel => exact ⟨i + 1, r3, by omega, by simp, rfl, hr3, HN.out, by first | rfl | trivial⟩
      case measure => simp [RowKit.intOf]; omega
    · have hi2 : i = bs.length := by rw [← HL.out]; omega
      rw [hi2] at hsum
      have hR : r = sumAll bs 4294967295 := by rw [← hsum, List.drop_length]; rfl
      have HR := hide hR
      clear hR hsum hi2
      go_wp2
      go_ret
      have e9 : bits .xor .u32 IntKind.u32.max (r : Int) = ((4294967295 ^^^ r : Nat) : Int) := xor32 4294967295 r (by decide) hr
      refine ⟨?_, rfl⟩
      show Ending.returned (Value.int .u32 (bits .xor .u32 IntKind.u32.max (r : Int))) = _
      rw [e9, HR.out]
      rfl
theorem sumAll_lt (bs : List Int) (r : Nat) (hr : r < 4294967296) (h : ∀ x ∈ bs, 0 ≤ x ∧ x < 256) : sumAll bs r < 4294967296 := by
  induction bs generalizing r with
  | nil => exact hr
  | cons x s ih => exact ih (sumStep r x) (step_lt hr (h x (by simp))) (fun y hy => h y (by simp [hy]))
theorem crc_lt (bs : List Int) (h : ∀ x ∈ bs, 0 ≤ x ∧ x < 256) : crc bs < 4294967296 := Nat.xor_lt_two_pow (n := 32) (by decide) (sumAll_lt bs _ (by decide) h)
end Go.Proofs.YtahhlmmdmjocdaaDoor
