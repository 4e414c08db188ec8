/- Word and Seal of the writer with their errors; Bytes of the reader, none of them. -/
import Derived.Test.YtpfpelhhebafeaaDoorSealedWalk
namespace Go.Proofs.YtpfpelhhebafeaaDoor
open Go.RowKit Go.Lib
set_option linter.unusedVariables false

set_option maxRecDepth 100000 in
theorem width_bad (s : Int) (w : World) (h : ¬ (1 ≤ s ∧ s ≤ 8)) : Calls Tryd.prog 40 #[.int .i64 s] w fun e w' => e = .returned (.bool false) ∧ w' = w := by
  have hh : s < 1 ∨ 8 < s := by omega
  clear h
  go_enter Tryd.func40, Tryd.ntmps40
  go_wp2
  all_goals first
    | (exfalso; omega)
    | (go_ret; exact ⟨rfl, rfl⟩)
    | (go_ret; refine ⟨?_, rfl⟩; show Ending.returned (Value.bool _) = _; congr 2; simp; omega)

set_option maxRecDepth 100000 in
theorem word_narrow (w : World) (b : Nat) (x s : Int) (h : ¬ (1 ≤ s ∧ s ≤ 8)) :
    Calls Tryd.prog 24 #[.pointer (some ⟨b, 0, none⟩), .int .u64 x, .int .i64 s] w fun e w' => e = .returned (.int .i64 4) ∧ w' = w := by
  have HW := hide (width_bad s w h)
  clear h
  go_enter Tryd.func24, Tryd.ntmps24
  go_wp2_with fail
  refine HW.out.mono ?_
  rintro e w' ⟨rfl, rfl⟩
  go_wp2
  go_ret
  exact ⟨rfl, rfl⟩
set_option maxRecDepth 100000 in
theorem word_big (w : World) (b x s : Nat) (h1 : 1 ≤ s) (h8 : s ≤ 8) (hx : x / 2 ^ (8 * s) ≠ 0) :
    Calls Tryd.prog 24 #[.pointer (some ⟨b, 0, none⟩), .int .u64 x, .int .i64 s] w fun e w' => e = .returned (.int .i64 4) ∧ w' = w := by
  have HW := hide (width_any s w h1 h8)
  have hx0 : (((x : Int) / 2 ^ (8 * s)) != 0) = true := by
    have e : (x : Int) / 2 ^ (8 * s) = ((x / 2 ^ (8 * s) : Nat) : Int) := by push_cast; rfl
    rw [e]
    simp
    omega
  clear hx
  go_enter Tryd.func24, Tryd.ntmps24
  go_wp2_with fail
  refine HW.out.mono ?_
  rintro e w' ⟨rfl, rfl⟩
  go_wp2
  all_goals
    go_ret
    exact ⟨rfl, rfl⟩

set_option maxRecDepth 100000 in
theorem seal_bad (w : World) (B b : Nat) (v : Value) (bs : List Int) (f : Int) (h : WOwn w B b v bs) (hf : ¬ (0 ≤ f ∧ f ≤ (bs.length : Int))) :
    Calls Tryd.prog 14 #[.pointer (some ⟨b, 0, none⟩), .int .i64 f] w fun e w' => e = .returned (.int .i64 6) ∧ w' = w := by
  have c0 := cell_of h.hb (i := 0) rfl
  obtain ⟨ao, c, rfl⟩ := own_shape h.own
  have hh : f < 0 ∨ (bs.length : Int) < f := by omega
  clear h hf
  go_enter Tryd.func14, Tryd.ntmps14
  go_wp2
  all_goals first
    | (exfalso; omega)
    | (go_ret; exact ⟨rfl, rfl⟩)

set_option maxRecDepth 100000 in
set_option maxHeartbeats 600000 in
theorem seal_from (w : World) (B b f : Nat) (v : Value) (bs : List Int) (h : WOwn w B b v bs) (hB : B ≤ w.heap.size) (hs : SumsAt w) (hby : ∀ x ∈ bs, 0 ≤ x ∧ x < 256) (hlen : bs.length ≤ 175921860444160) (hf : f ≤ bs.length) :
    Calls Tryd.prog 14 #[.pointer (some ⟨b, 0, none⟩), .int .i64 f] w fun e w' => e = .returned (.int .i64 0) ∧ ∃ v', WOwn w' B b v' (bs ++ le (crc (bs.drop f)) 4) ∧ Turn B b w w' := by
  have hbd : ∀ x ∈ bs.drop f, 0 ≤ x ∧ x < 256 := fun x hx => hby x (List.mem_of_mem_drop hx)
  have c0 := cell_of h.hb (i := 0) rfl
  have hrow : RowAt .u8 w v bs := RowAt.of_owns h.own
  have HO := hide h.own
  have HWD := hide (word_any w B b _ bs (crc (bs.drop f)) 4 h hB (by have := crc_lt _ hbd; omega) (by have := crc_lt _ hbd; exact Nat.div_eq_of_lt (by simpa using this)) (by omega) (by omega) (by omega))
  have hcl := crc_lt _ hbd
  obtain ⟨ao, c, rfl, k1, k2, k3, k4⟩ := hrow
  have hdl : (bs.drop f).length = bs.length - f := List.length_drop ..
  have HCR : Hid (∀ a : Option Addr, (a = ao ∧ f = 0) ∨ (∃ g, a = some ⟨g, f, none⟩ ∧ ao = some ⟨g, 0, none⟩) ∨ (f = bs.length ∧ ∃ g, a = some ⟨g, 0, none⟩) → Calls Tryd.prog 34 #[.slice a (bs.length - f) (c - f)] w fun e w' => e = .returned (.int .u32 ((crc (bs.drop f) : Nat) : Int)) ∧ w' = w) := by
    intro a ha
    refine crc_any _ (bs.drop f) w ⟨a, c - f, by rw [hdl], by rw [hdl]; omega, by omega, ?_, fun a' ha' i hi => ?_⟩ hs hbd (by rw [hdl]; omega)
    · intro hn
      rcases ha with ⟨rfl, h0⟩ | ⟨g, rfl, _⟩ | ⟨_, g, rfl⟩
      · rw [k3 hn, Nat.zero_sub]
      · cases hn
      · cases hn
    · rw [hdl] at hi
      have hgd : (bs.drop f).getD i 0 = bs.getD (f + i) 0 := by simp [List.getD, List.getElem?_drop]
      rw [hgd]
      rcases ha with ⟨rfl, rfl⟩ | ⟨g, rfl, rfl⟩ | ⟨h0, g, rfl⟩
      · rw [Nat.zero_add]; exact k4 a' ha' i (by omega)
      · cases ha'
        have := k4 _ rfl (f + i) (by omega)
        rw [Addr.add_lit, Nat.zero_add] at this
        rw [Addr.add_lit]
        exact this
      · omega
  obtain ⟨cr, hcr⟩ : ∃ cr, cr = crc (bs.drop f) := ⟨_, rfl⟩
  rw [← hcr] at HCR HWD hcl ⊢
  obtain ⟨L, hL⟩ : ∃ L, L = bs.length := ⟨_, rfl⟩
  rw [← hL] at c0 k1 HCR hlen hf
  have hfL : (f : Int) ≤ (L : Int) := by omega
  have hLc : (L : Int) ≤ (c : Int) := by omega
  clear h hcr k4 hbd hdl hL hby hs
  cases ao with
  | none =>
    obtain rfl := k3 rfl
    obtain rfl : L = 0 := by omega
    obtain rfl : f = 0 := by omega
    have HC2 := hide (HCR.out none (.inl ⟨rfl, rfl⟩))
    rw [Nat.sub_self] at HC2
    clear k3 HCR
    go_enter Tryd.func14, Tryd.ntmps14
    go_wp2_with fail
    refine HC2.out.mono ?_
    rintro e w1 ⟨rfl, rfl⟩
    go_wp2_with fail
    refine HWD.out.mono ?_
    rintro e w2 ⟨rfl, v', hw, ht⟩
    have HW := hide (And.intro hw ht)
    clear hw ht
    go_wp2
    go_ret
    exact ⟨rfl, v', HW.out.1, HW.out.2⟩
  | some a =>
    obtain ⟨g, rfl⟩ : ∃ g, a = ⟨g, 0, none⟩ := by
      obtain ⟨_, ⟨he, _⟩ | ⟨g', cap', cur', he, _⟩⟩ := HO.out
      · simp at he
      · simp only [Value.slice.injEq, Option.some.injEq] at he; exact ⟨g', he.1⟩
    clear k3
    by_cases hcf : c = f
    · have HC2 := hide (HCR.out (some ⟨g, 0, none⟩) (.inr (.inr ⟨by omega, g, rfl⟩)))
      have hcf2 : f = c := hcf.symm
      subst hcf2
      obtain rfl : L = f := by omega
      rw [Nat.sub_self] at HC2
      clear HCR hcf
      go_enter Tryd.func14, Tryd.ntmps14
      go_wp2_with fail
      refine HC2.out.mono ?_
      rintro e w1 ⟨rfl, rfl⟩
      go_wp2_with fail
      refine HWD.out.mono ?_
      rintro e w2 ⟨rfl, v', hw, ht⟩
      have HW := hide (And.intro hw ht)
      clear hw ht
      go_wp2
      go_ret
      exact ⟨rfl, v', HW.out.1, HW.out.2⟩
    · have HC2 := hide (HCR.out (some ⟨g, f, none⟩) (.inr (.inl ⟨g, rfl, rfl⟩)))
      clear HCR
      go_enter Tryd.func14, Tryd.ntmps14
      go_wp2_with fail
      refine HC2.out.mono ?_
      rintro e w1 ⟨rfl, rfl⟩
      go_wp2_with fail
      refine HWD.out.mono ?_
      rintro e w2 ⟨rfl, v', hw, ht⟩
      have HW := hide (And.intro hw ht)
      clear hw ht
      go_wp2
      go_ret
      exact ⟨rfl, v', HW.out.1, HW.out.2⟩
set_option maxRecDepth 100000 in
theorem wlen_any (w : World) (B b : Nat) (v : Value) (bs : List Int) (h : WOwn w B b v bs) : Calls Tryd.prog 23 #[.pointer (some ⟨b, 0, none⟩)] w fun e w' => e = .returned (.int .i64 (bs.length : Int)) ∧ w' = w := by
  have c0 := cell_of h.hb (i := 0) rfl
  obtain ⟨ao, c, rfl⟩ := own_shape h.own
  clear h
  go_enter Tryd.func23, Tryd.ntmps23
  go_wp2
  go_ret
  exact ⟨rfl, rfl⟩
end Go.Proofs.YtpfpelhhebafeaaDoor
