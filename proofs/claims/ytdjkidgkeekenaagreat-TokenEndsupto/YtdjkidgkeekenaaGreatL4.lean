/- lay: a circle at its start. -/
import Derived.Test.YtdjkidgkeekenaaGreatL3
import Derived.Test.YtdjkidgkeekenaaGreatHold
import Derived.Deep.AppendLies
import Derived.Deep.Cut
import Derived.Deep.CutRange
namespace Go.Proofs.YtdjkidgkeekenaaGreat
open Go.RowKit Go.Lib
set_option linter.unusedVariables false
set_option linter.unusedSimpArgs false
theorem info38 : (Tryz.prog.info? 52).map (fun i => (i.zero, i.size, i.bytes)) = some (some (.pointer none), 1, 8) := by kernel_rfl
theorem info40 : (Tryz.prog.info? 85).map (fun i => (i.zero, i.size, i.bytes)) = some (some (.pointer none), 1, 8) := by kernel_rfl
theorem info50 : (Tryz.prog.info? 68).map (fun i => (i.zero, i.size, i.bytes)) = some (some (.pointer none), 1, 8) := by kernel_rfl
/-- A circle at its start. -/
def Ld (w : World) (ls : List (List Int)) (aw : List Int) (bu : Int) (e : Ending) (w' : World) : Prop :=
  ∃ (X b gc rb Y Z : Nat) (vP vN vG : Value) (qs ps : Nat → Nat) (sv : Nat → Value), e = .returned (.pointer (some ⟨X, 0, none⟩)) ∧ Below w.heap.size w w' ∧ w.heap.size ≤ Z ∧ w.heap.size ≤ b ∧ w.heap.size ≤ gc ∧
    AIs w' Y b gc (.slice none 0 0) { Ast.new (4 + ls.length) true with cells := cl0 ls.length } ∧ LX w w' X b rb Z vP vN vG ls.length ls.length ls.length qs ps ∧
    (∀ j, j < ls.length → w'.heap[qs j]? = some ((Nd.new ls aw bu j).obj (sv j)) ∧ Snd w' Z (sv j) (rowL ls j)) ∧ (∀ j, j < ls.length → w'.heap[ps j]? = some (PObj b j false)) ∧
    (∀ i j, i < j → j < ls.length → qs i ≠ qs j ∧ ps i ≠ ps j) ∧ (∀ j, j < ls.length → Z ≤ qs j ∧ Z ≤ ps j)
set_option maxRecDepth 100000 in
set_option maxHeartbeats 8000000 in
theorem lay_any (v0 v1 : Value) (b : Int) (ls : List (List Int)) (aw : List Int) (w : World) (hr : RwsI w v0 ls) (ha : RowAt .i64 w v1 aw) (hN : Bnd ls aw) (hck : CkA ls aw b 0) (hn1 : 1 ≤ ls.length) (hn64 : ls.length ≤ 64) :
    Calls Tryz.prog 8 #[.agg #[v0, v1, .int .i64 b]] w fun e w' => Ld w ls aw b e w' := by
  obtain ⟨so, sc, rfl, hsc⟩ := hr.shape
  obtain ⟨bo, bc, rfl⟩ := ha.shape
  have HCK := hide hck
  have HC21 := hide (fun W (hb : Below w.heap.size w W) => refCells_any _ _ b ls aw W (hr.below hb) (ha.below hb) hN)
  have HC22 := hide (fun W (x : Int) (hb : Below w.heap.size w W) => open_any _ _ b x ls aw W (hr.below hb) (ha.below hb) hN)
  have HC23 := hide (fun W (hb : Below w.heap.size w W) => twin_lo _ _ ls aw b W (hr.below hb) (ha.below hb) hN)
  have HC25 := hide (fun W G C g d (ht : TwM W G C g d ls aw) => cells_any _ _ b ls aw W ht.f.inc ht.a.row hN)
  have HBN := hide hN
  have HC26 := hide (fun W G C g d x (h1 : RwsI W (.slice (some ⟨G, 0, none⟩) ls.length C) ls) (h2 : RowAt .i64 W (.slice (some ⟨g, 0, none⟩) aw.length d) aw) (hx : x < ls.length) => nodeNew_full _ _ b x ls aw W h1 h2 hN hck hx)
  have HNEW := hide (fun W => new_any (4 + ls.length) true W (by omega))
  have HRN := hide (fun W => refNew_any (4 + ls.length) true W (by omega))
  have hsum : IntKind.i64.wrap (4 + (ls.length : Int)) = 4 + (ls.length : Int) := IntWalk.i64_in _ (by omega)
  have hcst : ((4 + ls.length : Nat) : Int) = 4 + (ls.length : Int) := by omega
  rw [hcst] at HNEW HRN
  obtain ⟨X0, hX0⟩ : ∃ X0, X0 = w.alloc (.cells #[.slice so ls.length sc, .slice bo aw.length bc, .int .i64 b] 25) := ⟨_, rfl⟩
  have HB := hide (show Below w.heap.size w X0 by rw [hX0]; exact below_alloc (Below.refl _ _) _)
  have HS0 := hide HB.out.size
  have HA := hide (show X0.heap[w.heap.size]? = some (.cells #[.slice so ls.length sc, .slice bo aw.length bc, .int .i64 b] 25 (0, 0)) by rw [hX0]; exact heap_new _ _)
  have HN1 := hide hn1; have HN64 := hide hn64
  have a0 := cell_of HA.out (i := 0) rfl
  clear hr ha hN hck hsc hcst hn1 hn64
  rw [hX0] at a0
  go_enter Tryz.func8, Tryz.ntmps8
  go_wp2_with fail
  rw [← hX0]
  clear hX0 a0
  refine (HNEW.out X0).mono ?_
  rintro e w1 ⟨rfl, ha1, hs1, hb1⟩
  have hpn : ∀ w, (binOp .eql 39 (.pointer (some ⟨X0.heap.size + 1, 0, none⟩)) (.pointer none)).run Tryz.prog w = .ok (.bool false) w := fun w => rfl
  replace HA := hide ((hb1.block _ (lt_of_heap HA.out)).trans HA.out)
  replace HB := hide (below_on HB.out hb1)
  have HAR := hide ha1
  have HS1 := hide hs1
  clear ha1 hs1 hb1 HNEW
  go_wp2_with fail
  refine (HRN.out w1).mono ?_
  rintro e w2 ⟨rfl, hr2, hs2, hb2⟩
  obtain ⟨w3, hw3⟩ : ∃ w3, w3 = w2.alloc (.cells #[.pointer (some ⟨X0.heap.size + 1, 0, none⟩), .slice none 0 0, .slice none 0 0, .pointer (some ⟨w1.heap.size + 1, 0, none⟩), .slice none 0 0] 45) := ⟨_, rfl⟩
  have hb3 : Below w2.heap.size w2 w3 := by rw [hw3]; exact below_alloc (Below.refl _ _) _
  have hb23 := below_on hb2 hb3
  have HS2 := hide hs2
  have HS3 := hide hb3.size
  have HXX := hide (show w3.heap[w2.heap.size]? = some (.cells #[.pointer (some ⟨X0.heap.size + 1, 0, none⟩), .slice none 0 0, .slice none 0 0, .pointer (some ⟨w1.heap.size + 1, 0, none⟩), .slice none 0 0] 45 (0, 0)) by rw [hw3]; exact heap_new _ _)
  replace HAR := hide (HAR.out.below hb23)
  have HRR := hide (hr2.below hb3)
  have HLO := hide (show w.heap.size ≤ X0.heap.size ∧ w.heap.size ≤ w1.heap.size ∧ X0.heap.size < w1.heap.size ∧ w.heap.size ≤ w2.heap.size from ⟨HS0.out, HB.out.size, by have := HS1.out; omega, Nat.le_trans HB.out.size hb2.size⟩)
  replace HA := hide ((hb23.block _ (lt_of_heap HA.out)).trans HA.out)
  replace HB := hide (below_on HB.out hb23)
  have a0 := cell_of HA.out (i := 0) rfl; have a1 := cell_of HA.out (i := 1) rfl; have a2 := cell_of HA.out (i := 2) rfl
  clear hr2 hb2 hb3 hb23 HRN hs2
  rw [hw3] at a0 a1 a2
  go_wp2_with fail
  rw [← hw3]
  clear hw3 a0 a1 a2
  refine (HC23.out w3 HB.out).mono ?_
  rintro e wt ⟨G, C, g, d, rfl, htw, hbt, hlo, hgl⟩
  obtain ⟨w5, hw5⟩ : ∃ w5, w5 = wt.alloc (.cells #[.slice (some ⟨G, 0, none⟩) ls.length C, .slice (some ⟨g, 0, none⟩) aw.length d, .int .i64 b] 25) := ⟨_, rfl⟩
  have hb5 : Below wt.heap.size wt w5 := by rw [hw5]; exact below_alloc (Below.refl _ _) _
  have hb35 := below_on hbt hb5
  have HK := hide (show TK w w5 wt.heap.size (.slice so ls.length sc) (.slice bo aw.length bc) G C g d ls aw b from ⟨below_on HB.out hb35, (hb35.block _ (lt_of_heap HA.out)).trans HA.out, by rw [hw5]; exact heap_new _ _, htw.below hb5⟩)
  have HM := hide (show LM w w5 wt.heap.size (.slice so ls.length sc) (.slice bo aw.length bc) G C g d ls aw b w2.heap.size (X0.heap.size + 1) X0.heap.size (w1.heap.size + 1) w1.heap.size (X0.heap.size + 2) (w1.heap.size + 2) (Ast.new (4 + ls.length) true) (Ast.new (4 + ls.length) true) (.slice none 0 0) (.slice none 0 0) (.slice none 0 0) from
    ⟨HK.out.tz ⟨(hlo.low HB.out.size).stay (hb5.block _ htw.f.gl), Nat.le_trans HB.out.size hgl⟩, (hb35.block _ (lt_of_heap HXX.out)).trans HXX.out, HAR.out.below hb35, HRR.out.below hb35, by have := HLO.out; omega, by have := HLO.out; omega⟩)
  have HSW := hide (show w1.heap.size + 2 ≤ w5.heap.size ∧ w2.heap.size < w5.heap.size from ⟨by have := HS2.out; have := hb35.size; have := HS3.out; omega, lt_of_heap ((hb35.block _ (lt_of_heap HXX.out)).trans HXX.out)⟩)
  obtain ⟨⟨t0, t1, t2⟩, _⟩ := HK.out.at
  rw [hw5] at t0 t1 t2
  clear htw hbt hlo hgl hb5 hb35 HA HXX HAR HRR HC23
  go_wp2_with fail
  rw [← hw5]
  clear hw5 t0 t1 t2
  refine (HC25.out w5 _ _ _ _ HK.out.m).mono ?_
  rintro e w6 ⟨hb6, u, L, r, rfl, hcl, hla⟩
  obtain rfl : r = 0 := hla.1.one HCK.out
  obtain rfl : L = cl0 ls.length := by
    rcases hla.2 with ⟨q, _⟩ | ⟨_, q⟩
    · exact (q rfl).elim
    · exact q
  replace HK := hide (HK.out.below hb6)
  replace HM := hide (HM.out.below hb6)
  have HV := hide hcl.rng
  have HSZ := hide hb6.size
  obtain ⟨_, ⟨a0, a1, a2⟩⟩ := HK.out.at
  clear hb6 hcl hla HC25
  go_wp2_with fail
  clear a0 a1 a2
  refine (HC21.out w6 HK.out.bel).mono ?_
  rintro e w7 ⟨hb7, u', L', r', rfl, hcl, hla⟩
  obtain rfl : r' = 0 := hla.1.one HCK.out
  obtain rfl : L' = cl0 ls.length := by
    rcases hla.2 with ⟨q, _⟩ | ⟨_, q⟩
    · exact (q rfl).elim
    · exact q
  replace HK := hide (HK.out.below hb7)
  replace HM := hide (HM.out.below hb7)
  replace HV := hide (HV.out.below hb7)
  have HV' := hide hcl.rng
  have hL68 : (cl0 ls.length).length = 4 + ls.length := cl0_len _
  have HLL := hide (show (cl0 ls.length).length ≤ 2000000 by have := HN64.out; omega)
  obtain ⟨o1, rfl⟩ := HV.out.shape
  obtain ⟨o2, rfl⟩ := HV'.out.shape
  have HCL := hide hL68
  clear hb7 hcl hla HC21 hL68
  go_wp2_with fail
  refine (sameWords_any _ _ (cl0 ls.length) w7 (HV.out.row HLL.out) (HV'.out.row HLL.out)).mono ?_
  rintro e w8 ⟨rfl, hb8⟩
  replace HK := hide (HK.out.below hb8)
  replace HM := hide (HM.out.below hb8)
  replace HV := hide (HV.out.below hb8)
  clear hb8 HV'
  obtain ⟨g8, hg8, hg8', ho1, _, hA8⟩ : ∃ g, w5.heap.size ≤ g ∧ g < w6.heap.size ∧ o1 = some ⟨g, 0, none⟩ ∧ 0 < (cl0 ls.length).length ∧ ArrU w8 g (cl0 ls.length) := by
    rcases HV.out with ⟨_, q⟩ | ⟨g, a1, a2, a3, a4, a5⟩
    · have := HCL.out; rw [q] at this; simp only [List.length_nil] at this; omega
    · simp only [Value.slice.injEq] at a3
      exact ⟨g, a1, a2, a3.1, a4, a5⟩
  subst ho1
  have HA8 := hide hA8
  have HG8 := hide (show X0.heap.size ≠ g8 ∧ w1.heap.size ≠ g8 ∧ X0.heap.size + 1 ≠ g8 by
    have := HSW.out; have := HS1.out; omega)
  have HL := hide (rfl : (cl0 ls.length) = cl0 ls.length)
  generalize hLL : cl0 ls.length = L at HA8 HCL HLL
  have HLEQ := hide hLL
  rw [HCL.out]
  obtain ⟨nn, hnn⟩ : ∃ nn, nn = 4 + ls.length := ⟨_, rfl⟩
  have HNN := hide hnn
  have hnn68 : nn ≤ 68 := by have := HN64.out; omega
  replace HM := hide (show LM w w8 wt.heap.size (.slice so ls.length sc) (.slice bo aw.length bc) G C g d ls aw b w2.heap.size (X0.heap.size + 1) X0.heap.size (w1.heap.size + 1) w1.heap.size (X0.heap.size + 2) (w1.heap.size + 2) { Ast.new (4 + ls.length) true with cells := pk L 0 } { Ast.new (4 + ls.length) true with cells := pk L 0 } (.slice none 0 0) (.slice none 0 0) (.slice none 0 0) from by
    have e : ({ Ast.new (4 + ls.length) true with cells := pk L 0 } : Ast) = Ast.new (4 + ls.length) true := by rw [pk_zero, HCL.out]; rfl
    rw [e]; exact HM.out)
  clear hA8 HV HSZ hLL hg8 hg8' HK hpn
  rw [← hnn]
  clear hnn
  obtain ⟨LMS, hLMS⟩ : ∃ LMS : World → Nat → Nat → Prop, LMS = fun wr i j => LM w wr wt.heap.size (.slice so ls.length sc) (.slice bo aw.length bc) G C g d ls aw b w2.heap.size (X0.heap.size + 1) X0.heap.size (w1.heap.size + 1) w1.heap.size (X0.heap.size + 2) (w1.heap.size + 2) { Ast.new (4 + ls.length) true with cells := pk L i } { Ast.new (4 + ls.length) true with cells := pk L j } (.slice none 0 0) (.slice none 0 0) (.slice none 0 0) := ⟨_, rfl⟩
  have HMM := hide (show LMS w8 0 0 by rw [hLMS]; exact HM.out)
  have HLD := hide hLMS
  have HPA := hide (show ∀ wr i, i < nn → LMS wr i i → Calls Tryz.prog 36 #[.pointer (some ⟨X0.heap.size + 1, 0, none⟩), .int .i64 i, .int .u64 (at_ L i)] wr fun r w' => r = .returned (.int .i64 0) ∧ LMS w' (i + 1) i ∧ Chg (fun k => k = X0.heap.size + 1 ∨ k = X0.heap.size) wr w' from fun wr i hi hm => by
    rw [HLD.out] at hm ⊢
    refine (poke_in _ _ _ _ _ i (at_ L i) wr hm.ar (by show i < (pk L i).length; rw [pk_len, HCL.out, ← HNN.out]; exact hi)).mono ?_
    rintro e w' ⟨rfl, ha, hc⟩
    refine ⟨rfl, ?_, hc⟩
    have := hm.pokeA ha hc
    simpa only [pk_set L i (by rw [HCL.out, ← HNN.out]; exact hi)] using this)
  have HPR := hide (show ∀ wr i, i < nn → LMS wr (i + 1) i → Calls Tryz.prog 37 #[.pointer (some ⟨w1.heap.size + 1, 0, none⟩), .int .i64 i, .int .u64 (at_ L i)] wr fun r w' => r = .returned (.int .i64 0) ∧ LMS w' (i + 1) (i + 1) ∧ Chg (fun k => k = w1.heap.size) wr w' from fun wr i hi hm => by
    rw [HLD.out] at hm ⊢
    refine (refPoke_in _ _ _ _ _ i (at_ L i) wr hm.rr (by show i < (pk L i).length; rw [pk_len, HCL.out, ← HNN.out]; exact hi)).mono ?_
    rintro e w' ⟨rfl, ha, hc⟩
    refine ⟨rfl, ?_, hc⟩
    have := hm.pokeR ha hc
    simpa only [pk_set L i (by rw [HCL.out, ← HNN.out]; exact hi)] using this)
  have HBX := hide (show ∀ wr i j, LMS wr i j → wr.heap[w2.heap.size]? = some (.cells #[.pointer (some ⟨X0.heap.size + 1, 0, none⟩), .slice none 0 0, .slice none 0 0, .pointer (some ⟨w1.heap.size + 1, 0, none⟩), .slice none 0 0] 45 (0, 0)) from fun wr i j hm => by
    rw [HLD.out] at hm; exact hm.x)
  have HBY := hide (show ∀ wr wr' i j, LMS wr i j → Below wr.heap.size wr wr' → LMS wr' i j from fun wr wr' i j hm hb => by
    rw [HLD.out] at hm ⊢; exact hm.below hb)
  have HCG : Hid (∀ wr w', ArrU wr g8 L → Chg (fun k => k = X0.heap.size + 1 ∨ k = X0.heap.size) wr w' → LMS wr 0 0 ∨ True → X0.heap.size + 1 ≠ g8 → ArrU w' g8 L) := hide (fun wr w' ha hc _ hne => hc.heap ha (fun e => by have := HG8.out; rcases e with e | e <;> omega))
  have HCR : Hid (∀ wr w', ArrU wr g8 L → Chg (fun k => k = w1.heap.size) wr w' → ArrU w' g8 L) := hide (fun wr w' ha hc => hc.heap ha (fun e => by have := HG8.out; omega))
  have HCell := hide (show ∀ wr i, i < nn → ArrU wr g8 L → wr.cell? ⟨g8, i, none⟩ = some (.int .u64 (at_ L i)) from fun wr i hi ha => ha.cell i (by rw [HCL.out, ← HNN.out]; exact hi))
  clear hLMS HM
  go_wp2_with fail
  go_loopw [11] (fun t wr => ∃ i : Nat, i ≤ nn ∧ t = .int .i64 (i : Int) ∧ LMS wr i i ∧ ArrU wr g8 L) (fun t _ => nn - (RowKit.intOf t).toNat)
  case atStart => exact ⟨0, Nat.zero_le _, rfl, HMM.out, HA8.out⟩
  case round =>
    obtain ⟨i, hin, rfl, hm, ha8⟩ := hrel
    have HM1 := hide hm; have HA1 := hide ha8
    clear HMM HA8 hm ha8
    by_cases hlt : i < nn
    · have hli : (i : Int) < (nn : Int) := by omega
      have x8 := HCell.out wr i hlt HA1.out
      have HPC := hide (HPA.out wr i hlt HM1.out)
      have HAT := hide (rfl : at_ L i = at_ L i)
      obtain ⟨x, hx⟩ : ∃ x, x = at_ L i := ⟨_, rfl⟩
      have HXE := hide hx
      rw [← hx] at x8 HPC
      clear hx
      go_wp2_with fail
      refine HPC.out.mono ?_
      rintro e wa ⟨rfl, hma, hca⟩
      have HM2 := hide hma
      have HA2 := hide (HCG.out _ _ HA1.out hca (.inr trivial) (by have := HG8.out; omega))
      have HPD := hide (fun X (k : Below wa.heap.size wa X) => HPR.out X i hlt (HBY.out wa X _ _ HM2.out k))
      rw [← HXE.out] at HPD
      have hq := HBX.out _ _ _ HM2.out
      have z3 : wa.cell? ⟨w2.heap.size, 3, none⟩ = some (.pointer (some ⟨w1.heap.size + 1, 0, none⟩)) := cell_of hq rfl
      have z8 : wa.cell? ⟨g8, i, none⟩ = some (.int .u64 x) := by rw [HXE.out]; exact HCell.out wa i hlt HA2.out
      clear hma hca hq x8 HPC
      go_wp2_with fail
      refine wp_region_noPanic ?_
      go_region_held3 (fun x' => x'.cell? ⟨w2.heap.size, 3, none⟩ = some (.pointer (some ⟨w1.heap.size + 1, 0, none⟩)) ∧ x'.cell? ⟨g8, i, none⟩ = some (.int .u64 x)) (first | with_reducible exact ⟨y3, y8⟩ | go_keep)
        (first
          | (go_at_call 37; refine (HPD.out _ (below_drew (Below.refl _ _))).mono ?_; rintro e wb ⟨rfl, hmb, hcb⟩; have HM3 := hide hmb; have hA3 := HCR.out _ _ (HA2.out.below (below_drew (Below.refl _ _)) (lt_of_heap HA2.out)) hcb; have y3 : wb.cell? ⟨w2.heap.size, 3, none⟩ = some (.pointer (some ⟨w1.heap.size + 1, 0, none⟩)) := cell_of (HBX.out _ _ _ hmb) rfl; have y8 : wb.cell? ⟨g8, i, none⟩ = some (.int .u64 x) := (by rw [HXE.out]; exact HCell.out wb i hlt hA3); have HA3 := hide hA3; clear hmb hcb hA3)
          | fail)
      all_goals
        refine NoPanic.normal ?_
        go_wp2_with fail
        exact ⟨⟨i + 1, hlt, by simp, HM3.out, HA3.out⟩, mdecR hlt⟩
    · obtain rfl : i = nn := by omega
      obtain ⟨i38, hi38, hz380, hz381, hz382⟩ := info_parts info38
      obtain ⟨i40, hi40, hz400, hz401, hz402⟩ := info_parts info40
      obtain ⟨i50, hi50, hz500, hz501, hz502⟩ := info_parts info50
      obtain ⟨wz, hwz⟩ : ∃ wz, wz = wr := ⟨_, rfl⟩
      have hLM := HM1.out
      rw [HLD.out] at hLM
      rw [← hwz] at hLM ⊢
      clear hwz
      have hsp : SpM wz (w.heap.size, wz.heap.size) G g ls aw.length := hLM.tz.sp
      have HLC : Hid (LC w wz wt.heap.size (.slice so ls.length sc) (.slice bo aw.length bc) G C g d ls aw b (X0.heap.size + 1) X0.heap.size (w1.heap.size + 1) w1.heap.size (X0.heap.size + 2) (w1.heap.size + 2) { Ast.new (4 + ls.length) true with cells := pk L i } { Ast.new (4 + ls.length) true with cells := pk L i } wz.heap.size 0 (fun _ => 0) (fun _ => 0) (fun _ => .nilFunc)) :=
        hide ⟨hLM.tz, hLM.ar, hLM.rr, ⟨hLM.low.2.1, hLM.low.2.2.1⟩, ⟨hLM.tz.bel.size, Nat.le_refl _⟩, hsp, fun j hj => absurd hj (Nat.not_lt_zero _), fun j hj => absurd hj (Nat.not_lt_zero _), fun i j hij hj => absurd hj (Nat.not_lt_zero _), fun j hj => absurd hj (Nat.not_lt_zero _)⟩
      have HLX : Hid (LX w wz w2.heap.size (X0.heap.size + 1) (w1.heap.size + 1) wz.heap.size (.slice none 0 0) (.slice none 0 0) (.slice none 0 0) 0 0 0 (fun _ => 0) (fun _ => 0)) :=
        hide ⟨hLM.x, ⟨hLM.low.1, lt_of_heap hLM.x⟩, World.ownsRow_nil _ _ _ _, World.ownsRow_nil _ _ _ _, [], World.ownsRow_nil _ _ _ _⟩
      obtain ⟨ss, hss⟩ : ∃ ss : Ast, ss = { Ast.new (4 + ls.length) true with cells := pk L i } := ⟨_, rfl⟩
      have HSS := hide hss
      rw [← hss] at HLC
      obtain ⟨N, hN⟩ : ∃ N, N = ls.length := ⟨_, rfl⟩
      have HNE := hide hN
      clear hLM hsp hss HM1 HA1 HLD HPA HPR HBX HBY HCG HCR HCell HB HG8 HSW HS0 HS1 HS2 HS3 HLO
      go_wp2_with fail
      go_loopw [12] (fun t wr => ∃ (k : Nat) (vP vN vG : Value) (qs ps : Nat → Nat) (sv : Nat → Value), k ≤ ls.length ∧ t = .int .i64 (k : Int) ∧
        Hid (LC w wr wt.heap.size (.slice so ls.length sc) (.slice bo aw.length bc) G C g d ls aw b (X0.heap.size + 1) X0.heap.size (w1.heap.size + 1) w1.heap.size (X0.heap.size + 2) (w1.heap.size + 2) ss ss wz.heap.size k qs ps sv) ∧
        Hid (LX w wr w2.heap.size (X0.heap.size + 1) (w1.heap.size + 1) wz.heap.size vP vN vG k k k qs ps)) (fun t _ => ls.length - (RowKit.intOf t).toNat)
      case atStart => exact ⟨0, _, _, _, _, _, _, Nat.zero_le _, rfl, HLC, HLX⟩
      case round =>
        obtain ⟨k, vP, vN, vG, qs, ps, sv, hkn, rfl, HC, HX⟩ := hrel
        clear HLC HLX
        have t0 : wr.cell? ⟨wt.heap.size, 0, none⟩ = some (.slice (some ⟨G, 0, none⟩) ls.length C) := cell_of HC.out.tz.t rfl
        have t1 : wr.cell? ⟨wt.heap.size, 1, none⟩ = some (.slice (some ⟨g, 0, none⟩) aw.length d) := cell_of HC.out.tz.t rfl
        have t2 : wr.cell? ⟨wt.heap.size, 2, none⟩ = some (.int .i64 b) := cell_of HC.out.tz.t rfl
        have hn64 := HN64.out
        by_cases hkl : k < ls.length
        · have hki : (k : Int) < (ls.length : Int) := by omega
          have H26 := hide (HC26.out wr G C g d k HC.out.tz.inc HC.out.tz.aw.row hkl)
          go_wp2_with fail
          refine H26.out.mono ?_
          rintro e wa ⟨q, vq, rfl, hnd, hsd, hql, hba⟩
          have HCa := hide (HC.out.below hba)
          have HXa := hide (HX.out.below hba)
          have HND := hide hnd; have HSD := hide (hsd.low HC.out.zr.2)
          have HQL := hide (Nat.le_trans HC.out.zr.2 hql)
          have HQN := hide (show ∀ j, j < k → qs j ≠ q from fun j hj e => by
            have := lt_of_heap (HC.out.nd j hj).1; omega)
          have HBA := hide hba
          clear t0 t1 t2 hnd hsd hql hba H26
          go_wp2_with fail
          refine (port_any (X0.heap.size + 1) (k : Int) wa (by omega)).mono ?_
          rintro e wb ⟨rfl, hwb⟩
          have hbb : Below wa.heap.size wa wb := by rw [hwb]; exact below_alloc (Below.refl _ _) _
          have HPO := hide (show wb.heap[wa.heap.size]? = some (PObj (X0.heap.size + 1) (k : Int) false) by rw [hwb]; exact heap_new _ _)
          have HPN := hide (show ∀ j, j < k → ps j ≠ wa.heap.size from fun j hj e => by
            have := lt_of_heap (HCa.out.po j hj); omega)
          have HPL := hide (HCa.out.zr.2)
          have HCb := hide (HCa.out.below hbb)
          have HXb := hide (HXa.out.below hbb)
          have HNDb := hide ((hbb.block _ (lt_of_heap HND.out)).trans HND.out)
          have HSDb := hide (HSD.out.below hbb)
          have u0 : wb.cell? ⟨w.heap.size, 0, none⟩ = some (.slice so ls.length sc) := cell_of HCb.out.tz.a rfl
          have u1 : wb.cell? ⟨w.heap.size, 1, none⟩ = some (.slice bo aw.length bc) := cell_of HCb.out.tz.a rfl
          have u2 : wb.cell? ⟨w.heap.size, 2, none⟩ = some (.int .i64 b) := cell_of HCb.out.tz.a rfl
          clear hwb hbb
          go_wp2_with fail
          refine (HC22.out wb (k : Int) HCb.out.tz.bel).mono ?_
          rintro e wc ⟨hbc, pr, r, rfl, hop, hrt⟩
          obtain rfl : r = 0 := hop.one (.inr ⟨HCK.out, .inr ⟨⟨by omega, hki⟩, rfl⟩⟩)
          obtain ⟨rB, _, rfl, _, _⟩ := hrt rfl
          have HCc := hide ((HCb.out.below hbc).more ((hbc.block _ (lt_of_heap HNDb.out)).trans HNDb.out) (HSDb.out.below hbc) ((hbc.block _ (lt_of_heap HPO.out)).trans HPO.out) HQN.out HPN.out ⟨HQL.out, HPL.out⟩)
          have HXc := hide (((HXb.out.below hbc).upd (m := k) (q := q) (p := wa.heap.size) (Nat.le_refl _) (Nat.le_refl _)))
          have hpn1 : ∀ w, (binOp .eql 52 (.pointer (some ⟨q, 0, none⟩)) (.pointer none)).run Tryz.prog w = .ok (.bool false) w := fun w => rfl
          have hpn2 : ∀ w, (binOp .eql 85 (.pointer (some ⟨wa.heap.size, 0, none⟩)) (.pointer none)).run Tryz.prog w = .ok (.bool false) w := fun w => rfl
          have HWA := hide (rfl : wa.heap.size = wa.heap.size)
          generalize wa.heap.size = p at *
          obtain ⟨oP, cP, hvP⟩ := owns_shape HXc.out.p
          obtain ⟨oN, cN, hvN⟩ := owns_shape HXc.out.n
          obtain ⟨valsG, hvalsG⟩ := HXc.out.g
          obtain ⟨oG, cG, hvG⟩ := owns_shape hvalsG
          subst hvP hvN hvG
          clear hvalsG valsG
          clear u0 u1 u2 hbc hop hrt HCb HXb HNDb HSDb HPO HPN HPL HCa HXa HND HSD HQL HQN HBA HC HX
          have s2 : wc.cell? ⟨w2.heap.size, 2, none⟩ = some (.slice oN k cN) := cell_of HXc.out.x rfl
          go_upto_region 25 with (first
            | (at_builtin; refine wpList_append_lies _ rfl (.tmp 124) (.tmp 126) 41 rfl wz.heap.size 52 i38 (.pointer none) 1 8 Tryz.underlying41 hi38 hz380 hz381 hz382 rfl (by decide) _ k _ rfl (HXc.out.n.alloc _) ⟨wc.heap.size, 0, none⟩ 1 1 [.pointer (some ⟨q, 0, none⟩)] rfl rfl (arr_at wc _ _) (by simp [Value.oneCell']) (by omega) (by unfold maxLen; omega) (by omega) (by have := HCc.out.zr.2; simp; omega) _ rfl ?_; intro gN dN wd hown hgr _ _; obtain ⟨hxs, hlx, hch⟩ := HXc.out.pushN (g2 := gN) (c2 := dN) rfl (by rw [show ptr (upd qs k q k) = .pointer (some ⟨q, 0, none⟩) by rw [upd_same]; rfl]; exact hown) (by rw [show ptr (upd qs k q k) = .pointer (some ⟨q, 0, none⟩) by rw [upd_same]; rfl]; exact hgr) HCc.out.zr.2; have HXd := hide hlx; have HCd := hide (HCc.out.far hch (fun j hj hS => ⟨(by rcases hS with e | e; exact (by rw [e]; exact HXc.out.xl.1); exact Nat.le_trans HCc.out.zr.1 ((HXc.out.n).lt j e).1), (by rcases hS with e | e; exact ⟨_, _, (by rw [e]; exact HXc.out.x), .inl rfl⟩; exact (by obtain ⟨_, _, cs, h3⟩ := own_ty HXc.out.n e; exact ⟨cs, _, h3, (by unfold okT; decide)⟩))⟩)); have hxd := hxs.trans HXc.out.x; have d2 := cell_of hxd (i := 2) rfl; have df2 := free_of hxd 2; clear hown hgr hxs hlx hch)
            | fail)
          generalize (wd.setCell ⟨w2.heap.size, 2, none⟩ (.slice (some ⟨gN, 0, none⟩) (k + 1) dN)) = we at HXd HCd ⊢
          clear s2 d2 df2 hxd HXc HCc
          have s1 : we.cell? ⟨w2.heap.size, 1, none⟩ = some (.slice oP k cP) := cell_of HXd.out.x rfl
          go_upto_region 26 with (first
            | (at_builtin; refine wpList_append_lies _ rfl (.tmp 134) (.tmp 136) 40 rfl wz.heap.size 85 i40 (.pointer none) 1 8 Tryz.underlying40 hi40 hz400 hz401 hz402 rfl (by decide) _ k _ rfl (HXd.out.p.alloc _) ⟨we.heap.size, 0, none⟩ 1 1 [.pointer (some ⟨p, 0, none⟩)] rfl rfl (arr_at we _ _) (by simp [Value.oneCell']) (by omega) (by unfold maxLen; omega) (by omega) (by have := HCd.out.zr.2; simp; omega) _ rfl ?_; intro gP dP wf hown hgr _ _; obtain ⟨hxs, hlx, hch⟩ := HXd.out.pushP (g2 := gP) (c2 := dP) rfl (by rw [show ptr (upd ps k p k) = .pointer (some ⟨p, 0, none⟩) by rw [upd_same]; rfl]; exact hown) (by rw [show ptr (upd ps k p k) = .pointer (some ⟨p, 0, none⟩) by rw [upd_same]; rfl]; exact hgr) HCd.out.zr.2; have HXe := hide hlx; have HCe := hide (HCd.out.far hch (fun j hj hS => ⟨(by rcases hS with e | e; exact (by rw [e]; exact HXd.out.xl.1); exact Nat.le_trans HCd.out.zr.1 ((HXd.out.p).lt j e).1), (by rcases hS with e | e; exact ⟨_, _, (by rw [e]; exact HXd.out.x), .inl rfl⟩; exact (by obtain ⟨_, _, cs, h3⟩ := own_ty HXd.out.p e; exact ⟨cs, _, h3, (by unfold okT; decide)⟩))⟩)); have hxe := hxs.trans HXd.out.x; have d1 := cell_of hxe (i := 1) rfl; have df1 := free_of hxe 1; clear hown hgr hxs hlx hch)
            | fail)
          generalize (wf.setCell ⟨w2.heap.size, 1, none⟩ (.slice (some ⟨gP, 0, none⟩) (k + 1) dP)) = wg at HXe HCe ⊢
          clear s1 d1 df1 hxe HXd HCd
          obtain ⟨valsG, hvalsG⟩ := HXe.out.g
          have HOG := hide hvalsG
          clear hvalsG
          have s4 : wg.cell? ⟨w2.heap.size, 4, none⟩ = some (.slice oG k cG) := cell_of HXe.out.x rfl
          go_upto_region 18 with (first
            | (at_builtin; refine wpList_append_lies _ rfl (.tmp 144) (.tmp 146) 43 rfl wz.heap.size 68 i50 (.pointer none) 1 8 Tryz.underlying43 hi50 hz500 hz501 hz502 rfl (by decide) _ k _ rfl (HOG.out.alloc _) ⟨wg.heap.size, 0, none⟩ 1 1 [.pointer (some ⟨rB, 0, none⟩)] rfl rfl (arr_at wg _ _) (by simp [Value.oneCell']) (by omega) (by unfold maxLen; omega) (by omega) (by have := HCe.out.zr.2; simp; omega) _ rfl ?_; intro gG dG wh hown hgr _ _; obtain ⟨hxs, hlx, hch⟩ := HXe.out.pushG HOG.out (g2 := gG) (c2 := dG) rfl hown hgr HCe.out.zr.2; have HXf := hide hlx; have HCf := hide (HCe.out.far hch (fun j hj hS => ⟨(by rcases hS with e | e; exact (by rw [e]; exact HXe.out.xl.1); exact Nat.le_trans HCe.out.zr.1 ((HOG.out).lt j e).1), (by rcases hS with e | e; exact ⟨_, _, (by rw [e]; exact HXe.out.x), .inl rfl⟩; exact (by obtain ⟨_, _, cs, h3⟩ := own_ty HOG.out e; exact ⟨cs, _, h3, (by unfold okT; decide)⟩))⟩)); have hxf := hxs.trans HXe.out.x; have d4 := cell_of hxf (i := 4) rfl; have df4 := free_of hxf 4; clear hown hgr hxs hlx hch)
            | fail)
          generalize (wh.setCell ⟨w2.heap.size, 4, none⟩ (.slice (some ⟨gG, 0, none⟩) (k + 1) dG)) = wi at HXf HCf ⊢
          clear s4 d4 df4 hxf HXe HCe
          go_wp2_with fail
          exact ⟨⟨k + 1, _, _, _, _, _, _, hkl, by simp, HCf, HXf⟩, mdecR hkl⟩
        · obtain rfl : k = ls.length := by omega
          have HSPO := hide (spoil_any (w.heap.size, wz.heap.size) G C g d aw.length b ls wr HC.out.zr.2 HC.out.sp hn64 HBN.out.r HBN.out.a)
          go_wp2_with fail
          refine HSPO.out.mono ?_
          rintro e wv ⟨rfl, hch⟩
          have HCH := hide hch
          clear hch HSPO t0 t1 t2
          go_wp2_with fail
          go_ret
          have hc := HCH.out
          have hC := HC.out
          have hX := HX.out
          have no : ∀ {j : Nat} {cs : Array Value} {t : TypeId}, wr.heap[j]? = some (.cells cs t (0, 0)) → t ≠ 3 → wv.heap[j]? = wr.heap[j]? := fun {j cs t} hj ht => hc.block _ (lt_of_heap hj) (fun e => by
            obtain ⟨_, cs', h'⟩ := e
            exact ht (ty_of h' hj))
          have no2 : ∀ {j : Nat} {cs : Array Value}, wz.heap.size ≤ j → wr.heap[j]? = some (.cells cs 3 (0, 0)) → wv.heap[j]? = wr.heap[j]? := fun {j cs} hl hj => hc.block _ (lt_of_heap hj) (fun e => by have := e.1.2; simp only at this; omega)
          have rows : ∀ {t : TypeId} {v : Value} {m : Nat} {xs : List Value}, t ≠ 3 → wr.ownsRow wz.heap.size t 1 v m xs → wv.ownsRow wz.heap.size t 1 v m xs := fun ht ho => own_stayR ho (fun j hj => by
            obtain ⟨_, _, cs, h3⟩ := own_ty ho hj
            exact no h3 ht)
          have hcc : ({ Ast.new (4 + ls.length) true with cells := cl0 ls.length } : Ast) = ss := by
            rw [HSS.out, show i = L.length by rw [HCL.out, ← HNN.out], pk_full, ← HLEQ.out]
          refine ⟨w2.heap.size, X0.heap.size + 1, X0.heap.size, w1.heap.size + 1, X0.heap.size + 2, wz.heap.size, vP, vN, vG, qs, ps, sv, rfl, hc.below hC.tz.bel (fun j hj => ?_) hC.tz.bel.size, hC.zr.1, hC.low.1, hC.low.2, ?_, ⟨(no hX.x (by decide)).trans hX.x, hX.xl, rows (by decide) hX.p, rows (by decide) hX.n, by obtain ⟨vals, hv⟩ := hX.g; exact ⟨vals, rows (by decide) hv⟩⟩, fun j hj => ?_, fun j hj => ?_, hC.inj, hC.lo⟩
          · exact hj.1.1
          · rw [hcc]
            exact hC.ar.kept hc (fun e => by obtain ⟨_, cs', h'⟩ := e; exact absurd (ty_of h' hC.ar.hb) (by decide)) (fun e => by obtain ⟨_, cs', h'⟩ := e; exact absurd (ty_of h' hC.ar.hc) (by decide)) (fun i hi => by cases hi)
          · obtain ⟨h1, h2⟩ := hC.nd j hj
            refine ⟨(no h1 (by decide)).trans h1, h2.stay fun gg hg => ?_⟩
            obtain ⟨cs, ht⟩ := h2.typ hg
            exact no2 (h2.lt gg hg).1 ht
          · have h1 := hC.po j hj
            exact (no h1 (by decide)).trans h1
end Go.Proofs.YtdjkidgkeekenaaGreat
