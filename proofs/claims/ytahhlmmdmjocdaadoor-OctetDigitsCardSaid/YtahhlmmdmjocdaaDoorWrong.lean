/- Sealed, where the sum is not right. -/
import Derived.Test.YtahhlmmdmjocdaaDoorSealed
namespace Go.Proofs.YtahhlmmdmjocdaaDoor
open Go.RowKit Go.Lib
set_option linter.unusedVariables false

theorem sub_row {w : World} {g n c f p : Nat} {bs : List Int} (h : RowAt .u8 w (.slice (some ⟨g, 0, none⟩) n c) bs) (hf : f ≤ p) (hp : p ≤ bs.length) : RowAt .u8 w (.slice (some ⟨g, f, none⟩) (p - f) (c - f)) ((bs.take p).drop f) := by
  obtain ⟨ao', c', he, h1, h2, h3, h4⟩ := h
  simp only [Value.slice.injEq] at he
  obtain ⟨rfl, _, rfl⟩ := he
  have hl : ((bs.take p).drop f).length = p - f := by rw [List.length_drop, List.length_take]; omega
  refine ⟨_, c - f, by rw [hl], by omega, by omega, (fun e => by cases e), fun a ha i hi => ?_⟩
  cases ha
  rw [hl] at hi
  have h5 := h4 _ rfl (f + i) (by omega)
  rw [Addr.add_lit, Nat.zero_add] at h5
  rw [Addr.add_lit, h5]
  simp [List.getD, List.getElem?_drop, List.getElem?_take_of_lt (show f + i < p by omega)]

set_option maxRecDepth 100000 in
set_option maxHeartbeats 2000000 in
theorem sealed_wrong (w : World) (r p f : Nat) (bs : List Int) (l : List Nat) (h : RdIs w r bs p) (hl : (bs.drop p).take 4 = l.map (fun (n : Nat) => (n : Int))) (hls : l.length = 4) (hby : ∀ b ∈ l, b < 256) (hps : p + 4 ≤ bs.length) (hbig : bs.length ≤ 175921860444160)
    (hf : f ≤ p) (hs : SumsAt w) (hr0 : 0 < r) (hbb : ∀ x ∈ bs, 0 ≤ x ∧ x < 256) (hne : vals8 l ≠ crc ((bs.take p).drop f)) :
    Calls Tryd.prog 17 #[.pointer (some ⟨r, 0, none⟩), .int .i64 f] w fun e w' => e = .returned (.int .i64 43) ∧ RdIs w' r bs p ∧ But r w w' := by
  have HW := hide (rword_any w r p 4 bs l h hl hls hby (by omega) (by omega) hps hbig)
  have HS := hide hs
  have H := hide h
  obtain ⟨ao, c, hh, hrow, hao⟩ := h
  have c0 := cell_of hh (i := 0) rfl
  have c1 := cell_of hh (i := 1) rfl
  have HNE := hide hne
  have HBB := hide hbb
  clear hh hrow hao hl hls hby hs hne hbb
  go_enter Tryd.func17, Tryd.ntmps17
  go_wp2_with fail
  refine HW.out.mono ?_
  rintro e w1 ⟨rfl, hrd, hbut⟩
  have HRD := hide hrd
  obtain ⟨ao1, cc, hh1, hrow1, hao1⟩ := hrd
  obtain ⟨g, rfl, hgr⟩ : ∃ g, ao1 = some ⟨g, 0, none⟩ ∧ g ≠ r := by
    rcases hao1 with rfl | hg
    · obtain ⟨ao', c', he, k1, _, k3, _⟩ := hrow1
      simp only [Value.slice.injEq] at he
      obtain ⟨rfl, _, rfl⟩ := he
      have := k3 rfl
      omega
    · exact hg
  have hcl : bs.length ≤ cc := by
    obtain ⟨ao', c', he, k1, _⟩ := hrow1
    simp only [Value.slice.injEq] at he
    obtain ⟨_, _, rfl⟩ := he
    exact k1
  have hs1 : SumsAt w1 := ⟨Nat.lt_of_lt_of_le HS.out.1 hbut.size, fun i hi => by
    have h5 := HS.out.2 i hi
    rw [← h5]
    unfold World.cell?
    rw [hbut.block 0 HS.out.1 (by omega)]⟩
  have HCR := hide (crc_any _ _ w1 (sub_row hrow1 hf (by omega)) hs1 (fun x hx => HBB.out x (List.mem_of_mem_take (List.mem_of_mem_drop hx))) (by rw [List.length_drop, List.length_take]; omega))
  have e0 := cell_of hh1 (i := 0) rfl
  have e1 := cell_of hh1 (i := 1) rfl
  have f1 := free_of hh1 1
  have HBT := hide hbut
  obtain ⟨V, hV⟩ : ∃ V, V = vals8 l := ⟨_, rfl⟩
  obtain ⟨C, hC⟩ : ∃ C, C = crc ((bs.take p).drop f) := ⟨_, rfl⟩
  rw [← hC] at HCR
  rw [← hV]
  have hvc : ¬ (V : Int) = (C : Int) := by have h9 := HNE.out; rw [← hV, ← hC] at h9; omega
  have hcl2 : C < 4294967296 := by rw [hC]; exact crc_lt _ (fun x hx => HBB.out x (List.mem_of_mem_take (List.mem_of_mem_drop hx)))
  obtain ⟨L, hL⟩ : ∃ L, L = bs.length := ⟨_, rfl⟩
  rw [← hL] at hps hbig hcl e0
  have hfp : (f : Int) ≤ (p : Int) := by omega
  have hpc : (p : Int) ≤ (cc : Int) := by omega
  have hfc : ¬ f = cc := by omega
  clear hrow1 hao1 hh1 hs1 hbut hV hC hL c0 c1 HW
  go_wp2_with fail
  refine HCR.out.mono ?_
  rintro e w2 ⟨rfl, rfl⟩
  go_wp2
  go_ret
  have hz := rd_set HRD.out (q := p) (p : Int) rfl
  exact ⟨rfl, hz.1, HBT.out.trans hz.2⟩
end Go.Proofs.YtahhlmmdmjocdaaDoor
