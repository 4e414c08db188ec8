/- anew: a sum hangs on what the list holds. -/
import Derived.Test.YtpfpelhhebafeaaDoorFrA
namespace Go.Proofs.YtpfpelhhebafeaaDoor
open Go.RowKit Go.Lib
set_option linter.unusedVariables false
set_option linter.unusedSimpArgs false
/-- A row of one's own that is not empty lies in a block. -/
theorem own_spot {X : World} {B : Nat} {a : Option Addr} {n c : Nat} {cs : List Int} (h : X.ownsRow B 5 1 (.slice a n c) n (cs.map (Value.int .u8))) (hn : 0 < n) : ∃ g, a = some ⟨g, 0, none⟩ ∧ cs.length = n ∧ Own8 X B g c cs := by
  have hl : cs.length = n := by have := h.1; simpa using this
  obtain ⟨h0, ⟨he, hz⟩ | ⟨g, cap, cur, he, hr⟩⟩ := id h
  · omega
  · simp only [Value.slice.injEq] at he
    obtain ⟨rfl, _, rfl⟩ := he
    refine ⟨g, rfl, hl, ⟨?_⟩⟩
    rw [hl]
    exact h
theorem byt_set {cs : List Int} (h : Byt cs) (k : Nat) (y : Int) (hy : 0 ≤ y ∧ y < 256) : Byt (cs.set k y) := by
  intro x hx
  rcases List.mem_or_eq_of_mem_set hx with h1 | rfl
  · exact h x h1
  · exact hy
theorem mdecF {i n : Nat} (h : i < n) : n - (RowKit.intOf (Value.int .i64 ((i : Int) + 1))).toNat < n - (RowKit.intOf (Value.int .i64 (i : Int))).toNat := by
  simp [RowKit.intOf]; omega
set_option maxRecDepth 100000 in
set_option maxHeartbeats 4000000 in
theorem anew_any (v : Value) (bs : List Int) (w : World) (h : RowAt .u8 w v bs) (hs : SumsAt w) (hby : Byt bs) (hbig : bs.length ≤ 140737488351232) :
    Calls Tryd.prog 29 #[v] w fun e w' => e = .returned (.bool true) ∧ Below w.heap.size w w' := by
  have HX := hide h
  have HS := hide hs
  have HBY := hide hby
  obtain ⟨ax, cx, rfl⟩ : ∃ ao c, v = .slice ao bs.length c := by obtain ⟨ao, c, h, _⟩ := h; exact ⟨ao, c, h⟩
  have hal : Below w.heap.size w (w.alloc (.cells #[] 5)) := (Below.refl _ _).alloc (Nat.le_refl _) _
  have HO1 : Hid ((w.alloc (.cells #[] 5)).ownsRow w.heap.size 5 1 (.slice (some ⟨w.heap.size, 0, none⟩) 0 0) ([] : List Int).length (([] : List Int).map (Value.int .u8))) := World.ownsRow_made w #[] 0 (Nat.le_refl _) (Nat.zero_le _) rfl
  obtain ⟨a1, c1, w2, hr1, ho1, hb2⟩ := run_app8 (w.alloc (.cells #[] 5)) 22 w.heap.size _ [] _ bs HO1.out hal.size (HX.out.below hal) (by simp; omega)
  rw [List.nil_append] at hr1 ho1
  have HB2 := hide (hal.trans hb2)
  have HR1 := hide hr1
  have HC0 := hide (crc_any _ bs w2 (RowAt.of_owns ho1) (HS.out.below HB2.out) HBY.out (by omega))
  have HCB : Hid (∀ W, Below w.heap.size w W → Calls Tryd.prog 34 _ W _) := fun W hW => crc_any _ bs W (HX.out.below hW) (HS.out.below hW) HBY.out (by omega)
  have HCC : Hid (∀ B ax cx W (cs : List Int), W.ownsRow B 5 1 (.slice ax cs.length cx) cs.length (cs.map (Value.int .u8)) → Byt cs → cs.length ≤ 140737488351232 → Below w.heap.size w W → Calls Tryd.prog 34 _ W _) := fun B ax cx W cs hc hb hl hW => crc_any (.slice ax cs.length cx) cs W (RowAt.of_owns hc) (HS.out.below hW) hb (by omega)
  have HAP : Hid (∀ ax cx W (cs : List Int), W.ownsRow w.heap.size 5 1 (.slice ax cs.length cx) cs.length (cs.map (Value.int .u8)) → cs.length ≤ 140737488351232 → ∃ ao c w', (Builtin.append_ #[22, 22] 22 #[.slice (some ⟨W.heap.size, 0, none⟩) 0 0, .slice ax cs.length cx]).run Tryd.prog (W.alloc (.cells #[] 5)) = .ok (.slice ao cs.length c) w' ∧ w'.ownsRow W.heap.size 5 1 (.slice ao cs.length c) cs.length (cs.map (Value.int .u8)) ∧ Below W.heap.size W w') := fun ax cx W cs hc hl => by
    have hal : Below W.heap.size W (W.alloc (.cells #[] 5)) := (Below.refl _ _).alloc (Nat.le_refl _) _
    have h1 := run_app8 (W.alloc (.cells #[] 5)) 22 W.heap.size (.slice (some ⟨W.heap.size, 0, none⟩) 0 0) [] _ cs (World.ownsRow_made W #[] 0 (Nat.le_refl _) (Nat.zero_le _) rfl) hal.size ((RowAt.of_owns hc).below hal) (by simp; omega)
    obtain ⟨ao, c, w', p1, p2, p3⟩ := h1
    rw [List.nil_append] at p1 p2
    exact ⟨ao, c, w', p1, p2, hal.trans p3⟩
  obtain ⟨L, hL⟩ : ∃ L, L = bs.length := ⟨_, rfl⟩
  obtain ⟨S, hS⟩ : ∃ S, S = crc bs := ⟨_, rfl⟩
  rw [← hL] at HR1 HC0 HCB hbig ho1
  rw [← hL]
  rw [← hS] at HC0 HCB
  have HO2 := hide ho1
  have HLL := hide hL
  clear h hs hby hal HO1 hr1 ho1 hb2 hS hL
  go_enter Tryd.func29, Tryd.ntmps29
  go_wp2_with (first
    | (at_builtin; refine wpList_append_run_sl _ rfl _ _ 22 rfl _ _ rfl rfl HR1.out ?_; clear HR1)
    | (go_at_call 34; refine HC0.out.mono ?_; rintro e y ⟨rfl, rfl⟩; clear HC0)
    | fail)
  go_loopw [5] (fun t wr => ∃ (i : Nat) (cs : List Int), i ≤ L ∧ t = .int .i64 (i : Int) ∧ cs.length = L ∧ Byt cs ∧ wr.ownsRow w.heap.size 5 1 (.slice a1 L c1) L (cs.map (Value.int .u8)) ∧ Below w.heap.size w wr) (fun t _ => L - (RowKit.intOf t).toNat)
  case atStart => exact ⟨0, bs, by omega, rfl, HLL.out.symm, HBY.out, HO2.out, HB2.out⟩
  case round =>
    obtain ⟨i, cs, hil, rfl, hcl, hcb, hco, hbl⟩ := hrel
    clear HO2 HB2
    have HCO := hide hco
    have HBL := hide hbl
    have HCBY := hide hcb
    by_cases hlt : i < L
    · obtain ⟨g, rfl, _, h8⟩ := own_spot hco (by omega)
      have cc := h8.cell (k := i) (by omega)
      have fc := h8.free i
      have hgl := h8.parts.1
      have H8 := hide h8
      have hlti : (i : Int) < (L : Int) := by omega
      clear hco hbl hcb h8
      go_wp2
      go_roundw
      case rel =>
        have hy0 : 0 ≤ (cs[i] + 1) % 256 ∧ (cs[i] + 1) % 256 < 256 := ⟨by omega, by omega⟩
        generalize (cs[i] + 1) % 256 = y at hy0 ⊢
        have hq := (H8.out.put (k := i) (by omega) y).own
        rw [List.length_set, hcl] at hq
        exact ⟨i + 1, _, hlt, by simp, by simp [hcl], byt_set HCBY.out i _ hy0, hq, HBL.out.setCell hgl _⟩
      case measure => exact mdecF hlt
    · obtain rfl : i = L := by omega
      obtain ⟨a2, c2, w3, hr2, ho2, hb3⟩ := HAP.out a1 c1 wr cs (by rw [hcl]; exact hco) (by omega)
      have HC1 := hide (HCC.out w.heap.size a1 c1 wr cs (by rw [hcl]; exact hco) hcb (by omega) hbl)
      have HB3 := hide (below_alloc_on hbl hb3)
      have HC2 := hide (HCC.out wr.heap.size a2 c2 w3 cs ho2 hcb (by omega) HB3.out)
      have HC3 := hide (HCB.out w3 HB3.out)
      obtain ⟨M, hM⟩ : ∃ M, M = crc cs := ⟨_, rfl⟩
      rw [hcl] at hr2 HC1 HC2
      rw [← hM] at HC1 HC2
      have HR2 := hide hr2
      clear hco hbl hcb hr2 ho2 hb3 hM
      go_wp2_with (first
        | (at_builtin; refine wpList_append_run_sl _ rfl _ _ 22 rfl _ _ rfl rfl HR2.out ?_; clear HR2)
        | (go_at_call 34; refine HC1.out.mono ?_; rintro e y1 ⟨rfl, rfl⟩; clear HC1)
        | (go_at_call 34; refine HC2.out.mono ?_; rintro e y2 ⟨rfl, rfl⟩; clear HC2)
        | (go_at_call 34; refine HC3.out.mono ?_; rintro e y3 ⟨rfl, rfl⟩; clear HC3)
        | fail)
      go_ret
      exact ⟨rfl, HB3.out⟩
end Go.Proofs.YtpfpelhhebafeaaDoor
