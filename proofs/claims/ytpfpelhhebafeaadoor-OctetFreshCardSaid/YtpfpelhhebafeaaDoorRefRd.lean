/- The reference's reader: Left, Seek, word, Word. -/
import Derived.Test.YtpfpelhhebafeaaDoorRZero
namespace Go.Proofs.YtpfpelhhebafeaaDoor
open Go.RowKit Go.Lib
set_option linter.unusedVariables false

/-- The reference's reader in memory: over bytes that lie elsewhere. -/
structure RRd (w : World) (r : Nat) (v : Value) (bs : List Int) (p : Nat) : Prop where
  hh : w.heap[r]? = some (.cells #[v, .int .i64 (p : Int)] 58 (0, 0))
  row : RowAt .u8 w v bs
  far : bs ≠ [] → ∀ g o n c, v = .slice (some ⟨g, o, none⟩) n c → g ≠ r
theorem RRd.below {w w' : World} {r p : Nat} {v : Value} {bs : List Int} (h : RRd w r v bs p) (hb : Below w.heap.size w w') : RRd w' r v bs p :=
  ⟨(hb.block r (lt_of_heap h.hh)).trans h.hh, h.row.below hb, h.far⟩
set_option maxRecDepth 100000 in
theorem rleft_any (w : World) (r p : Nat) (v : Value) (bs : List Int) (h : RRd w r v bs p) (hp : p ≤ bs.length) (hbig : bs.length ≤ 175921860444160) :
    Calls Tryd.prog 33 #[.pointer (some ⟨r, 0, none⟩)] w fun e w' => e = .returned (.int .i64 ((bs.length : Int) - p)) ∧ Below w.heap.size w w' := by
  have c0 := cell_of h.hh (i := 0) rfl
  have c1 := cell_of h.hh (i := 1) rfl
  obtain ⟨ao, c, rfl⟩ : ∃ ao c, v = .slice ao bs.length c := by obtain ⟨ao, c, h, _⟩ := h.row; exact ⟨ao, c, h⟩
  clear h
  go_enter Tryd.func33, Tryd.ntmps33
  go_wp2
  go_region
  all_goals
    go_wp2
    go_ret
    exact ⟨rfl, (Below.refl _ _).drew⟩
theorem RRd.set {w : World} {r p q : Nat} {v : Value} {bs : List Int} (h : RRd w r v bs p) (z : Int) (hz : z = (q : Int)) : RRd (w.setCell ⟨r, 1, none⟩ (.int .i64 z)) r v bs q ∧ But r w (w.setCell ⟨r, 1, none⟩ (.int .i64 z)) := by
  subst hz
  refine ⟨⟨by rw [heap_set h.hh]; simp, ?_, h.far⟩, But.setCell _ ⟨r, 1, none⟩ _⟩
  by_cases hne : bs = []
  · subst hne
    obtain ⟨ao, c, rfl, h1, h2, h3, h4⟩ := h.row
    exact ⟨ao, c, rfl, h1, h2, h3, fun a ha i hi => absurd hi (Nat.not_lt_zero _)⟩
  · obtain ⟨g, o, c, rfl, h1, h2, h3⟩ := h.row.spot hne
    have hg : g ≠ r := h.far hne g o _ _ rfl
    refine ⟨_, c, rfl, h1, h2, (fun e => by cases e), fun a ha i hi => ?_⟩
    cases ha
    rw [Addr.add_lit]
    have h5 := h3 i hi
    unfold World.cell? at h5 ⊢
    rw [Below.heap_setCell _ _ _ _ hg]
    simpa [List.getD] using h5
set_option maxRecDepth 100000 in
theorem rseek_ok (w : World) (r p q : Nat) (v : Value) (bs : List Int) (h : RRd w r v bs p) (hq : q ≤ bs.length) (hbig : bs.length ≤ 175921860444160) :
    Calls Tryd.prog 50 #[.pointer (some ⟨r, 0, none⟩), .int .i64 q] w fun e w' => e = .returned (.int .i64 0) ∧ RRd w' r v bs q ∧ But r w w' := by
  have H := hide h
  have c0 := cell_of h.hh (i := 0) rfl
  have c1 := cell_of h.hh (i := 1) rfl
  have f1 := free_of h.hh 1
  obtain ⟨ao, c, rfl⟩ : ∃ ao c, v = .slice ao bs.length c := by obtain ⟨ao, c, h, _⟩ := h.row; exact ⟨ao, c, h⟩
  clear h
  go_enter Tryd.func50, Tryd.ntmps50
  go_wp2
  go_ret
  exact ⟨rfl, RRd.set H.out _ rfl⟩
set_option maxRecDepth 100000 in
theorem rseek_bad (w : World) (r p : Nat) (q : Int) (v : Value) (bs : List Int) (h : RRd w r v bs p) (hq : ¬ (0 ≤ q ∧ q ≤ (bs.length : Int))) :
    Calls Tryd.prog 50 #[.pointer (some ⟨r, 0, none⟩), .int .i64 q] w fun e w' => e = .returned (.int .i64 6) ∧ w' = w := by
  have c0 := cell_of h.hh (i := 0) rfl
  obtain ⟨ao, c, rfl⟩ : ∃ ao c, v = .slice ao bs.length c := by obtain ⟨ao, c, h, _⟩ := h.row; exact ⟨ao, c, h⟩
  have hh : q < 0 ∨ (bs.length : Int) < q := by omega
  clear h hq
  go_enter Tryd.func50, Tryd.ntmps50
  go_wp2
  all_goals first
    | (exfalso; omega)
    | (go_ret; exact ⟨rfl, rfl⟩)

theorem vals8_cons (b : Nat) (l : List Nat) : vals8 (b :: l) = b + 256 * vals8 l := rfl
set_option maxRecDepth 100000 in
set_option maxHeartbeats 2000000 in
theorem word57_any (w : World) (v : Value) (bs : List Int) (p s : Nat) (l : List Nat) (h : RowAt .u8 w v bs) (hl : (bs.drop p).take s = l.map (fun (n : Nat) => (n : Int))) (hls : l.length = s) (hby : ∀ b ∈ l, b < 256) (h1 : 1 ≤ s) (h8 : s ≤ 8) (hps : p + s ≤ bs.length) (hbig : bs.length ≤ 175921860444160) :
    Calls Tryd.prog 57 #[v, .int .i64 p, .int .i64 s] w fun e w' => e = .returned (.int .u64 ((vals8 l : Nat) : Int)) ∧ w' = w := by
  obtain ⟨g, o, c, rfl, hc, hm, hcell⟩ := h.spot (by intro e; rw [e] at hps; simp at hps; omega)
  have HC : Hid (∀ i, i < s → w.cell? ⟨g, o + (p + i), none⟩ = some (.int .u8 ((l[i]?.getD 0 : Nat) : Int))) := fun i hi => by
    have h5 := hcell (p + i) (by omega)
    rw [h5]
    have h6 : ((bs.drop p).take s)[i]? = (l.map (fun (n : Nat) => (n : Int)))[i]? := by rw [hl]
    rw [List.getElem?_take_of_lt hi, List.getElem?_drop] at h6
    have h7 : i < l.length := by omega
    rw [List.getElem?_map, List.getElem?_eq_getElem h7] at h6
    simp [h6, List.getElem?_eq_getElem h7]
  have HBY := hide hby; have HLS := hide hls
  obtain ⟨L, hL⟩ : ∃ L, L = bs.length := ⟨_, rfl⟩
  rw [← hL] at hps hbig hc ⊢
  clear h hl hcell hby hls hL
  go_enter Tryd.func57, Tryd.ntmps57
  go_wp2_with fail
  go_loopw [7, 8] (fun a t wr => ∃ i : Nat, i ≤ s ∧ a = .int .u64 ((vals8 (l.drop i) : Nat) : Int) ∧ t = .int .i64 ((i : Int) - 1) ∧ wr = w) (fun _ t _ => ((RowKit.intOf t) + 1).toNat)
  case atStart => exact ⟨s, Nat.le_refl _, by rw [← HLS.out, List.drop_length]; rfl, rfl, rfl⟩
  case round =>
    obtain ⟨i, his, rfl, rfl, rfl⟩ := hrel
    by_cases hlt : 0 < i
    · obtain ⟨k, rfl⟩ : ∃ k, i = k + 1 := ⟨i - 1, by omega⟩
      have hkl : k < l.length := by rw [HLS.out]; omega
      have d := HC.out k (by omega)
      have hb := HBY.out (l[k]) (List.getElem_mem hkl)
      have e0 : l[k]?.getD 0 = l[k] := by rw [List.getElem?_eq_getElem hkl]; rfl
      rw [e0] at d
      have hdr : vals8 (l.drop k) = l[k] + 256 * vals8 (l.drop (k + 1)) := by rw [List.drop_eq_getElem_cons hkl, vals8_cons]
      have hlt8 : vals8 (l.drop k) < 18446744073709551616 := by
        have h3 := vals8_lt (l.drop k) (fun x hx => HBY.out x (List.mem_of_mem_drop hx))
        have h4 : 2 ^ (8 * (l.drop k).length) ≤ 2 ^ 64 := Nat.pow_le_pow_right (by decide) (by rw [List.length_drop, HLS.out]; omega)
        have h5 : (2 : Nat) ^ 64 = 18446744073709551616 := by decide
        omega
      obtain ⟨y, hy⟩ : ∃ y, y = l[k] := ⟨_, rfl⟩
      obtain ⟨A, hA⟩ : ∃ A, A = vals8 (l.drop (k + 1)) := ⟨_, rfl⟩
      rw [← hy, ← hA] at hdr
      rw [← hy] at d hb
      rw [← hA]
      have HDR := hide hdr
      have hAl : A * 256 + y < 18446744073709551616 := by omega
      have hk1 : ((k + 1 : Nat) : Int) - 1 = (k : Int) := by omega
      rw [hk1]
      clear hdr hlt8 hy hA e0 hk1
      go_wp2_with fail
      go_roundw
      case rel => exact ⟨k, by omega, by rw [HDR.out]; first | rfl | (congr 1; push_cast; omega) | (congr 1; push_cast), by first | rfl | simp, by first | exact trivial | rfl⟩
      case measure => simp [RowKit.intOf]
    · obtain rfl : i = 0 := by omega
      rw [List.drop_zero]
      go_wp2
      go_ret
      exact ⟨rfl, rfl⟩
end Go.Proofs.YtpfpelhhebafeaaDoor
