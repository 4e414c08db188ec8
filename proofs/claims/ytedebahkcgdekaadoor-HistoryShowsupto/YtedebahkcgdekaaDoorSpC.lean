/- The reference's Show. -/
import Derived.Test.YtedebahkcgdekaaDoorSpB
import Derived.Lib.AppendIntMem
namespace Go.Proofs.YtedebahkcgdekaaDoor
open Go.Shelf Go.RowKit Go.Sort Go.Lib
set_option linter.unusedVariables false
set_option linter.unusedSimpArgs false
set_option maxRecDepth 100000 in
set_option maxHeartbeats 4000000 in
theorem word_any (k : Nat) (h1 : 1 ≤ k) (h6 : k ≤ 6) (w : World) : Calls Tryd.prog 9 #[.int .i64 (k : Int)] w fun e w' => e = .returned (.string (bs (wordL k))) ∧ Below w.heap.size w w' := by
  have h : k = 1 ∨ k = 2 ∨ k = 3 ∨ k = 4 ∨ k = 5 ∨ k = 6 := by omega
  rcases h with rfl | rfl | rfl | rfl | rfl | rfl
  all_goals
    go_enter Tryd.func9, Tryd.ntmps9
    go_wp2
    go_ret
    exact ⟨rfl, below_alloc (Below.refl _ _) _⟩
theorem itoa_any (n : Nat) (h : n ≤ 1000000000) (w : World) (htab : Lib.TabIs Tryd.prog w "internal/strconv.uint64pow10" .u64 Lib.pow10Tab) : Calls Tryd.prog 8 #[.int .i64 (n : Int)] w fun e w' => e = .returned (.string (bs (Lib.decDigits n))) ∧ Below w.heap.size w w' :=
  (Tryd.strconv_Itoa (n : Int) (by omega) (by omega) w htab).mono fun e w' ⟨he, k, os, hw⟩ => by
    refine ⟨?_, ?_⟩
    · rw [he]; unfold Lib.itoa; rw [if_neg (by omega), Int.toNat_natCast]; rfl
    · rw [hw]; exact Lib.below_grow _ w (Nat.le_refl _) k os
theorem okV_parts {tm who kind key load : Int} : okV ⟨tm, who, kind, key, load⟩ = true ↔ (0 ≤ tm ∧ tm ≤ 1000000000 ∧ 0 ≤ who ∧ who ≤ 1000000000 ∧ 1 ≤ kind ∧ kind ≤ 6 ∧ (kind = 1 ∨ kind = 4 ∨ (key = 0 ∧ load = 0))) := by
  unfold okV isE
  simp only [Bool.and_eq_true, decide_eq_true_eq]
  constructor
  · rintro ⟨⟨⟨a, b, c, d, e⟩, f⟩, g⟩; exact ⟨d, f, a, g, b, c, e⟩
  · rintro ⟨d, f, a, g, b, c, e⟩; exact ⟨⟨⟨a, b, c, d, e⟩, f⟩, g⟩
theorem okV_no {tm who kind key load : Int} (h : ¬ (0 ≤ tm ∧ tm ≤ 1000000000 ∧ 0 ≤ who ∧ who ≤ 1000000000 ∧ 1 ≤ kind ∧ kind ≤ 6 ∧ (kind = 1 ∨ kind = 4 ∨ (key = 0 ∧ load = 0)))) : okV ⟨tm, who, kind, key, load⟩ = false := by
  cases hb : okV ⟨tm, who, kind, key, load⟩ with
  | false => rfl
  | true => exact absurd (okV_parts.1 hb) h
set_option maxRecDepth 100000 in
set_option maxHeartbeats 8000000 in
theorem rshow_any (v : Value) (l : List Ev) (w : World) (h : EAt w v l) (hk : ∀ i, i < l.length → Evok (evAt l i)) (hlen : l.length ≤ 1048576) (htab : Lib.TabIs Tryd.prog w "internal/strconv.uint64pow10" .u64 Lib.pow10Tab) :
    Calls Tryd.prog 4 #[v] w fun e w' => e = .returned (.tuple #[.string (shS l), .int .i64 (shE l)]) ∧ Below w.heap.size w w' := by
  obtain ⟨ao, cap, rfl, hcap, h63⟩ := h.shape
  have H := hide h
  have HNO := hide none_any
  have HDU : Hid (∀ (u : Nat), u < 18446744073709551616 → ∃ D, D = bs (Lib.decDigits u) ∧ Hid (∀ W : World, Below w.heap.size w W → Calls Tryd.prog 10 #[.int .u64 u, .int .i64 10] W fun e w' => e = .returned (.string D) ∧ Below W.heap.size W w')) := fun u hu => ⟨_, rfl, fun W hb => fmtu_any u hu W (Lib.tabBelow_of_tabIs htab W hb)⟩
  have HDI : Hid (∀ (u : Nat), u ≤ 1000000000 → ∃ D, D = bs (Lib.decDigits u) ∧ Hid (∀ W : World, Below w.heap.size w W → Calls Tryd.prog 8 #[.int .i64 u] W fun e w' => e = .returned (.string D) ∧ Below W.heap.size W w')) := fun u hu => ⟨_, rfl, fun W hb => itoa_any u hu W (Lib.tabBelow_of_tabIs htab W hb)⟩
  have HWD : Hid (∀ k : Nat, 1 ≤ k → k ≤ 6 → ∃ D, D = bs (wordL k) ∧ Hid (∀ W : World, Calls Tryd.prog 9 #[.int .i64 k] W fun e w' => e = .returned (.string D) ∧ Below W.heap.size W w')) := fun k h1 h2 => ⟨_, rfl, fun W => word_any k h1 h2 W⟩
  have HK := hide hk
  have HG := hide (fun (h : okN l l.length) => sh_good h)
  have HBD := hide (fun i (hi : i < l.length) h => sh_bad (l := l) (i := i) hi h)
  have HTL := hide (txN_len hk)
  obtain ⟨n, hn⟩ : ∃ n, n = l.length := ⟨_, rfl⟩
  have HN := hide hn
  have HLEN := hide hlen
  rw [← hn] at hcap H HK HLEN HG HBD HTL ⊢
  obtain ⟨SS, hSS⟩ : ∃ SS, SS = shS l := ⟨_, rfl⟩
  obtain ⟨SE, hSE⟩ : ∃ SE, SE = shE l := ⟨_, rfl⟩
  rw [← hSS, ← hSE] at HG HBD ⊢
  clear h hn hSS hSE hk htab hlen
  go_enter Tryd.func4, Tryd.ntmps4
  go_wp2_with fail
  go_loopw [4, 5] (fun t4 t wr => ∃ (i : Nat) (S : ByteArray), i ≤ n ∧ t = .int .i64 (i : Int) ∧ t4 = .string S ∧ S = bs (txN l i) ∧ okN l i ∧ Below w.heap.size w wr) (fun _ t _ => n - (RowKit.intOf t).toNat)
  case atStart => exact ⟨0, _, Nat.zero_le _, rfl, rfl, rfl, fun i hi => absurd hi (Nat.not_lt_zero _), Below.refl _ _⟩
  case round =>
    obtain ⟨i, S, hi, rfl, rfl, hS, hok, hbel⟩ := hrel
    have HOK := hide hok
    have HB := hide hbel
    have HS := hide hS
    clear hok hbel hS
    by_cases hlt : i < n
    · obtain ⟨g, o, rfl, hg, p⟩ := (H.out.below HB.out).at i (by have := HN.out; omega)
      have HE : Hid (evAt l i = l[i]'(by have := HN.out; omega)) := hide (by have := HN.out; simp [evAt, show i < l.length by omega])
      rw [← HE.out] at p
      have HV : Hid (∃ e, e = evAt l i) := ⟨_, rfl⟩
      obtain ⟨e, he⟩ := HV.out
      have HEV := hide he
      have hevo := HK.out i hlt
      rw [← he] at p hevo
      clear he HV HE
      obtain ⟨tm, who, kind, key, load⟩ := e
      have p0 : wr.cell? ⟨g, o + i * 5, none⟩ = some (.int .i64 tm) := p 0 _ rfl
      have p1 : wr.cell? ⟨g, o + i * 5 + 1, none⟩ = some (.int .i64 who) := p 1 _ rfl
      have p2 : wr.cell? ⟨g, o + i * 5 + 2, none⟩ = some (.int .i64 kind) := p 2 _ rfl
      have p3 : wr.cell? ⟨g, o + i * 5 + 3, none⟩ = some (.int .u64 key) := p 3 _ rfl
      have p4 : wr.cell? ⟨g, o + i * 5 + 4, none⟩ = some (.int .u64 load) := p 4 _ rfl
      clear p
      have HBN := hide (HBD.out i hlt)
      rw [← HEV.out] at HBN
      have HBX := hide (below_alloc HB.out (.cells #[.int .i64 tm, .int .i64 who, .int .i64 kind, .int .u64 key, .int .u64 load] 35))
      by_cases c0 : 0 ≤ tm
      case neg =>
        have HEND := hide (HBN.out (okV_no (by omega)))
        clear HBN HEV
        go_wp2_with fail
        go_ret2
        exact ⟨by rw [HEND.out.1, HEND.out.2]; rfl, HBX.out⟩
      by_cases c1 : tm ≤ 1000000000
      case neg =>
        have HEND := hide (HBN.out (okV_no (by omega)))
        clear HBN HEV
        go_wp2_with fail
        go_ret2
        exact ⟨by rw [HEND.out.1, HEND.out.2]; rfl, HBX.out⟩
      by_cases c2 : 0 ≤ who
      case neg =>
        have HEND := hide (HBN.out (okV_no (by omega)))
        clear HBN HEV
        go_wp2_with fail
        go_ret2
        exact ⟨by rw [HEND.out.1, HEND.out.2]; rfl, HBX.out⟩
      by_cases c3 : who ≤ 1000000000
      case neg =>
        have HEND := hide (HBN.out (okV_no (by omega)))
        clear HBN HEV
        go_wp2_with fail
        go_ret2
        exact ⟨by rw [HEND.out.1, HEND.out.2]; rfl, HBX.out⟩
      by_cases c4 : 1 ≤ kind
      case neg =>
        have HEND := hide (HBN.out (okV_no (by omega)))
        clear HBN HEV
        go_wp2_with fail
        go_ret2
        exact ⟨by rw [HEND.out.1, HEND.out.2]; rfl, HBX.out⟩
      by_cases c5 : kind ≤ 6
      case neg =>
        have HEND := hide (HBN.out (okV_no (by omega)))
        clear HBN HEV
        go_wp2_with fail
        go_ret2
        exact ⟨by rw [HEND.out.1, HEND.out.2]; rfl, HBX.out⟩
      obtain ⟨_, _, ⟨k5, k6⟩, ⟨k7, k8⟩⟩ := hevo
      simp only at k5 k6 k7 k8
      obtain ⟨t, rfl⟩ := Int.eq_ofNat_of_zero_le c0
      obtain ⟨q, rfl⟩ := Int.eq_ofNat_of_zero_le c2
      obtain ⟨k, rfl⟩ := Int.eq_ofNat_of_zero_le (show 0 ≤ kind by omega)
      obtain ⟨x, rfl⟩ := Int.eq_ofNat_of_zero_le k5
      obtain ⟨y, rfl⟩ := Int.eq_ofNat_of_zero_le k7
      have htl := HTL.out i (by omega)
      have hll := HLEN.out
      have l1 := dec_len (u := t) (by omega)
      have l2 := dec_len (u := q) (by omega)
      have l3 := dec_len (u := x) (by omega)
      have l4 := dec_len (u := y) (by omega)
      have l5 := word_len k
      have n1 := head_len (t := t) (p := q) (k := k) (by omega) (by omega)
      have n2 := rest_len (x := x) (y := y) (by omega) (by omega)
      obtain ⟨D1, h1, HD1⟩ := HDI.out t (by omega)
      obtain ⟨D2, h2, HD2⟩ := HDI.out q (by omega)
      obtain ⟨D3, h3, HD3⟩ := HDU.out x (by omega)
      obtain ⟨D4, h4, HD4⟩ := HDU.out y (by omega)
      obtain ⟨WK, hWK, HWK⟩ := HWD.out k (by omega) (by omega)
      obtain ⟨S1, a1, s1⟩ := add_let _ [32] h1 (show (⟨#[32]⟩ : ByteArray) = bs [32] from rfl) (by simp; omega)
      obtain ⟨S2, a2, s2⟩ := add_let _ _ s1 h2 (by simp; omega)
      obtain ⟨S3, a3, s3⟩ := add_let _ [32] s2 (show (⟨#[32]⟩ : ByteArray) = bs [32] from rfl) (by simp; omega)
      obtain ⟨S4, a4, s4⟩ := add_let _ _ s3 hWK (by simp; omega)
      obtain ⟨S5, a5, s5⟩ := add_let (txN l i) (headL t q k) HS.out s4 (by omega)
      obtain ⟨U1, b1, u1⟩ := add_let [32] _ (show (⟨#[32]⟩ : ByteArray) = bs [32] from rfl) h3 (by simp; omega)
      obtain ⟨U2, b2, u2⟩ := add_let _ [32] u1 (show (⟨#[32]⟩ : ByteArray) = bs [32] from rfl) (by simp; omega)
      obtain ⟨U3, b3, u3⟩ := add_let _ _ u2 h4 (by simp; omega)
      obtain ⟨S6, b4, s6⟩ := add_let (txN l i ++ headL t q k) (restL x y) s5 u3 (by simp; omega)
      obtain ⟨R1, d1, r1⟩ := add_let _ [10] s5 (show (⟨#[10]⟩ : ByteArray) = bs [10] from rfl) (by simp; omega)
      obtain ⟨R2, d2, r2⟩ := add_let _ [10] s6 (show (⟨#[10]⟩ : ByteArray) = bs [10] from rfl) (by simp; omega)
      have htx : txN l (i + 1) = txN l i ++ lineN t q k x y := by show txN l i ++ lineE (evAt l i) = _; rw [← HEV.out]; rfl
      have HF1 : Hid ((k = 1 ∨ k = 4) → R2 = bs (txN l (i + 1))) := fun h => by rw [r2, htx]; unfold lineN; rw [if_pos h]; simp
      have HF2 : Hid (¬ (k = 1 ∨ k = 4) → R1 = bs (txN l (i + 1))) := fun h => by rw [r1, htx]; unfold lineN; rw [if_neg h]; simp
      have hnew := heap_new wr (.cells #[.int .i64 (t : Int), .int .i64 (q : Int), .int .i64 (k : Int), .int .u64 (x : Int), .int .u64 (y : Int)] 35)
      have m0 : (wr.alloc (.cells #[.int .i64 (t : Int), .int .i64 (q : Int), .int .i64 (k : Int), .int .u64 (x : Int), .int .u64 (y : Int)] 35)).cell? ⟨wr.heap.size, 0, none⟩ = some (.int .i64 t) := cell_of hnew rfl
      have m1 : (wr.alloc (.cells #[.int .i64 (t : Int), .int .i64 (q : Int), .int .i64 (k : Int), .int .u64 (x : Int), .int .u64 (y : Int)] 35)).cell? ⟨wr.heap.size, 1, none⟩ = some (.int .i64 q) := cell_of hnew rfl
      have m2 : (wr.alloc (.cells #[.int .i64 (t : Int), .int .i64 (q : Int), .int .i64 (k : Int), .int .u64 (x : Int), .int .u64 (y : Int)] 35)).cell? ⟨wr.heap.size, 2, none⟩ = some (.int .i64 k) := cell_of hnew rfl
      have m3 : (wr.alloc (.cells #[.int .i64 (t : Int), .int .i64 (q : Int), .int .i64 (k : Int), .int .u64 (x : Int), .int .u64 (y : Int)] 35)).cell? ⟨wr.heap.size, 3, none⟩ = some (.int .u64 x) := cell_of hnew rfl
      have m4 : (wr.alloc (.cells #[.int .i64 (t : Int), .int .i64 (q : Int), .int .i64 (k : Int), .int .u64 (x : Int), .int .u64 (y : Int)] 35)).cell? ⟨wr.heap.size, 4, none⟩ = some (.int .u64 y) := cell_of hnew rfl
      have HOK1 : Hid ((k = 1 ∨ k = 4 ∨ (x = 0 ∧ y = 0)) → okN l (i + 1)) := fun h => okN_next HOK.out (by rw [← HEV.out]; exact okV_parts.2 ⟨by omega, c1, by omega, c3, c4, c5, by omega⟩)
      have HOK0 : Hid (¬ (k = 1 ∨ k = 4 ∨ (x = 0 ∧ y = 0)) → SS = ⟨#[]⟩ ∧ SE = 70) := fun h => HBN.out (okV_no (by omega))
      clear hnew htl hll l1 l2 l3 l4 l5 n1 n2 h1 h2 h3 h4 hWK s1 s2 s3 s4 s5 s6 u1 u2 u3 r1 r2 htx HTL HLEN HBN HEV HBD k6 k8
      by_cases hk1 : k = 1
      · have hk : k = 1 ∨ k = 4 := .inl hk1
        have hkb : ((k : Int) == 1) = true := by simp; omega
        clear hk1
        have HR := hide (HF1.out hk)
        have HO := hide (HOK1.out (hk.elim .inl (fun h => .inr (.inl h))))
        clear HF1 HF2 HOK1 HOK0 hk
        go_wp2_with fail
        generalize (wr.alloc (.cells #[.int .i64 (t : Int), .int .i64 (q : Int), .int .i64 (k : Int), .int .u64 (x : Int), .int .u64 (y : Int)] 35)) = w1 at HBX m0 m1 m2 m3 m4 ⊢
        have x0 := gw_cell m0
        have x1 := gw_cell m1
        have x2 := gw_cell m2
        refine wp_region_gw (by kernel_rfl) (by kernel_rfl) ?_
        repeat (go_big_quiet_step (first
          | (go_at_call_of 8 (Value.int .i64 (t : Int)); exact gw_of (HD1.out _ (below_on HBX.out (GW.bel _))))
          | (go_at_call_of 8 (Value.int .i64 (q : Int)); exact gw_of (HD2.out _ (below_on HBX.out (GW.bel _))))
          | (go_at_call 9; exact gw_of (HWK.out _))
          | rfl))
        refine wpQuiet_nil ?_
        intro _ hw'
        obtain ⟨gx, hw''⟩ := hw'
        subst hw''
        have HB2 := hide (below_on HBX.out gx.bel)
        have y2 := x2 gx
        have y3 := gw_cell m3 gx
        have y4 := gw_cell m4 gx
        clear x0 x1 x2 m0 m1 m2 m3 m4
        generalize gx.world = w2 at HB2 y2 y3 y4 ⊢
        go_wp2_with fail
        have z3 := gw_cell y3
        have z4 := gw_cell y4
        refine wp_region_gw (by kernel_rfl) (by kernel_rfl) ?_
        repeat (go_big_quiet_step (first
          | (go_at_call_of 10 (Value.int .u64 (x : Int)); exact gw_of (HD3.out _ (below_on HB2.out (GW.bel _))))
          | (go_at_call_of 10 (Value.int .u64 (y : Int)); exact gw_of (HD4.out _ (below_on HB2.out (GW.bel _))))
          | rfl))
        refine wpQuiet_nil ?_
        intro _ hw'
        obtain ⟨gy, hw''⟩ := hw'
        subst hw''
        have HB3 := hide (below_on HB2.out gy.bel)
        clear y2 y3 y4 z3 z4
        generalize gy.world = w3 at HB3 ⊢
        go_wp2_with fail
        go_roundw
        case rel => exact ⟨i + 1, R2, hlt, by simp, rfl, HR.out, HO.out, HB3.out⟩
        case measure => exact mdec hlt
      by_cases hk4 : k = 4
      · have hk : k = 1 ∨ k = 4 := .inr hk4
        have hkb : ((k : Int) == 1) = false := by simp; omega
        have hkc : ((k : Int) == 4) = true := by simp; omega
        clear hk1 hk4
        have HR := hide (HF1.out hk)
        have HO := hide (HOK1.out (hk.elim .inl (fun h => .inr (.inl h))))
        clear HF1 HF2 HOK1 HOK0 hk
        go_wp2_with fail
        generalize (wr.alloc (.cells #[.int .i64 (t : Int), .int .i64 (q : Int), .int .i64 (k : Int), .int .u64 (x : Int), .int .u64 (y : Int)] 35)) = w1 at HBX m0 m1 m2 m3 m4 ⊢
        have x0 := gw_cell m0
        have x1 := gw_cell m1
        have x2 := gw_cell m2
        refine wp_region_gw (by kernel_rfl) (by kernel_rfl) ?_
        repeat (go_big_quiet_step (first
          | (go_at_call_of 8 (Value.int .i64 (t : Int)); exact gw_of (HD1.out _ (below_on HBX.out (GW.bel _))))
          | (go_at_call_of 8 (Value.int .i64 (q : Int)); exact gw_of (HD2.out _ (below_on HBX.out (GW.bel _))))
          | (go_at_call 9; exact gw_of (HWK.out _))
          | rfl))
        refine wpQuiet_nil ?_
        intro _ hw'
        obtain ⟨gx, hw''⟩ := hw'
        subst hw''
        have HB2 := hide (below_on HBX.out gx.bel)
        have y2 := x2 gx
        have y3 := gw_cell m3 gx
        have y4 := gw_cell m4 gx
        clear x0 x1 x2 m0 m1 m2 m3 m4
        generalize gx.world = w2 at HB2 y2 y3 y4 ⊢
        go_wp2_with fail
        have z3 := gw_cell y3
        have z4 := gw_cell y4
        refine wp_region_gw (by kernel_rfl) (by kernel_rfl) ?_
        repeat (go_big_quiet_step (first
          | (go_at_call_of 10 (Value.int .u64 (x : Int)); exact gw_of (HD3.out _ (below_on HB2.out (GW.bel _))))
          | (go_at_call_of 10 (Value.int .u64 (y : Int)); exact gw_of (HD4.out _ (below_on HB2.out (GW.bel _))))
          | rfl))
        refine wpQuiet_nil ?_
        intro _ hw'
        obtain ⟨gy, hw''⟩ := hw'
        subst hw''
        have HB3 := hide (below_on HB2.out gy.bel)
        clear y2 y3 y4 z3 z4
        generalize gy.world = w3 at HB3 ⊢
        go_wp2_with fail
        go_roundw
        case rel => exact ⟨i + 1, R2, hlt, by simp, rfl, HR.out, HO.out, HB3.out⟩
        case measure => exact mdec hlt
      · have hk : ¬ (k = 1 ∨ k = 4) := fun h => h.elim hk1 hk4
        have hkb : ((k : Int) == 1) = false := by simp; omega
        have hkc : ((k : Int) == 4) = false := by simp; omega
        clear hk1 hk4
        clear HF1
        go_wp2_with fail
        generalize (wr.alloc (.cells #[.int .i64 (t : Int), .int .i64 (q : Int), .int .i64 (k : Int), .int .u64 (x : Int), .int .u64 (y : Int)] 35)) = w1 at HBX m0 m1 m2 m3 m4 ⊢
        have x0 := gw_cell m0
        have x1 := gw_cell m1
        have x2 := gw_cell m2
        refine wp_region_gw (by kernel_rfl) (by kernel_rfl) ?_
        repeat (go_big_quiet_step (first
          | (go_at_call_of 8 (Value.int .i64 (t : Int)); exact gw_of (HD1.out _ (below_on HBX.out (GW.bel _))))
          | (go_at_call_of 8 (Value.int .i64 (q : Int)); exact gw_of (HD2.out _ (below_on HBX.out (GW.bel _))))
          | (go_at_call 9; exact gw_of (HWK.out _))
          | rfl))
        refine wpQuiet_nil ?_
        intro _ hw'
        obtain ⟨gx, hw''⟩ := hw'
        subst hw''
        have HB2 := hide (below_on HBX.out gx.bel)
        have y2 := x2 gx
        have y3 := gw_cell m3 gx
        have y4 := gw_cell m4 gx
        clear x0 x1 x2 m0 m1 m2 m3 m4
        generalize gx.world = w2 at HB2 y2 y3 y4 ⊢
        have H11 := hide (HNO.out (x : Int) (y : Int) w2)
        by_cases hz : (x : Int) = 0 ∧ (y : Int) = 0
        · rw [decide_eq_true hz] at H11
          have HR := hide (HF2.out hk)
          have HO := hide (HOK1.out (.inr (.inr (by omega))))
          clear HF2 HOK1 HOK0 hk hz
          go_wp2_with (first
            | (go_at_call 11; refine H11.out.mono ?_; rintro e w3 ⟨rfl, hb⟩; have HB3 := hide (below_on HB2.out hb); clear hb)
            | fail)
          go_roundw
          case rel => exact ⟨i + 1, R1, hlt, by simp, rfl, HR.out, HO.out, HB3.out⟩
          case measure => exact mdec hlt
        · rw [decide_eq_false hz] at H11
          have HEND := hide (HOK0.out (by omega))
          clear HF2 HOK1 HOK0 hk hz
          go_wp2_with (first
            | (go_at_call 11; refine H11.out.mono ?_; rintro e w3 ⟨rfl, hb⟩; have HB3 := hide (below_on HB2.out hb); clear hb)
            | fail)
          go_ret2
          exact ⟨by rw [HEND.out.1, HEND.out.2]; rfl, HB3.out⟩
    · obtain rfl : i = n := by omega
      have HEND := hide (HG.out HOK.out)
      go_wp2_with fail
      go_ret2
      exact ⟨by rw [HEND.out.1, HEND.out.2, ← HS.out]; rfl, HB.out⟩
end Go.Proofs.YtedebahkcgdekaaDoor
