/- RingHelds: the walk. -/
import Derived.Test.YtajcoimeeohnoaaLc
import Derived.Deep.Cut
import Derived.Deep.CutBlock
namespace Go.Proofs.Ytajcoimeeohnoaa
open Go.RowKit Go.Lib
set_option linter.unusedVariables false
set_option linter.unusedSimpArgs false
set_option maxRecDepth 100000 in
set_option maxHeartbeats 32000000 in
theorem helds_law (b C own b2 C2 : Int) (v : Value) (xs : List Int) (w : World) (h : RowAt .u64 w v xs) (hw : Wds xs) (hlen : xs.length * 8 ≤ 140737488351232) :
    Calls Try.prog 4 #[qAgg b C, v, .int .i64 own, qAgg b2 C2] w fun e w' => e = .returned (.bool true) ∧ Below w.heap.size w w' := by
  obtain ⟨i0, hi, hz0, hz1, hz2⟩ := info_parts Try.info50
  obtain ⟨j0, hj, hy0, hy1, hy2⟩ := info_parts Try.info47
  obtain ⟨k0, hk, hk0, hk1, hk2⟩ := info_parts Try.info32
  obtain ⟨t0, ht, ht0, ht1, ht2⟩ := info_parts Try.info34
  obtain ⟨ao, ca, rfl⟩ := h.shape
  have HX := hide h
  have HF0 := hide (fs_start w b C b2 C2)
  have HWD := hide hw
  obtain ⟨n, hn⟩ : ∃ n, n = xs.length := ⟨_, rfl⟩
  have HN := hide hn
  rw [← hn] at hlen HX ⊢
  clear h hn hw
  unfold qAgg
  go_enter Try.func4, Try.ntmps4
  go_upto_block 0 with fail
  go_cut [9, 10, 11, 12, 13] from 34 to 58 (fun hv rv t hh ee wx => FV w b C b2 C2 3 hv rv wx)
  case first =>
    go_wp2_with fail
    generalize ((w.alloc (Obj.cells #[Value.int IntKind.i64 b, Value.int IntKind.i64 C] 47)).alloc (Obj.cells #[Value.int IntKind.i64 b2, Value.int IntKind.i64 C2] 47)) = w1 at HF0 ⊢
    go_loopw [9, 10, 11, 12, 13] (fun hv rv t hh ee wr => ∃ i : Nat, i ≤ 3 ∧ t = .int .i64 i ∧ FV w b C b2 C2 i hv rv wr) (fun _ _ t _ _ _ => 3 - (RowKit.intOf t).toNat)
    case atStart => exact ⟨0, by omega, rfl, ⟨[], [], HF0.out, Nat.le_refl _, Nat.le_refl _, fun _ => rfl⟩⟩
    case round =>
      obtain ⟨i, hi3, rfl, hfv⟩ := hrel
      obtain ⟨hs, rs, hfs, l1, l2, han⟩ := hfv.ex
      have HFV := hide hfv
      have HFS := hide hfs
      have HAN := hide han
      obtain ⟨s0, s1⟩ := hfs.q1.two
      clear hfs han hfv HF0
      by_cases hown : (i : Int) < own
      · by_cases h3 : i < 3
        · have h3i : (i : Int) < 3 := by omega
          by_cases hok : OkR b C
          · have HC := hide (fun W => open_ok b C i W hok (by omega))
            unfold qAgg at HC
            have HOK := hide hok
            clear hok
            go_wp2_with (first
              | (go_at_call 13; refine (HC.out _).mono ?_; rintro e w2 ⟨H, rfl, hH, hat, hb2⟩; have HFA := hide (HFS.out.fl.far (H := H) (b := b) (C := C) hH); have HF2 := hide (HFS.out.below hb2); have HAT := hide hat; clear hb2 hat hH s0 s1)
              | (at_builtin; refine wpList_append_h rfl (.tmp 51) (.tmp 53) rfl i0 hi hz0 hz1 hz2 w b C b2 C2 _ _ hs rs (some (H, b, C)) rfl HF2.out HAT.out HFA.out (by omega) rfl ?_; intro v3 w3 hf3; have HF3 := hide hf3; obtain ⟨s0, s1⟩ := hf3.q1.two; clear hf3)
              | (at_builtin; refine wpList_append_r rfl (.tmp 55) (.tmp 57) rfl j0 hj hy0 hy1 hy2 w b C b2 C2 _ _ _ rs b C rfl HF3.out (by omega) rfl ?_; intro v4 w4 hf4; have HF4 := hide hf4; clear hf4 s0 s1)
              | fail)
            go_roundw
            case rel =>
              refine ⟨i + 1, by omega, by simp, ⟨_, _, HF4.out, by simp; omega, by simp; omega, fun h => ?_⟩⟩
              rw [anyO_snoc, rOth_snoc, HAN.out h]
              rfl
            case measure => simp [RowKit.intOf]; omega
          · have HC := hide (fun W => open_shape b C i W hok)
            unfold qAgg at HC
            have HOK := hide hok
            clear hok
            go_wp2_with (first
              | (go_at_call 13; refine (HC.out _).mono ?_; rintro e w2 ⟨rfl, hb2⟩; have HF2 := hide (HFS.out.below hb2); clear hb2 s0 s1)
              | fail)
            go_roundw
            case rel => exact ⟨i + 1, by omega, by simp, ⟨hs, rs, HF2.out, by omega, by omega, HAN.out⟩⟩
            case measure => simp [RowKit.intOf]; omega
        · obtain rfl : i = 3 := by omega
          clear s0 s1
          go_wp2_with fail
          go_meet
          case rel => exact HFV.out
      · clear s0 s1
        go_wp2_with fail
        go_meet
        case rel => exact ⟨hs, rs, HFS.out, by omega, by omega, HAN.out⟩
  case rest =>
    clear HF0
    obtain ⟨hs, rs, hfs, l1, l2, han⟩ := hcut.ex
    have HFS := hide hfs
    have HAN := hide han
    obtain ⟨s2, s3⟩ := hfs.q2.two
    clear hfs han hcut
    go_upto_region 10 with fail
    go_cut [14, 15] from 59 to 63 (fun p e wx => FS w b C b2 C2 u9 u10 hs rs wx ∧ ((∃ H, p = .pointer (some ⟨H, 0, none⟩) ∧ e = .int .i64 0 ∧ HAt wx H b2 C2 ∧ hFar u9 u10 (some (H, b2, C2))) ∨ (p = .pointer none ∧ e = .int .i64 60)))
    case first =>
      by_cases hok2 : OkR b2 C2
      · have HC := hide (fun W => open_ok b2 C2 0 W hok2 (by omega))
        unfold qAgg at HC
        clear hok2
        go_wp2_with (first
          | (go_at_call 13; refine (HC.out _).mono ?_; rintro e w2 ⟨H, rfl, hH, hat, hb2⟩; have HFA := hide (HFS.out.fl.far (H := H) (b := b2) (C := C2) hH); have HF2 := hide (HFS.out.below hb2); have HAT := hide hat; clear hb2 hat hH s2 s3)
          | fail)
        go_meet
        case rel => exact ⟨HF2.out, .inl ⟨H, rfl, rfl, HAT.out, HFA.out⟩⟩
      · have HC := hide (fun W => open_shape b2 C2 0 W hok2)
        unfold qAgg at HC
        clear hok2
        go_wp2_with (first
          | (go_at_call 13; refine (HC.out _).mono ?_; rintro e w2 ⟨rfl, hb2⟩; have HF2 := hide (HFS.out.below hb2); clear hb2 s2 s3)
          | fail)
        go_meet
        case rel => exact ⟨HF2.out, .inr ⟨rfl, rfl⟩⟩
    case rest =>
      clear HFS s2 s3
      obtain ⟨hfs, hcase⟩ := hcut
      have HFS := hide hfs
      clear hfs
      go_upto_region 11 with fail
      go_cut [69] from 64 to 68 (fun c wx => FS w b C b2 C2 u9 u10 hs rs wx ∧ ((c = .bool true ∧ ∃ H, u14 = .pointer (some ⟨H, 0, none⟩) ∧ HAt wx H b2 C2 ∧ hFar u9 u10 (some (H, b2, C2))) ∨ c = .bool false))
      case first =>
        rcases hcase with ⟨H, rfl, rfl, hat, hfa⟩ | ⟨rfl, rfl⟩
        · have HAT := hide hat
          have HFA := hide hfa
          clear hat hfa
          by_cases h2 : (2 : Int) < own
          · go_wp2_with fail
            go_meet
            case rel => exact ⟨HFS.out, .inl ⟨rfl, H, rfl, HAT.out, HFA.out⟩⟩
          · go_wp2_with fail
            go_meet
            case rel => exact ⟨HFS.out, .inr rfl⟩
        · go_wp2_with fail
          go_meet
          case rel => exact ⟨HFS.out, .inr rfl⟩
      case rest =>
      clear HFS hcase
      obtain ⟨hfs, hcase⟩ := hcut
      have HFS := hide hfs
      obtain ⟨s2, s3⟩ := hfs.q2.two
      clear hfs
      go_upto_if 69 with fail
      go_cut [9, 10] from 69 to 77 (fun hv rv wx => FV w b C b2 C2 4 hv rv wx)
      case first =>
        rcases hcase with ⟨rfl, H, rfl, hat, hfa⟩ | rfl
        · have HAT := hide hat
          have HFA := hide hfa
          clear hat hfa
          go_wp2_with (first
              | (at_builtin; refine wpList_append_h rfl (.tmp 70) (.tmp 72) rfl i0 hi hz0 hz1 hz2 w b C b2 C2 _ _ hs rs (some (H, b2, C2)) rfl HFS.out HAT.out HFA.out (by omega) rfl ?_; intro v3 w3 hf3; have HF3 := hide hf3; clear s2 s3; obtain ⟨s2, s3⟩ := hf3.q2.two; clear hf3)
              | (at_builtin; refine wpList_append_r rfl (.tmp 74) (.tmp 76) rfl j0 hj hy0 hy1 hy2 w b C b2 C2 _ _ _ rs b2 C2 rfl HF3.out (by omega) rfl ?_; intro v4 w4 hf4; have HF4 := hide hf4; clear hf4 s2 s3)
              | fail)
          go_meet
          case rel =>
            refine ⟨_, _, HF4.out, by simp; omega, by simp; omega, fun h => ?_⟩
            rw [anyO_snoc, rOth_snoc, HAN.out h]
            rfl
        · go_wp2_with fail
          go_meet
          case rel => exact ⟨hs, rs, HFS.out, by omega, by omega, HAN.out⟩
      case rest =>
        clear HFS s2 s3 hcase HAN l1 l2
        obtain ⟨hs, rs, hfs, l1, l2, han⟩ := hcut.ex
        have HFS := hide hfs
        have HAN := hide han
        clear hfs han hcut
        go_upto_if 79 with fail
        go_cut [9, 10] from 78 to 86 (fun hv rv wx => FV w b C b2 C2 5 hv rv wx)
        case first =>
          by_cases h4 : (4 : Int) < own
          · go_wp2_with (first
              | (at_builtin; refine wpList_append_h rfl (.tmp 80) (.tmp 81) rfl i0 hi hz0 hz1 hz2 w b C b2 C2 _ _ hs rs none rfl HFS.out trivial trivial (by omega) rfl ?_; intro v3 w3 hf3; have HF3 := hide hf3; clear hf3)
              | (at_builtin; refine wpList_append_r rfl (.tmp 83) (.tmp 85) rfl j0 hj hy0 hy1 hy2 w b C b2 C2 _ _ _ rs (-1) 0 rfl HF3.out (by omega) rfl ?_; intro v4 w4 hf4; have HF4 := hide hf4; clear hf4)
              | fail)
            go_meet
            case rel =>
              refine ⟨_, _, HF4.out, by simp; omega, by simp; omega, fun h => ?_⟩
              rw [anyO_snoc, rOth_snoc, HAN.out h, oth_neg h]
              rfl
          · go_wp2_with fail
            go_meet
            case rel => exact ⟨hs, rs, HFS.out, by omega, by omega, HAN.out⟩
        case rest =>
          clear HFS HAN l1 l2
          obtain ⟨hs, rs, hfs, l1, l2, han⟩ := hcut.ex
          have HFS := hide hfs
          have HAN := hide han
          clear hfs han hcut
          obtain ⟨s0, s1⟩ := HFS.out.q1.two
          obtain ⟨E, hE⟩ : ∃ E, E = errH b C n (anyO b C hs) := ⟨_, rfl⟩
          obtain ⟨A, hA⟩ : ∃ A, A = ansH b C xs (anyO b C hs) := ⟨_, rfl⟩
          obtain ⟨N, hNA⟩ : ∃ N, N = A.length := ⟨_, rfl⟩
          have hN1 : N ≤ 65536 := by rw [hNA, hA]; exact ansH_len _ _ _ _
          have HE0 : Hid (¬ E = 0 → N = 0) := fun h => by rw [hNA, hA]; exact ansH_bad (by rw [← HN.out, ← hE]; exact h)
          have HER := hide (fun W => herr_any b C ao n ca u10 rs W)
          rw [errH_alike HAN.out, ← hE] at HER
          have HHE : Hid (∀ W, MS w b C u9 hs 0 0 n xs W → True) := fun _ _ => trivial
          have HHL : Hid (∀ g c W, MS w b C u9 hs g c n xs W → Calls Try.prog 15 #[.agg #[.int .i64 b, .int .i64 C], .slice (some ⟨g, 0, none⟩) n c, u9] W fun e w' => ∃ ao k, e = .returned (.tuple #[.slice ao N k, .int .i64 E]) ∧ LT W.heap.size w'.heap.size (.slice ao N k) A w' ∧ Below W.heap.size W w') := fun g c W hm =>
            held_of b C xs _ u9 hs W E A N hm.fu.row HWD.out (by rw [← HN.out]; omega) hm.hs (by rw [← HN.out, hE]) hA.symm hNA
          have HHZ : Hid (∀ v W, RowAt .u64 W v (tab n (fun _ => 0)) → HsAt W u9 hs → Calls Try.prog 15 #[.agg #[.int .i64 b, .int .i64 C], v, u9] W fun e w' => ∃ ao k, e = .returned (.tuple #[.slice ao 0 k, .int .i64 E]) ∧ LT W.heap.size w'.heap.size (.slice ao 0 k) [] w' ∧ Below W.heap.size W w') := fun v W hr hh =>
            held_of b C _ v u9 hs W E [] 0 hr (wds_zero n) (by rw [tab_length]; omega) hh (by rw [tab_length, hE]) (ansH_zero _ _ _ _) rfl
          have HRH : Hid (E = 0 → ∀ W, RowAt .u64 W (.slice ao n ca) xs → Calls Try.prog 17 #[.agg #[.int .i64 b, .int .i64 C], .slice ao n ca, .slice none 0 0] W fun e w' => ∃ u, e = .returned u ∧ TOwn w' W.heap.size u A ∧ Below W.heap.size W w') := fun h0 W hr => by
            rw [hA]; exact refHeld_ans b C xs _ _ W hr HWD.out (by rw [← HN.out, ← hE]; exact h0)
          have HST := hide (fun v1 v2 w h1 h2 => sameTasks_any v1 v2 A w h1 h2)
          have HNA := hide hNA
          unfold qAgg at HER
          clear hE hA hNA HHE HAN
          go_wp2_with (first
            | (go_at_call 14; refine (HER.out _ HFS.out.fl.rsAt).mono ?_; rintro e w1 ⟨rfl, hb1⟩; have HF1 := hide (HFS.out.below hb1); clear hb1 s0 s1 HFS)
            | (at_builtin; refine wpList_fresh rfl (.tmp 91) (.tmp 92) 25 rfl .u64 32 k0 (.int .u64 0) 8 Try.underlying25 hk hk0 hk1 hk2 rfl w1.heap.size _ (own_new1 _ 32 w1.heap.size rfl) (by simp) _ xs rfl rfl (HX.out.below (below_alloc HF1.out.q1.bel _)) (by rw [← HN.out]; omega) (by rw [← HN.out]; unfold maxLen; omega) ?_; intro v4 w4 hownA hbelA; rw [← HN.out] at hownA)
            | (at_builtin; refine wpList_append_own _ rfl (.tmp 93) (.tmp 94) 25 rfl _ 32 k0 (.int .u64 0) 1 8 Try.underlying25 hk hk0 hk1 hk2 rfl (by decide) _ _ _ rfl (hownA.alloc _) ⟨w4.heap.size, 0, none⟩ 2 2 [.int .u64 71, .int .u64 72] rfl rfl (two_at w4 _ _ _) (by simp [Value.oneCell']) (by unfold maxLen; omega) (by omega) (by have hq := hbelA.size; simp at hq; simp; omega) ?_; intro v5 w5 hownB hgrowB hqB; rw [HN.out] at hownA hownB; obtain ⟨g, c, rfl, ka, kb, hfu, hbel⟩ := marksU_made rfl hownA (below_on (below_alloc (Below.refl _ _) _) hbelA) hownB hgrowB; rw [← HN.out] at ka hfu; have HW5 := hide (show MS w b C u9 hs g c n xs w5 from ⟨HF1.out.q1.below hbel, HF1.out.fl.hsAt.below hbel, hfu⟩); clear hownA hbelA hownB hgrowB hqB hfu hbel HF1)
            | fail)
          rw [← HN.out]
          have j1 : (n : Int) ≤ (c : Int) := by omega
          have j2 : n ≤ c := by omega
          have j3 : (0 : Int) ≤ (n : Int) := by omega
          obtain ⟨s0, s1⟩ := HW5.out.q.two
          have HWd := hide (HW5.out.below (Below.refl _ _).drew)
          go_region_held3 (fun x => x.cell? ⟨w.heap.size, 0, none⟩ = some (.int .i64 b) ∧ x.cell? ⟨w.heap.size, 1, none⟩ = some (.int .i64 C))
            (first | go_keep | exact HW6.out.q.two)
            ((go_at_call 15; refine (HHL.out _ _ _ HWd.out).mono ?_; rintro e w6 ⟨a1, k1, rfl, hL, hb⟩; have HL6 : Hid (LT w5.heap.size w6.heap.size (.slice a1 N k1) A w6) := hide hL; have HB6 : Hid (Below w5.heap.size w5 w6) := hide (below_on (Below.refl _ w5).drew hb); have HW6 := hide (HWd.out.below hb); clear hL hb))
          rename_i hHeld
          clear hHeld s0 s1 HWd
          go_wp2_with fail
          obtain ⟨s0, s1⟩ := HW6.out.q.two
          have HWd := hide (HW6.out.below (Below.refl _ _).drew)
          go_region_held3 (fun x => x.cell? ⟨w.heap.size, 0, none⟩ = some (.int .i64 b) ∧ x.cell? ⟨w.heap.size, 1, none⟩ = some (.int .i64 C))
            (first | go_keep | exact HW7.out.q.two)
            ((go_at_call 15; refine (HHL.out _ _ _ HWd.out).mono ?_; rintro e w7 ⟨a2, k2, rfl, hL, hb⟩; have HL7 : Hid (LT w6.heap.size w7.heap.size (.slice a2 N k2) A w7) := hide hL; have HB7 : Hid (Below w6.heap.size w6 w7) := hide (below_on (Below.refl _ w6).drew hb); have HW7 := hide (HWd.out.below hb); clear hL hb))
          rename_i hHeld
          clear hHeld s0 s1 HWd
          go_wp2_with fail
          obtain ⟨s0, s1⟩ := HW7.out.q.two
          have h63n : n ≤ 9223372036854775807 := by omega
          have hmk := fun W => run_make_row' (P := Try.prog) 25 32 (.int .u64 0) 8 Try.underlying25 Try.info32 rfl .i64 .i64 n (by omega) (by omega) W
          go_region_held3 (fun x => x.cell? ⟨w.heap.size, 0, none⟩ = some (.int .i64 b) ∧ x.cell? ⟨w.heap.size, 1, none⟩ = some (.int .i64 C))
            (first | go_keep | exact HW8.out.q.two | exact (HW7.out.below (below_alloc (below_drew (Below.refl _ _)) _)).q.two | exact (HW7.out.below (below_drew (below_alloc (Below.refl _ _) _))).q.two)
            ((first
              | (go_at_call 15; refine (HHZ.out _ (w7.drew.alloc (.cells (madeCells #[.int .u64 0] n) 32)) (zeros_row w7.drew n h63n) (HW7.out.hs.below (below_alloc (below_drew (Below.refl _ _)) _))).mono ?_; rintro e w8 ⟨a3, k3, rfl, hL, hb⟩; have HB8 : Hid (Below w7.heap.size w7 w8) := hide (below_on (below_alloc (below_drew (Below.refl _ _)) _) hb); have HW8 := hide (HW7.out.below HB8.out); clear hL hb)
              | (go_at_call 15; refine (HHZ.out _ ((w7.alloc (.cells (madeCells #[.int .u64 0] n) 32)).drew) (zeros_row w7 n h63n) (HW7.out.hs.below (below_drew (below_alloc (Below.refl _ _) _)))).mono ?_; rintro e w8 ⟨a3, k3, rfl, hL, hb⟩; have HB8 : Hid (Below w7.heap.size w7 w8) := hide (below_on (below_drew (below_alloc (Below.refl _ _) _)) hb); have HW8 := hide (HW7.out.below HB8.out); clear hL hb)))
          rename_i hHeld
          clear hHeld s0 s1 hmk
          go_wp2_with fail
          obtain ⟨s0, s1⟩ := HW8.out.q.two
          have HWd := hide (HW8.out.below (Below.refl _ _).drew)
          go_region_held3 (fun x => x.cell? ⟨w.heap.size, 0, none⟩ = some (.int .i64 b) ∧ x.cell? ⟨w.heap.size, 1, none⟩ = some (.int .i64 C))
            (first | go_keep | exact HW9.out.q.two)
            ((go_at_call 15; refine (HHL.out _ _ _ HWd.out).mono ?_; rintro e w9 ⟨a4, k4, rfl, hL, hb⟩; have HL9 : Hid (LT w8.heap.size w9.heap.size (.slice a4 N k4) A w9) := hide hL; have HB9 : Hid (Below w8.heap.size w8 w9) := hide (below_on (Below.refl _ w8).drew hb); have HW9 := hide (HWd.out.below hb); clear hL hb))
          rename_i hHeld
          clear hHeld s0 s1 HWd
          have HK := hide (show HD w b C u9 hs g c n xs w5.heap.size w6.heap.size w7.heap.size w8.heap.size w9.heap.size (.slice a1 N k1) (.slice a2 N k2) (.slice a4 N k4) A w9 from
            ⟨HW9.out, HL6.out.below (below_on HB7.out (below_on HB8.out HB9.out)), HL7.out.below (below_on HB8.out HB9.out), HL9.out⟩)
          have q56 : w5.heap.size ≤ w6.heap.size := HB6.out.size
          have q67 : w6.heap.size ≤ w7.heap.size := HB7.out.size
          have q78 : w7.heap.size ≤ w8.heap.size := HB8.out.size
          have q89 : w8.heap.size ≤ w9.heap.size := HB9.out.size
          have q5 : w.heap.size + 1 ≤ w5.heap.size := lt_of_heap HW5.out.q.bx
          clear HW5 HW6 HW7 HW8 HW9 HL6 HL7 HL9 HB6 HB7 HB8 HB9 HHL HHZ HER
          have hwn : IntKind.i64.wrap ((n : Int) + 1) = (n : Int) + 1 := IntWalk.i64_in _ (by omega)
          have j4 : n < n + 2 := by omega
          have j5 : n + 1 < n + 2 := by omega
          go_wp2_with (first
            | (go_at_call 16; refine (HST.out _ _ _ HK.out.t1.tat HK.out.t2.tat).mono ?_; rintro e wa ⟨rfl, hba⟩; have HKa := hide (HK.out.below hba); have HQA : Hid (w9.heap.size ≤ wa.heap.size) := hba.size; clear hba HK)
            | (go_at_call 16; refine (HST.out _ _ _ HKa.out.t1.tat HKa.out.t4.tat).mono ?_; rintro e wb ⟨rfl, hbb⟩; have HKb := hide (HKa.out.below hbb); have HQB : Hid (w9.heap.size ≤ wb.heap.size) := Nat.le_trans HQA.out hbb.size; clear hbb HKa HQA; have y1 := HKb.out.m.fu.c1; have y2 := HKb.out.m.fu.c2)
            | fail)
          clear y1 y2
          go_loopw [26] (fun t wr => ∃ i : Nat, i ≤ n ∧ t = .int .i64 i ∧ HD w b C u9 hs g c n xs w5.heap.size w6.heap.size w7.heap.size w8.heap.size w9.heap.size (.slice a1 N k1) (.slice a2 N k2) (.slice a4 N k4) A wr ∧ w9.heap.size ≤ wr.heap.size) (fun t _ => n - (RowKit.intOf t).toNat)
          case atStart => exact ⟨0, by omega, rfl, HKb.out, HQB.out⟩
          case round =>
            obtain ⟨i, hin, rfl, hkb, hqb⟩ := hrel
            clear HKb HQB
            have HKb := hide hkb
            have HQB := hide hqb
            by_cases hlt : i < n
            · obtain ⟨gx, ox, cx, hex, _, q⟩ := (HX.out.below hkb.m.q.bel).cellAt i (by rw [← HN.out]; exact hlt)
              have p := hkb.m.fu.at i hlt HN.out
              rw [← HN.out] at hex
              simp only [Value.slice.injEq, true_and] at hex
              obtain ⟨rfl, rfl⟩ := hex
              have y0 := gw_cell p; have y1 := gw_cell q
              have i1 : (i : Int) < (n : Int) := by omega
              have i2 : i < n + 2 := by omega
              have hwr : IntKind.i64.wrap ((i : Int) + 1) = (i : Int) + 1 := IntWalk.i64_in _ (by omega)
              clear hkb hqb
              go_wp2_with fail
              refine wp_region_gw (by kernel_rfl) (by kernel_rfl) ?_
              repeat (go_big_quiet_step (rfl))
              refine wpQuiet_nil ?_
              intro _ hw'
              obtain ⟨x', hw''⟩ := hw'
              subst hw''
              have HKc := hide (HKb.out.below x'.bel)
              have HQC := hide (Nat.le_trans HQB.out x'.bel.size)
              clear y0 y1 p q
              generalize x'.world = w3 at HKc HQC ⊢
              clear x'
              go_wp2
              go_roundw
              case rel => exact ⟨i + 1, by omega, by simp, HKc.out, HQC.out⟩
              case measure => simp [RowKit.intOf]; omega
            · obtain rfl : i = n := by omega
              clear hkb hqb
              by_cases hE0 : E = 0
              · subst hE0
                have HU0 := hide (HRH.out rfl)
                obtain ⟨s0, s1⟩ := HKb.out.m.q.two
                clear HRH HE0
                go_wp2_with (first
                  | (go_at_call 17; refine (HU0.out _ (HX.out.below HKb.out.m.q.bel)).mono ?_; rintro e wc1 ⟨u, rfl, hou, hbc⟩; have HKc := hide (HKb.out.below hbc); have HQC := hide (Nat.le_trans HQB.out hbc.size); have HUc := hide hou.tat; clear hbc hou HKb HQB s0 s1)
                  | (go_at_call 16; refine (HST.out _ _ _ HKc.out.t1.tat HUc.out).mono ?_; rintro e wd ⟨rfl, hbd⟩; have HKd := hide (HKc.out.below hbd); have HQD := hide (Nat.le_trans HQC.out hbd.size); have HUd := hide (HUc.out.below hbd); clear hbd HKc HQC HUc)
                  | (go_at_call 16; refine (HST.out _ _ _ HKd.out.t2.tat HUd.out).mono ?_; rintro e we ⟨rfl, hbe⟩; have HKe := hide (HKd.out.below hbe); have HQE := hide (Nat.le_trans HQD.out hbe.size); have HUe := hide (HUd.out.below hbe); clear hbe HKd HQD HUd)
                  | (go_at_call 16; refine (HST.out _ _ _ HKe.out.t4.tat HUe.out).mono ?_; rintro e wf ⟨rfl, hbf⟩; have HKf := hide (HKe.out.below hbf); have HQF := hide (Nat.le_trans HQE.out hbf.size); clear hbf HKe HQE HUe)
                  | fail)
                have HM0 := hide (show M3 w w5.heap.size w6.heap.size w7.heap.size w8.heap.size w9.heap.size (.slice a1 N k1) (.slice a2 N k2) (.slice a4 N k4) N 0 0 0 wf from ⟨by have := HKf.out.t1.mk' 1001; rw [← HNA.out] at this; exact this, by have := HKf.out.t2.mk' 1002; rw [← HNA.out] at this; exact this, by have := HKf.out.t4.mk' 1003; rw [← HNA.out] at this; exact this, HKf.out.m.q.bel, HQF.out⟩)
                clear HKf HQF HST HU0 HX
                generalize w5.heap.size = S1 at HM0 q56 q5 ⊢
                generalize w6.heap.size = S2 at HM0 q56 q67 ⊢
                generalize w7.heap.size = S3 at HM0 q67 q78 ⊢
                generalize w8.heap.size = S4 at HM0 q78 q89 ⊢
                generalize w9.heap.size = S5 at HM0 q89 ⊢
                go_loopw [28] (fun t wr => ∃ i : Nat, i ≤ N ∧ t = .int .i64 i ∧ M3 w S1 S2 S3 S4 S5 (.slice a1 N k1) (.slice a2 N k2) (.slice a4 N k4) N i i i wr) (fun t _ => N - (RowKit.intOf t).toNat)
                case atStart => exact ⟨0, by omega, rfl, HM0.out⟩
                case round =>
                  obtain ⟨i, hiN, rfl, hm3⟩ := hrel
                  clear HM0
                  by_cases hiN2 : i < N
                  · obtain ⟨g1, rfl, x1⟩ := mkT_blk hm3.m1 (by omega)
                    obtain ⟨g2, rfl, x2⟩ := mkT_blk hm3.m2 (by omega)
                    obtain ⟨g4, rfl, x4⟩ := mkT_blk hm3.m4 (by omega)
                    have i1 : (i : Int) < (N : Int) := by omega
                    have hwr : IntKind.i64.wrap ((i : Int) + 1) = (i : Int) + 1 := IntWalk.i64_in _ (by omega)
                    obtain ⟨⟨v1, c1⟩, f1, p1, p2, _⟩ := mkT_here hm3.m1 i hiN2
                    have HM1 := hide (hm3.put1 hiN2 p1 p2 (by omega) (by omega))
                    clear hm3 p1 p2
                    go_upto_region 39 with fail
                    clear c1 f1
                    generalize wr.setCell { block := g1, off := i * 2 } (Value.int IntKind.u64 1001) = X1 at HM1 ⊢
                    obtain ⟨⟨v2, c2⟩, f2, p1, p2, _⟩ := mkT_here HM1.out.m2 i hiN2
                    have HM2 := hide (HM1.out.put2 hiN2 p1 p2 (by omega) (by omega))
                    clear HM1 p1 p2
                    go_upto_region 40 with fail
                    clear c2 f2
                    generalize X1.setCell { block := g2, off := i * 2 } (Value.int IntKind.u64 1002) = X2 at HM2 ⊢
                    obtain ⟨⟨v4, c4⟩, f4, p1, p2, _⟩ := mkT_here HM2.out.m4 i hiN2
                    have HM4 := hide (HM2.out.put4 hiN2 p1 p2 (by omega) (by omega) (by omega))
                    clear HM2 p1 p2
                    go_wp2_with fail
                    go_roundw
                    case rel => exact ⟨i + 1, by omega, by simp, HM4.out⟩
                    case measure => simp [RowKit.intOf]; omega
                  · obtain rfl : i = N := by omega
                    have HA0 := hide (A3.start hm3)
                    clear hm3
                    go_wp2_with fail
                    go_loopw [29, 30, 31, 32] (fun x1 x2 x4 t wr => ∃ k : Nat, k ≤ 64 ∧ t = .int .i64 k ∧ A3 w S1 S2 S3 S4 S5 (.slice a1 i k1) (.slice a2 i k2) (.slice a4 i k4) x1 x2 x4 i (i + k) (i + k) (i + k) wr) (fun _ _ _ t _ => 64 - (RowKit.intOf t).toNat)
                    case atStart => exact ⟨0, by omega, rfl, HA0.out⟩
                    case round =>
                      obtain ⟨k, hk64, rfl, ha3⟩ := hrel
                      clear HA0
                      have HA := hide ha3
                      clear ha3
                      by_cases hkk : k < 64
                      · have hki : (k : Int) < 64 := by omega
                        go_wp2_with (first
                          | (at_builtin; refine wpList_append_st rfl (.tmp 236) (.tmp 238) rfl t0 ht ht0 ht1 ht2 S1 S2 S5 _ _ i (i + k) 1001 74 rfl HA.out.m1 HA.out.sz (by omega) (by omega) rfl ?_; intro v1 w1 hs1 ht1'; have HA1 := hide (HA.out.app1 hs1 ht1' (by omega) (by omega) (by omega) (by omega) (by omega)); clear hs1 ht1' HA)
                          | (at_builtin; refine wpList_append_st rfl (.tmp 240) (.tmp 242) rfl t0 ht ht0 ht1 ht2 S2 S3 S5 _ _ i (i + k) 1002 75 rfl HA1.out.m2 HA1.out.sz (by omega) (by omega) rfl ?_; intro v2 w2 hs2 ht2'; have HA2 := hide (HA1.out.app2 hs2 ht2' (by omega) (by omega) (by omega) (by omega) (by omega)); clear hs2 ht2' HA1)
                          | (at_builtin; refine wpList_append_st rfl (.tmp 244) (.tmp 246) rfl t0 ht ht0 ht1 ht2 S4 S5 S5 _ _ i (i + k) 1003 76 rfl HA2.out.m4 HA2.out.sz (by omega) (by omega) rfl ?_; intro v4 w4 hs4 ht4'; have HA4 := hide (HA2.out.app4 hs4 ht4' (by omega) (by omega) (by omega) (by omega) (by omega)); clear hs4 ht4' HA2)
                          | fail)
                        go_roundw
                        case rel => exact ⟨k + 1, by omega, by simp, HA4.out⟩
                        case measure => simp [RowKit.intOf]; omega
                      · obtain rfl : k = 64 := by omega
                        have HM := hide HA.out.marks
                        clear HA
                        rw [show ((64 : Nat) : Int) = 64 from rfl]
                        go_wp2_with fail
                        go_loopw [33] (fun t wr' => ∃ j : Nat, j ≤ i ∧ t = .int .i64 j ∧ wr' = wr) (fun t _ => i - (RowKit.intOf t).toNat)
                        case atStart => exact ⟨0, by omega, rfl, rfl⟩
                        case round =>
                          obtain ⟨j, hji, rfl, hwr⟩ := hrel
                          subst hwr
                          by_cases hj2 : j < i
                          · obtain ⟨g1, rfl, x1⟩ := mkT_blk HM.out.m1 (by omega)
                            obtain ⟨g2, rfl, x2⟩ := mkT_blk HM.out.m2 (by omega)
                            obtain ⟨g4, rfl, x4⟩ := mkT_blk HM.out.m4 (by omega)
                            have i1 : (j : Int) < (i : Int) := by omega
                            have hwr : IntKind.i64.wrap ((j : Int) + 1) = (j : Int) + 1 := IntWalk.i64_in _ (by omega)
                            have c1 := (mkT_here HM.out.m1 j hj2).2.2.2.2 hj2
                            have c2 := (mkT_here HM.out.m2 j hj2).2.2.2.2 hj2
                            have c4 := (mkT_here HM.out.m4 j hj2).2.2.2.2 hj2
                            go_wp2_with fail
                            go_roundw
                            case rel => exact ⟨j + 1, by omega, by simp, by trivial⟩
                            case measure => simp [RowKit.intOf]; omega
                          · obtain rfl : j = i := by omega
                            have HB := hide HM.out.bel
                            go_wp2_with fail
                            go_ret
                            exact ⟨rfl, HB.out⟩
              · have hN0 := HE0.out hE0
                subst hN0
                have hEb : (E != 0) = true := by simpa using hE0
                go_wp2
                go_ret
                exact ⟨rfl, HKb.out.m.q.bel⟩
end Go.Proofs.Ytajcoimeeohnoaa
