/- TokenBalances: the walk. -/
import Derived.Test.YtlncjbjdjciphaaM1
namespace Go.Proofs.Ytlncjbjdjciphaa
open Go.RowKit Go.Lib
set_option linter.unusedVariables false
set_option linter.unusedSimpArgs false
set_option maxRecDepth 100000 in
theorem rest_any (i n : Int) (w : World) (hn : 0 < n) (hn2 : n ≤ 9223372036854775807) :
    Calls Try.prog 8 #[.int .i64 i, .int .i64 n] w fun r w' => r = .returned (.int .i64 (i % n)) ∧ w' = w := by
  have hne : ¬ n = 0 := by omega
  have E := hide (emod_of_tmod i n hn)
  have hb := Int.tmod_lt_of_pos i hn
  by_cases h : i.tmod n < 0
  · have hb2 : -9223372036854775807 < i.tmod n := by
      have := Int.tmod_lt_of_pos (-i) hn
      rw [Int.neg_tmod] at this
      omega
    go_enter Try.func8, Try.ntmps8
    go_wp2
    go_ret
    rw [E.out, if_pos h]
    exact ⟨rfl, rfl⟩
  · go_enter Try.func8, Try.ntmps8
    go_wp2
    go_ret
    rw [E.out, if_neg (by omega)]
    exact ⟨rfl, rfl⟩
theorem field45 (a d : Int) (p q r : Bool) (w : World) : (Instr.field 45 (.agg #[.int .i64 a, .bool p, .bool q, .int .i64 d, .bool r]) 0).run Try.prog w = .ok (.int .i64 a) w := by kernel_rfl
/-- The sums so far. -/
def sB (ds : Nat → Nd) (j : Nat) : Int := sumF (fun j => (ds j).bal) j
def sC (cs : List Int) (j : Nat) : Int := sumF (fun j => nth cs (4 + j)) j
structure SumB (n : Nat) (ds : Nat → Nd) (cs : List Int) : Prop where
  b : ∀ j, j ≤ n → -67108928 ≤ sB ds j ∧ sB ds j ≤ 67108928
  c : ∀ j, j ≤ n → 0 ≤ sC cs j ∧ sC cs j ≤ 4294971392
  cj : ∀ j, j < n → 0 ≤ nth cs (4 + j) ∧ nth cs (4 + j) ≤ 67108928
  bj : ∀ j, j < n → -1048577 ≤ (ds j).bal ∧ (ds j).bal ≤ 1048577
  eq : sB ds n = sC cs n
theorem Sys.sums {n K : Nat} {ds : Nat → Nd} {cs : List Int} (h : Sys n K ds cs) (hn : n ≤ 64) (hK : K ≤ 1048577) : SumB n ds cs := by
  have cj : ∀ j, j < n → 0 ≤ nth cs (4 + j) ∧ nth cs (4 + j) ≤ 67108928 := fun j hj => ⟨(h.wd (4 + j) (by omega)).1, by have := h.mail hn hj; omega⟩
  have bj : ∀ j, j < n → -1048577 ≤ (ds j).bal ∧ (ds j).bal ≤ 1048577 := fun j hj => by have := (h.wf j hj).ba; omega
  refine ⟨fun j hj => ?_, fun j hj => ?_, cj, bj, h.sum⟩
  · have h1 := sumF_le (f := fun j => (ds j).bal) (n := j) (K := 1048577) (fun i hi => (bj i (by omega)).2)
    have h2 := sumF_ge (f := fun j => (ds j).bal) (n := j) (K := 1048577) (fun i hi => (bj i (by omega)).1)
    unfold sB
    have : (j : Int) * 1048577 ≤ 64 * 1048577 := Int.mul_le_mul_of_nonneg_right (by omega) (by omega)
    omega
  · have h1 := sumF_le (f := fun j => nth cs (4 + j)) (n := j) (K := 67108928) (fun i hi => (cj i (by omega)).2)
    have h2 := (sumF_pos (f := fun j => nth cs (4 + j)) (n := j) (fun i hi => (cj i (by omega)).1)).1
    unfold sC
    have : (j : Int) * 67108928 ≤ 64 * 67108928 := Int.mul_le_mul_of_nonneg_right (by omega) (by omega)
    omega
theorem tot_ge {ls : List (List Int)} : ∀ {n i : Nat}, i < n → (rowL ls i).length ≤ tot ls n
  | 0, _, h => by omega
  | n + 1, i, h => by
    unfold tot
    by_cases e : i = n
    · subst e; omega
    · have := tot_ge (ls := ls) (show i < n by omega); omega
theorem nth_cl0 (n t : Nat) (h : t < 4 + n) : nth (cl0 n) t = if t = 3 then 1 else 0 := by
  have := tab_at (4 + n) (fun t => if t = 3 then (1 : Int) else 0) t h
  unfold at_ at this
  unfold nth cl0
  rw [List.getD_eq_getElem?_getD]; exact this
theorem sumF_zero {f : Nat → Int} : ∀ {n : Nat}, (∀ j, j < n → f j = 0) → sumF f n = 0
  | 0, _ => rfl
  | n + 1, h => by unfold sumF; rw [sumF_zero (fun j hj => h j (by omega)), h n (by omega)]; rfl
theorem sys_new {ls : List (List Int)} {aw : List Int} {b : Int} (hck : CkA ls aw b 0) (hbu : b ≤ 9223372036854775807) : Sys ls.length 0 (fun j => Nd.new ls aw b j) (cl0 ls.length) := by
  have hz : ∀ x : Int, x = 0 → W64 x := fun x e => by unfold W64; omega
  rcases hck with ⟨_, e⟩ | ⟨h1, h2, ⟨_, e⟩ | ⟨hrow, ⟨_, e⟩ | ⟨ht, ⟨_, e⟩ | ⟨hok, ⟨_, e⟩ | ⟨hb, _⟩⟩⟩⟩⟩
  · cases e
  · cases e
  · cases e
  · cases e
  · cases e
  have hl : ∀ j, j < ls.length → (rowL ls j).length ≤ 10000 := fun j hj => by have := tot_ge (ls := ls) hj; omega
  refine ⟨cl0_len _, fun j hj => ?_, ?_, fun i hi => ?_⟩
  · have hlj := hl j hj
    refine ⟨rfl, rfl, hj, h2, hrow j hj, hlj, ⟨(by show 0 ≤ b; omega), hbu⟩, ?_, ⟨Int.le_refl _, (by show (0 : Int) ≤ ((rowL ls j).length : Int); omega)⟩, ⟨by simp [Nd.new], by simp [Nd.new]⟩, (by show 1 ≤ 11; omega), fun e => (by cases e), fun e => (by cases e), fun e => ?_, hz _ rfl, hz _ rfl, hz _ rfl⟩
    · show 0 ≤ (if (j : Int) ∈ aw then ((rowL ls j).length : Int) else 0) ∧ (if (j : Int) ∈ aw then ((rowL ls j).length : Int) else 0) ≤ ((rowL ls j).length : Int)
      split <;> omega
    · have : (3 : Nat) ≤ 1 := e
      omega
  · rw [sumF_zero (f := fun j => (Nd.new ls aw b j).bal) (fun j _ => rfl)]
    rw [sumF_zero (f := fun j => nth (cl0 ls.length) (4 + j)) (fun j hj => by rw [nth_cl0 _ _ (by omega), if_neg (by omega)])]
  · rw [nth_cl0 _ _ hi]
    unfold W64
    split <;> omega
theorem row_ptr {W : World} {Z n : Nat} {t : TypeId} {v : Value} {f : Nat → Nat} (h : W.ownsRow Z t 1 v n (ptrs f n)) (hn : 0 < n) : ∃ g c, v = .slice (some ⟨g, 0, none⟩) n c := by
  obtain ⟨_, ⟨_, e⟩ | ⟨g, cap, cur, e, _⟩⟩ := h
  · omega
  · exact ⟨g, cap, e⟩
theorem own_at {W : World} {Z n g c : Nat} {t : TypeId} {xs : List Value} (h : W.ownsRow Z t 1 (.slice (some ⟨g, 0, none⟩) n c) n xs) {i : Nat} {u : Value} (hu : xs[i]? = some u) (hi : i < n) : W.cell? ⟨g, i, none⟩ = some u := by
  obtain ⟨_, ⟨e, _⟩ | ⟨g', cap, cur, e, _, hc, _, _, _, ht⟩⟩ := h
  · cases e
  · simp only [Value.slice.injEq, Option.some.injEq, Addr.mk.injEq] at e
    obtain ⟨⟨rfl, _⟩, _⟩ := e
    refine cell_of hc ?_
    rw [← Array.getElem?_toList, ← List.getElem?_take_of_lt (j := n * 1) (by omega), ht]
    exact hu
theorem ptrs_get (f : Nat → Nat) {n i : Nat} (hi : i < n) : (ptrs f n)[i]? = some (.pointer (some ⟨f i, 0, none⟩)) := by simp [ptrs, ptr, hi]
theorem tb_cells {w wr : World} {X b gc Y Z n K gP cP gN cN : Nat} {lv : Value} {s : Ast} {qs ps : Nat → Nat} {sv : Nat → Value} {gs : Nat → Bool} {ds : Nat → Nd} (h : TBm w wr X b gc Y Z n lv s (.slice (some ⟨gP, 0, none⟩) n cP) (.slice (some ⟨gN, 0, none⟩) n cN) qs ps sv gs ds K) {i : Nat} (hi : i < n) :
    wr.cell? ⟨X, 0, none⟩ = some (.pointer (some ⟨b, 0, none⟩)) ∧ wr.cell? ⟨X, 1, none⟩ = some (.slice (some ⟨gP, 0, none⟩) n cP) ∧ wr.cell? ⟨X, 2, none⟩ = some (.slice (some ⟨gN, 0, none⟩) n cN) ∧ wr.cell? ⟨gN, i, none⟩ = some (.pointer (some ⟨qs i, 0, none⟩)) ∧ wr.cell? ⟨gP, i, none⟩ = some (.pointer (some ⟨ps i, 0, none⟩)) := by
  obtain ⟨pb, vG, hx⟩ := h.x
  exact ⟨cell_of hx rfl, cell_of hx rfl, cell_of hx rfl, own_at h.rn (ptrs_get qs hi) hi, own_at h.rp (ptrs_get ps hi) hi⟩
theorem img_at {W : World} {Z n g c : Nat} {cs : List Int} (h : W.ownsRow Z 47 1 (.slice (some ⟨g, 0, none⟩) n c) n (cs.map (Value.int .u64))) (hn : n = cs.length) {i : Nat} (hi : i < n) : W.cell? ⟨g, i, none⟩ = some (.int .u64 (nth cs i)) := by
  refine own_at h ?_ hi
  have : i < cs.length := by omega
  simp [nth, List.getElem?_eq_getElem this]
set_option maxRecDepth 100000 in
set_option maxHeartbeats 8000000 in
theorem balances_law (v0 v1 vp : Value) (b : Int) (ls : List (List Int)) (aw pk : List Int) (w : World) (hr : RwsI w v0 ls) (ha : RowAt .i64 w v1 aw) (hN : Bnd ls aw) (hp : RowAt .i64 w vp pk) (hpl : pk.length ≤ 1048576) (hbu : b ≤ 9223372036854775807) :
    Calls Try.prog 3 #[.agg #[v0, v1, .int .i64 b], vp] w fun e w' => e = .returned (.bool true) ∧ Below w.heap.size w w' := by
  obtain ⟨so, sc, rfl, hsc⟩ := hr.shape
  obtain ⟨bo, bc, rfl⟩ := ha.shape
  obtain ⟨po, pc, rfl⟩ := hp.shape
  have HC5 := hide (fun W (hb : Below w.heap.size w W) => refCheck_any _ _ b ls aw W (hr.below hb) (ha.below hb) hN)
  have HC6 := hide (fun W (hb : Below w.heap.size w W) => checks_law _ _ b 0 ls aw W (hr.below hb) (ha.below hb) hN)
  have HC7 := hide (fun W (hb : Below w.heap.size w W) hck h1 h2 => lay_any _ _ b ls aw W (hr.below hb) (ha.below hb) hN hck h1 h2)
  have HBU := hide hbu
  clear hbu
  have HPK := hide (fun W (hb : Below w.heap.size w W) => hp.below hb)
  obtain ⟨m, hm⟩ : ∃ m, m = pk.length := ⟨_, rfl⟩
  have HM := hide hm
  rw [← hm] at hpl HPK ⊢
  obtain ⟨X0, hX0⟩ : ∃ X0, X0 = w.alloc (.cells #[.slice so ls.length sc, .slice bo aw.length bc, .int .i64 b] 25) := ⟨_, rfl⟩
  have HB := hide (show Below w.heap.size w X0 by rw [hX0]; exact below_alloc (Below.refl _ _) _)
  have HA := hide (show X0.heap[w.heap.size]? = some (.cells #[.slice so ls.length sc, .slice bo aw.length bc, .int .i64 b] 25 (0, 0)) by rw [hX0]; exact heap_new _ _)
  have a0 := cell_of HA.out (i := 0) rfl; have a1 := cell_of HA.out (i := 1) rfl; have a2 := cell_of HA.out (i := 2) rfl
  clear hr ha hN hp hm hsc
  rw [hX0] at a0 a1 a2
  go_enter Try.func3, Try.ntmps3
  go_wp2_with fail
  rw [← hX0]
  clear hX0 a0 a1 a2
  refine (HC5.out X0 HB.out).mono ?_
  rintro e w1 ⟨hb1, r, rfl, hck⟩
  replace HA := hide ((hb1.block _ (lt_of_heap HA.out)).trans HA.out)
  replace HB := hide (below_on HB.out hb1)
  have HCK := hide hck
  have a0 := cell_of HA.out (i := 0) rfl; have a1 := cell_of HA.out (i := 1) rfl; have a2 := cell_of HA.out (i := 2) rfl
  clear hb1 hck HC5
  by_cases hr : r = 0
  · subst hr
    have HLS := hide (show 1 ≤ ls.length ∧ ls.length ≤ 64 by
      rcases HCK.out with ⟨_, e⟩ | ⟨h1, h2, _⟩
      · cases e
      · exact ⟨h1, h2⟩)
    go_wp2_with fail
    clear a0 a1 a2
    refine (HC7.out w1 HB.out HCK.out HLS.out.1 HLS.out.2).mono ?_
    rintro e w2 ⟨X, bb, gc, rb, Y, Z, vP, vN, vG, qs, ps, sv, rfl, hbl, hz, hlb, hlg, har, hlx, hnd, hpo, hinj, hlo⟩
    have hpn : ∀ w, (binOp .eql 28 (.pointer (some ⟨X, 0, none⟩)) (.pointer none)).run Try.prog w = .ok (.bool false) w := fun w => rfl
    have HTB0 := hide (show TBm w1 w2 X bb gc Y Z ls.length (.slice none 0 0) { Ast.new (4 + ls.length) true with cells := cl0 ls.length } vP vN qs ps sv (fun _ => false) (fun j => Nd.new ls aw b j) 0 from
      ⟨hbl, ⟨hz, hlb, hlg⟩, ⟨_, _, hlx.x⟩, har, hlx.p, hlx.n, fun j hj => hnd j hj, fun j hj => hpo j hj, hinj, hlo, sys_new HCK.out HBU.out, rfl, rfl, rfl, Nat.zero_le _, HLS.out⟩)
    obtain ⟨gN, cN, rfl⟩ := row_ptr hlx.n (by have := HLS.out; omega)
    obtain ⟨gP, cP, rfl⟩ := row_ptr hlx.p (by have := HLS.out; omega)
    have HBW1 := hide HB.out
    have HAW := hide HA.out
    obtain ⟨n, hn⟩ : ∃ n, n = ls.length := ⟨_, rfl⟩
    have HN := hide hn
    have hn1 : 1 ≤ n ∧ n ≤ 64 := by rw [hn]; exact HLS.out
    rw [← hn] at HTB0
    clear hbl hz hlb hlg har hlx hnd hpo hinj hlo HC7 hn HLS HCK HB
    go_wp2_with fail
    go_loopw [6, 7] (fun mk t wr => ∃ (k : Nat) (lv : Value) (s : Ast) (gs : Nat → Bool) (ds : Nat → Nd), k ≤ m ∧ t = .int .i64 (k : Int) ∧ mk = .int .i64 s.count ∧ Hid (TBm w1 wr X bb gc Y Z n lv s (.slice (some ⟨gP, 0, none⟩) n cP) (.slice (some ⟨gN, 0, none⟩) n cN) qs ps sv gs ds k)) (fun _ t _ => m - (RowKit.intOf t).toNat)
    case atStart => exact ⟨0, _, _, _, _, Nat.zero_le _, rfl, rfl, HTB0⟩
    case round =>
      obtain ⟨k, lv, s, gs, ds, hkm, rfl, rfl, HT⟩ := hrel
      clear HTB0
      have HBW := hide (below_on HBW1.out HT.out.bel)
      by_cases hlt : k < m
      · have hki : (k : Int) < (m : Int) := by omega
        obtain ⟨gp, op, cp, hpe, hpc, hpv⟩ := (HPK.out wr HBW.out).cellAt k (by rw [← HM.out]; exact hlt)
        simp only [Value.slice.injEq] at hpe
        obtain ⟨he1, he2, he3⟩ := hpe
        clear he2
        subst he1 he3
        obtain ⟨x, hx⟩ : ∃ x, x = at_ pk k := ⟨_, rfl⟩
        rw [← hx] at hpv
        obtain ⟨i, hi, hin⟩ : ∃ i : Nat, x % (n : Int) = (i : Int) ∧ i < n := ⟨(x % (n : Int)).toNat, by
          have := Int.emod_nonneg x (show (n : Int) ≠ 0 by omega); omega, by
          have := Int.emod_nonneg x (show (n : Int) ≠ 0 by omega); have := Int.emod_lt_of_pos x (show (0 : Int) < (n : Int) by omega); omega⟩
        have HRS := hide (fun W => rest_any x (n : Int) W (by omega) (by omega))
        rw [hi] at HRS
        have hii : (i : Int) < (n : Int) := by omega
        have HN64 := hide hn1.2
        have HCB := hide (show 0 ≤ s.count ∧ s.count ≤ 1048576 by have := HT.out.cnt; have := HT.out.lk; omega)
        obtain ⟨_, _, x2, _, _⟩ := tb_cells HT.out hin
        clear hx hi hpc
        go_wp2_with fail
        refine wp_region_noPanic ?_
        go_region_held3 (fun x' => x'.cell? ⟨X, 2, none⟩ = some (.slice (some ⟨gN, 0, none⟩) n cN) ∧ x'.cell? ⟨gp, op + k, none⟩ = some (.int .i64 x)) (go_keep)
          (first
            | (go_at_call 8; refine (HRS.out _).mono ?_; rintro e wq ⟨rfl, rfl⟩)
            | fail)
        all_goals
          refine NoPanic.normal ?_
          have HT1 := hide (HT.out.below (below_drew (Below.refl _ _)))
          generalize wr.drew = wr1 at HT1 ⊢
          clear x2 hpv HRS HT HBW
          by_cases h0 : (ds i).ph = 0
          · skip
            have HOV := hide (over_nd (w := wr1) (q := qs i) (HT1.out.nd i hin).1 (HT1.out.sys.wf i hin).ph)
            rw [show decide ((ds i).ph = 0) = true by simpa using h0] at HOV
            obtain ⟨x0, x1, x2, x3, x4⟩ := tb_cells HT1.out hin
            clear x0 x1
            go_wp2_with fail
            refine HOV.out.mono ?_
            rintro e wq ⟨rfl, rfl⟩
            obtain ⟨x0, x1, _, _, x4'⟩ := tb_cells HT1.out hin
            go_wp2_with fail
            refine (tb_grant HT1.out hin).mono ?_
            rintro e wg ⟨rfl, htg⟩
            have HTG := hide htg
            obtain ⟨y0, y1, y2, y3, y4⟩ := tb_cells HTG.out hin
            clear htg x0 x1 x2 x3 x4 x4' HOV HT1
            have HST := hide (fun W (kb : Below wg.heap.size wg W) => tb_idle (HTG.out.below kb) hin h0 (ps i))
            clear y0
            go_wp2_with fail
            refine wp_region_noPanic ?_
            go_region_held3 (fun x' => x'.cell? ⟨X, 1, none⟩ = some (.slice (some ⟨gP, 0, none⟩) n cP) ∧ x'.cell? ⟨X, 2, none⟩ = some (.slice (some ⟨gN, 0, none⟩) n cN) ∧ x'.cell? ⟨gN, i, none⟩ = some (.pointer (some ⟨qs i, 0, none⟩)) ∧ x'.cell? ⟨gP, i, none⟩ = some (.pointer (some ⟨ps i, 0, none⟩))) (go_keep)
              (first
                | (go_at_call 11; refine (HST.out _ (below_drew (Below.refl _ _))).mono ?_; rintro e WS0 ⟨rfl, rfl⟩)
                | fail)
            all_goals
              refine NoPanic.normal ?_
              have HTS := hide ((HTG.out.below (below_drew (Below.refl _ _))).mono (Nat.le_succ k))
              have hn64' := HN64.out
              generalize wg.drew = WS at HTS ⊢
              clear HST HTG y1 y2 y3 y4
  
              have HSU := hide (HTS.out.sys.sums hn64' (by omega))
              obtain ⟨x0, _⟩ := tb_cells HTS.out hin
              have HIM := hide (image_any _ _ _ _ _ WS HTS.out.ar)
              have HLC := hide HTS.out.sys.len
              clear hn64'
              go_upto_region 16 with fail
              go_wp2_with fail
              refine HIM.out.mono ?_
              rintro e wi ⟨vi, rfl, hown, hai, hci⟩
              have HTI := hide (HTS.out.look hai hci)
              rw [HLC.out] at hown
              obtain ⟨gI, cI, rfl⟩ : ∃ g c, vi = .slice (some ⟨g, 0, none⟩) (4 + n) c := by
                obtain ⟨_, ⟨_, e⟩ | ⟨g, cap, cur, e, _⟩⟩ := hown
                · omega
                · exact ⟨g, cap, e⟩
              have HOW := hide hown
              clear hown hai hci HIM x0 HTS
              have hsn := HN64.out
              have hsk : 0 < n := by omega
              have HCNT := hide (rfl : s.count = s.count)
              go_wp2_with fail
              go_loopw [11, 12, 13] (fun a u t wr2 => ∃ j : Nat, j ≤ n ∧ t = .int .i64 (j : Int) ∧ a = .int .i64 (sB ds j) ∧ u = .int .i64 (sC s.cells j) ∧ Hid (Below wi.heap.size wi wr2)) (fun _ _ t _ => n - (RowKit.intOf t).toNat)
              case atStart => exact ⟨0, Nat.zero_le _, rfl, rfl, rfl, hide (Below.refl _ _)⟩
              case round =>
                obtain ⟨j, hjn, rfl, rfl, rfl, HBJ⟩ := hrel
                have HTJ := hide (HTI.out.below HBJ.out)
                obtain ⟨x0, _, x2, _, _⟩ := tb_cells HTJ.out hin
                by_cases hj : j < n
                · have hji : (j : Int) < (n : Int) := by omega
                  obtain ⟨_, _, _, x3, _⟩ := tb_cells HTJ.out hj
                  have hwf := HTJ.out.sys.wf j hj
                  have HTE := hide (tell_nd (w := wr) (q := qs j) (HTJ.out.nd j hj).1 hwf.ph (by have := HSU.out.bj j hj; omega))
                  unfold Nd.told at HTE
                  have hsb := HSU.out.b (j + 1) hj
                  have hsc := HSU.out.c (j + 1) hj
                  have hcj := HSU.out.cj j hj
                  obtain ⟨A1, hA1⟩ : ∃ A1, A1 = sB ds (j + 1) := ⟨_, rfl⟩
                  obtain ⟨C1, hC1⟩ : ∃ C1, C1 = sC s.cells (j + 1) := ⟨_, rfl⟩
                  have hA1' : A1 = sB ds j + (ds j).bal := hA1
                  have hC1' : C1 = sC s.cells j + nth s.cells (4 + j) := hC1
                  have HA1 := hide hA1; have HC1 := hide hC1
                  have HOJ := hide (fun W (kb : Below wi.heap.size wi W) => img_at (own_stayR HOW.out (fun g hg => kb.block _ (HOW.out.lt g hg).2)) HLC.out.symm (show 4 + j < 4 + n by omega))
                  obtain ⟨J, hJ⟩ : ∃ J, J = 4 + j := ⟨_, rfl⟩
                  rw [← hJ] at HOJ hcj hC1'
                  generalize nth s.cells J = cc at hcj hC1' HOJ
                  rw [← hA1] at hsb; rw [← hC1] at hsc
                  generalize sB ds j = A0 at hA1' ⊢
                  generalize sC s.cells j = C0 at hC1' ⊢
                  generalize (ds j).bal = bl at hA1' HTE
                  have hw1 : IntKind.i64.wrap (A0 + bl) = A1 := by rw [hA1']; exact IntWalk.i64_in _ (by omega)
                  have hw2 : IntKind.i64.wrap (C0 + cc) = C1 := by rw [hC1']; exact IntWalk.i64_in _ (by omega)
                  have hw3 : IntKind.i64.wrap cc = cc := IntWalk.i64_in _ (by omega)
                  have hw4 : IntKind.i64.wrap (4 + (j : Int)) = (J : Int) := by rw [show (4 + (j : Int)) = (J : Int) by omega]; exact IntWalk.i64_in _ (by omega)
                  have hJ1 : J < 4 + n := by omega
                  have hJ2 : (J : Int) < ((4 + n : Nat) : Int) := by omega
                  have hJ3 : (J : Int) < 4 + (n : Int) := by omega
                  have hfl := field45
                  clear hwf hA1 hC1 hA1' hC1' hsb hsc hcj hJ x0
                  go_wp2_with fail
                  refine HTE.out.mono ?_
                  rintro e wt ⟨rfl, hbt⟩
                  have HBT := hide (below_on HBJ.out hbt)
                  have z := HOJ.out wt HBT.out
                  clear hbt x2 x3 HTE
                  go_wp2_with fail
                  exact ⟨⟨j + 1, hj, by simp, by rw [HA1.out], by rw [HC1.out], HBT⟩, mdecR hj⟩
                · obtain rfl : j = n := by omega
                  have he1 : (sB ds j != sC s.cells j) = false := by rw [HSU.out.eq]; simp
                  have he2 : ¬ sC s.cells j < 0 := by have := (HSU.out.c j (Nat.le_refl _)).1; omega
                  have he3 : decide (sC s.cells j < 0) = false := by simpa using he2
                  have HCO := hide (count_any _ _ _ _ _ wr HTJ.out.ar)
                  have he4 : (s.count != s.count) = false := by simp
                  generalize sB ds j = A0 at he1 ⊢
                  generalize sC s.cells j = C0 at he1 he2 he3 ⊢
                  go_wp2_with fail
                  refine HCO.out.mono ?_
                  rintro e wu ⟨rfl, hau, hcu, _⟩
                  have HTU := hide (HTJ.out.look hau hcu)
                  clear hau hcu HCO x0
                  go_wp2_with fail
                  exact ⟨⟨k + 1, _, _, _, _, hlt, by simp, rfl, HTU⟩, mdecR hlt⟩
          · skip
            have HOV := hide (over_nd (w := wr1) (q := qs i) (HT1.out.nd i hin).1 (HT1.out.sys.wf i hin).ph)
            rw [show decide ((ds i).ph = 0) = false by simpa using h0] at HOV
            obtain ⟨x0, x1, x2, x3, x4⟩ := tb_cells HT1.out hin
            clear x0 x1
            go_wp2_with fail
            refine HOV.out.mono ?_
            rintro e wq ⟨rfl, rfl⟩
            obtain ⟨x0, x1, _, _, x4'⟩ := tb_cells HT1.out hin
            go_wp2_with fail
            refine (tb_grant HT1.out hin).mono ?_
            rintro e wg ⟨rfl, htg⟩
            have HTG := hide htg
            obtain ⟨y0, y1, y2, y3, y4⟩ := tb_cells HTG.out hin
            clear htg x0 x1 x2 x3 x4 x4' HOV HT1
            have HST := hide (fun W (kb : Below wg.heap.size wg W) => tb_step (HTG.out.below kb) hin (upd_same _ _ _) h0 (by omega))
            clear y0
            go_wp2_with fail
            refine wp_region_noPanic ?_
            go_region_held3 (fun x' => x'.cell? ⟨X, 1, none⟩ = some (.slice (some ⟨gP, 0, none⟩) n cP) ∧ x'.cell? ⟨X, 2, none⟩ = some (.slice (some ⟨gN, 0, none⟩) n cN) ∧ x'.cell? ⟨gN, i, none⟩ = some (.pointer (some ⟨qs i, 0, none⟩)) ∧ x'.cell? ⟨gP, i, none⟩ = some (.pointer (some ⟨ps i, 0, none⟩))) (first | with_reducible exact ⟨z1, z2, z3, z4⟩ | go_keep)
              (first
                | (go_at_call 11; refine (HST.out _ (below_drew (Below.refl _ _))).mono ?_; rintro e WS ⟨rfl, lv', s', gs', ds', hts, hcn⟩; have HTS := hide hts; have HCN := hide hcn; obtain ⟨_, z1, z2, z3, z4⟩ := tb_cells HTS.out hin; clear hts hcn)
                | fail)
            all_goals
              refine NoPanic.normal ?_
              have hcw : IntKind.i64.wrap (s.count + 1) = s.count + 1 := IntWalk.i64_in _ (by have := HCB.out; omega)
              have hn64' := HN64.out
              clear HST HTG y1 y2 y3 y4 z1 z2 z3 z4
  
              have HSU := hide (HTS.out.sys.sums hn64' (by omega))
              obtain ⟨x0, _⟩ := tb_cells HTS.out hin
              have HIM := hide (image_any _ _ _ _ _ WS HTS.out.ar)
              have HLC := hide HTS.out.sys.len
              clear hn64'
              go_upto_region 16 with fail
              rw [← HCN.out]
              go_wp2_with fail
              refine HIM.out.mono ?_
              rintro e wi ⟨vi, rfl, hown, hai, hci⟩
              have HTI := hide (HTS.out.look hai hci)
              rw [HLC.out] at hown
              obtain ⟨gI, cI, rfl⟩ : ∃ g c, vi = .slice (some ⟨g, 0, none⟩) (4 + n) c := by
                obtain ⟨_, ⟨_, e⟩ | ⟨g, cap, cur, e, _⟩⟩ := hown
                · omega
                · exact ⟨g, cap, e⟩
              have HOW := hide hown
              clear hown hai hci HIM x0 HTS
              have hsn := HN64.out
              have hsk : 0 < n := by omega
              have HCNT := hide (rfl : s'.count = s'.count)
              go_wp2_with fail
              go_loopw [11, 12, 13] (fun a u t wr2 => ∃ j : Nat, j ≤ n ∧ t = .int .i64 (j : Int) ∧ a = .int .i64 (sB ds' j) ∧ u = .int .i64 (sC s'.cells j) ∧ Hid (Below wi.heap.size wi wr2)) (fun _ _ t _ => n - (RowKit.intOf t).toNat)
              case atStart => exact ⟨0, Nat.zero_le _, rfl, rfl, rfl, hide (Below.refl _ _)⟩
              case round =>
                obtain ⟨j, hjn, rfl, rfl, rfl, HBJ⟩ := hrel
                have HTJ := hide (HTI.out.below HBJ.out)
                obtain ⟨x0, _, x2, _, _⟩ := tb_cells HTJ.out hin
                by_cases hj : j < n
                · have hji : (j : Int) < (n : Int) := by omega
                  obtain ⟨_, _, _, x3, _⟩ := tb_cells HTJ.out hj
                  have hwf := HTJ.out.sys.wf j hj
                  have HTE := hide (tell_nd (w := wr) (q := qs j) (HTJ.out.nd j hj).1 hwf.ph (by have := HSU.out.bj j hj; omega))
                  unfold Nd.told at HTE
                  have hsb := HSU.out.b (j + 1) hj
                  have hsc := HSU.out.c (j + 1) hj
                  have hcj := HSU.out.cj j hj
                  obtain ⟨A1, hA1⟩ : ∃ A1, A1 = sB ds' (j + 1) := ⟨_, rfl⟩
                  obtain ⟨C1, hC1⟩ : ∃ C1, C1 = sC s'.cells (j + 1) := ⟨_, rfl⟩
                  have hA1' : A1 = sB ds' j + (ds' j).bal := hA1
                  have hC1' : C1 = sC s'.cells j + nth s'.cells (4 + j) := hC1
                  have HA1 := hide hA1; have HC1 := hide hC1
                  have HOJ := hide (fun W (kb : Below wi.heap.size wi W) => img_at (own_stayR HOW.out (fun g hg => kb.block _ (HOW.out.lt g hg).2)) HLC.out.symm (show 4 + j < 4 + n by omega))
                  obtain ⟨J, hJ⟩ : ∃ J, J = 4 + j := ⟨_, rfl⟩
                  rw [← hJ] at HOJ hcj hC1'
                  generalize nth s'.cells J = cc at hcj hC1' HOJ
                  rw [← hA1] at hsb; rw [← hC1] at hsc
                  generalize sB ds' j = A0 at hA1' ⊢
                  generalize sC s'.cells j = C0 at hC1' ⊢
                  generalize (ds' j).bal = bl at hA1' HTE
                  have hw1 : IntKind.i64.wrap (A0 + bl) = A1 := by rw [hA1']; exact IntWalk.i64_in _ (by omega)
                  have hw2 : IntKind.i64.wrap (C0 + cc) = C1 := by rw [hC1']; exact IntWalk.i64_in _ (by omega)
                  have hw3 : IntKind.i64.wrap cc = cc := IntWalk.i64_in _ (by omega)
                  have hw4 : IntKind.i64.wrap (4 + (j : Int)) = (J : Int) := by rw [show (4 + (j : Int)) = (J : Int) by omega]; exact IntWalk.i64_in _ (by omega)
                  have hJ1 : J < 4 + n := by omega
                  have hJ2 : (J : Int) < ((4 + n : Nat) : Int) := by omega
                  have hJ3 : (J : Int) < 4 + (n : Int) := by omega
                  have hfl := field45
                  clear hwf hA1 hC1 hA1' hC1' hsb hsc hcj hJ x0
                  go_wp2_with fail
                  refine HTE.out.mono ?_
                  rintro e wt ⟨rfl, hbt⟩
                  have HBT := hide (below_on HBJ.out hbt)
                  have z := HOJ.out wt HBT.out
                  clear hbt x2 x3 HTE
                  go_wp2_with fail
                  exact ⟨⟨j + 1, hj, by simp, by rw [HA1.out], by rw [HC1.out], HBT⟩, mdecR hj⟩
                · obtain rfl : j = n := by omega
                  have he1 : (sB ds' j != sC s'.cells j) = false := by rw [HSU.out.eq]; simp
                  have he2 : ¬ sC s'.cells j < 0 := by have := (HSU.out.c j (Nat.le_refl _)).1; omega
                  have he3 : decide (sC s'.cells j < 0) = false := by simpa using he2
                  have HCO := hide (count_any _ _ _ _ _ wr HTJ.out.ar)
                  have he4 : (s'.count != s'.count) = false := by simp
                  generalize sB ds' j = A0 at he1 ⊢
                  generalize sC s'.cells j = C0 at he1 he2 he3 ⊢
                  go_wp2_with fail
                  refine HCO.out.mono ?_
                  rintro e wu ⟨rfl, hau, hcu, _⟩
                  have HTU := hide (HTJ.out.look hau hcu)
                  clear hau hcu HCO x0
                  go_wp2_with fail
                  exact ⟨⟨k + 1, _, _, _, _, hlt, by simp, rfl, HTU⟩, mdecR hlt⟩
      · obtain rfl : k = m := by omega
        have hab := (HT.out.bel.block _ (lt_of_heap HAW.out)).trans HAW.out
        have a0 := cell_of hab (i := 0) rfl; have a1 := cell_of hab (i := 1) rfl; have a2 := cell_of hab (i := 2) rfl
        clear hab HT
        go_wp2_with fail
        clear a0 a1 a2
        refine (HC6.out wr HBW.out).mono ?_
        rintro e w2 ⟨rfl, hb2⟩
        have HB2 := hide (below_on HBW.out hb2)
        clear hb2
        go_wp2_with fail
        go_ret
        exact ⟨rfl, HB2.out⟩
  · have hr1 : (r != 0) = true := by simp [hr]
    go_wp2_with fail
    clear a0 a1 a2
    refine (HC6.out w1 HB.out).mono ?_
    rintro e w2 ⟨rfl, hb2⟩
    have HB2 := hide (below_on HB.out hb2)
    clear hb2
    go_wp2_with fail
    go_ret
    exact ⟨rfl, HB2.out⟩
end Go.Proofs.Ytlncjbjdjciphaa
