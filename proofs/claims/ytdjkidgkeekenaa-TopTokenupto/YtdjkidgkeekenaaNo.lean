/- A node in memory, the program's and the document's; New and Open of a node, whole. -/
import Derived.Test.YtdjkidgkeekenaaNp
import Derived.Test.YtdjkidgkeekenaaK9
import Derived.Test.YtdjkidgkeekenaaK5
import Derived.Test.YtdjkidgkeekenaaK3
namespace Go.Proofs.Ytdjkidgkeekenaa
open Go.RowKit Go.Lib
set_option linter.unusedVariables false
set_option linter.unusedSimpArgs false
/-- What is to be done with the next access. -/
def nxF (ph : Nat) : Value :=
  match ph with
  | 0 => .nilFunc
  | 1 => .func (.func 31) #[] #[]
  | 2 => .func (.func 45) #[] #[]
  | 3 => .func (.func 46) #[] #[]
  | 4 => .func (.func 62) #[] #[]
  | 5 => .func (.func 61) #[] #[]
  | 6 => .func (.func 72) #[] #[]
  | 7 => .func (.func 74) #[] #[]
  | 8 => .func (.func 78) #[] #[]
  | 9 => .func (.func 80) #[] #[]
  | 10 => .func (.func 81) #[] #[]
  | _ => .func (.func 77) #[] #[]
def NObj (a : Bool) (le se : Int) (ba : Int) (bl : Bool) (who n : Int) (sv : Value) (bu : Int) (nx : Value) (m q k : Int) : Obj :=
  .cells #[.bool a, .int .i64 le, .int .i64 se, .int .u64 ba, .bool bl, .int .i64 who, .int .i64 n, sv, .int .i64 bu, nx, .int .u64 m, .int .u64 q, .int .u64 k] 96 (0, 0)
def Nd.obj (d : Nd) (sv : Value) : Obj := NObj d.active d.left d.sent (wr d.bal) d.black d.who d.n sv d.burst (nxF d.ph) d.m d.q d.k
/-- A list of ints of one's own. -/
def Snd (w : World) (lo : Nat) (v : Value) (l : List Int) : Prop := w.ownsRow lo 3 1 v l.length (l.map (Value.int .i64))
theorem Snd.row {w : World} {lo : Nat} {v : Value} {l : List Int} (h : Snd w lo v l) : RowAt .i64 w v l := RowAt.of_owns h
theorem Snd.stay {w w' : World} {lo : Nat} {v : Value} {l : List Int} (h : Snd w lo v l) (k : ∀ g, v.ownBlock = some g → w'.heap[g]? = w.heap[g]?) : Snd w' lo v l := own_stayR h k
theorem Snd.below {w w' : World} {lo : Nat} {v : Value} {l : List Int} (h : Snd w lo v l) (hb : Below w.heap.size w w') : Snd w' lo v l := h.stay fun g hg => hb.block _ (h.lt g hg).2
theorem Snd.typ {w : World} {lo : Nat} {v : Value} {l : List Int} (h : Snd w lo v l) {g : Nat} (hg : v.ownBlock = some g) : ∃ cs, w.heap[g]? = some (.cells cs 3 (0, 0)) := by
  obtain ⟨_, ⟨rfl, _⟩ | ⟨g', cap, cur, rfl, hg', hc, _⟩⟩ := h
  · cases hg
  · cases hg; exact ⟨cur, hc⟩
theorem Snd.low {w : World} {lo lo' : Nat} {v : Value} {l : List Int} (h : Snd w lo v l) (hl : lo' ≤ lo) : Snd w lo' v l := ⟨h.1, h.2.imp id fun ⟨g, cap, cur, he, hg, r⟩ => ⟨g, cap, cur, he, Nat.le_trans hl hg, r⟩⟩
/-- A new node. -/
def Nd.new (ls : List (List Int)) (aw : List Int) (b : Int) (x : Nat) : Nd :=
  ⟨x, ls.length, rowL ls x, b, 1, decide ((x : Int) ∈ aw), if (x : Int) ∈ aw then (rowL ls x).length else 0, 0, 0, false, 0, 0, 0⟩
set_option maxRecDepth 100000 in
set_option maxHeartbeats 4000000 in
theorem clone_full (v : Value) (l : List Int) (w : World) (h0 : RowAt .i64 w v l) (hlen : l.length ≤ 17592186043904) :
    Calls Try.prog 30 #[v] w fun e w' => Below w.heap.size w w' ∧ ∃ ao c, e = .returned (.slice ao l.length c) ∧ Snd w' w.heap.size (.slice ao l.length c) l := by
  have q23 : ∀ (w : World) (a : Option Addr) (n c n' c' : Nat), (binOp .eql 23 (.slice a n c) (.slice none n' c')).run Try.prog w = .ok (.bool a.isNone) w := fun w a n c n' c' => Lib.run_eql_slice_nil w _ _ a n c n' c' Try.underlying23
  have h := h0.iat
  obtain ⟨i0, hi0, hz0, hz1, hz2⟩ := info_parts info3i
  obtain ⟨ao, cap, rfl, hcap, h63, hnil, _⟩ := h0
  have H := hide h
  obtain ⟨n, hn⟩ : ∃ n, n = l.length := ⟨_, rfl⟩
  have HN := hide hn
  rw [← hn] at hcap H hlen ⊢
  clear h hn
  cases ao with
  | none =>
    have := hnil rfl
    subst this
    obtain rfl : n = 0 := by omega
    go_enter Try.func30, Try.ntmps30
    go_wp2_with fail
    go_ret
    obtain rfl : l = [] := List.eq_nil_of_length_eq_zero HN.out.symm
    exact ⟨Below.refl _ _, none, 0, rfl, World.ownsRow_nil _ _ _ _⟩
  | some a =>
    go_enter Try.func30, Try.ntmps30
    go_wp2_with (first
      | (at_builtin; refine wpList_freshR iA_size (by decide) rfl (.tmp 5) (.tmp 6) 23 rfl 3 i0 _ 8 Try.underlying23 hi0 hz0 hz1 hz2 rfl w.heap.size w.heap.size (own_newr w 3 _ 1 rfl) (by simp) _ l rfl rfl (H.out.below (below_alloc (Below.refl _ _) _)) (by rw [← HN.out]; omega) (by rw [← HN.out]; unfold maxLen; omega) ?_; intro v4 w4 hownA hbelA; have HBA := hide (below_on (below_alloc (Below.refl _ _) _) hbelA); obtain ⟨a4, c4, h4⟩ : ∃ a4 c4, v4 = .slice a4 l.length c4 := owns_shape hownA; subst h4; rw [iA_cells] at hownA; have HSN : Hid (Snd w4 w.heap.size (.slice a4 l.length c4) l) := hownA; rw [← HN.out]; clear hbelA hownA)
      | fail)
    go_ret
    exact ⟨HBA.out, a4, c4, rfl, by rw [HN.out]; exact HSN.out⟩
def NwF (ls : List (List Int)) (aw : List Int) (b : Int) (x : Nat) (w : World) (e : Ending) (w' : World) : Prop := ∃ B sv, e = .returned (.tuple #[.pointer (some ⟨B, 0, none⟩), .int .i64 0]) ∧ w'.heap[B]? = some ((Nd.new ls aw b x).obj sv) ∧ Snd w' w.heap.size sv (rowL ls x) ∧ w.heap.size ≤ B ∧ Below w.heap.size w w'
theorem NwF.made {ls : List (List Int)} {aw : List Int} {b : Int} {x B : Nat} {sv : Value} {w w' : World} {e : Ending} (hb : Below w.heap.size w w') (he : e = .returned (.tuple #[.pointer (some ⟨B, 0, none⟩), .int .i64 0])) (h : w'.heap[B]? = some ((Nd.new ls aw b x).obj sv)) (hs : Snd w' w.heap.size sv (rowL ls x)) (hB : w.heap.size ≤ B) : NwF ls aw b x w e w' := ⟨B, sv, he, h, hs, hB, hb⟩
set_option maxRecDepth 100000 in
set_option maxHeartbeats 4000000 in
theorem nodeNew_full (v u : Value) (b : Int) (xx : Nat) (ls : List (List Int)) (aw : List Int) (w : World) (h : RwsI w v ls) (hu : RowAt .i64 w u aw) (hb : Bnd ls aw) (hck : CkA ls aw b 0) (hxx : xx < ls.length) : Calls Try.prog 15 #[.agg #[v, u, .int .i64 b], .int .i64 (xx : Int)] w (NwF ls aw b xx w) := by
  obtain ⟨x, hxe⟩ : ∃ x : Int, x = (xx : Int) := ⟨_, rfl⟩
  have HXE := hide hxe
  rw [← hxe]
  have HCKK := hide hck
  have HXX := hide hxx
  clear hxe hck hxx
  have HCK := hide (fun W (q : Below w.heap.size w W) => check_any v u b ls aw W (h.below q) (hu.below q) hb)
  obtain ⟨so, sc, rfl, hsc⟩ := h.shape
  obtain ⟨bo, bc, rfl⟩ := hu.shape
  obtain ⟨n, hn⟩ : ∃ n, n = ls.length := ⟨_, rfl⟩
  have HN := hide hn
  have H := hide h
  have HU := hide hu
  have hnb := hb.n
  have HBD := hide hb
  rw [← hn] at H HCK hsc hnb ⊢
  have HIN := hide (fun W => isNode_any so bo n sc aw.length bc b x W)
  obtain ⟨W0, hW0⟩ : ∃ W0, W0 = w.alloc (.cells #[.slice so n sc, .slice bo aw.length bc, .int .i64 b] 25) := ⟨_, rfl⟩
  have hA : W0.heap[w.heap.size]? = some (.cells #[.slice so n sc, .slice bo aw.length bc, .int .i64 b] 25 (0, 0)) := by rw [hW0]; exact heap_new w _
  have HA := hide hA
  have HB0 : Hid (Below w.heap.size w W0) := by rw [hW0]; exact below_alloc (Below.refl _ _) _
  clear h hu hb hn hA
  go_enter Try.func15, Try.ntmps15
  go_wp2_with fail
  rw [← hW0]
  clear hW0
  refine (HCK.out W0 HB0.out).mono ?_
  rintro e w1 ⟨hb1, r, rfl, hr⟩
  have HB1 := hide hb1
  have HR := hide hr
  have HA1 := hide ((hb1.block _ (lt_of_heap HA.out)).trans HA.out)
  have HT1 := hide (below_on HB0.out hb1)
  clear hb1 hr HCK HA
  obtain rfl : r = 0 := HR.out.one HCKK.out
  · have a0 := cell_of HA1.out (i := 0) rfl; have a1 := cell_of HA1.out (i := 1) rfl; have a2 := cell_of HA1.out (i := 2) rfl
    go_wp2_with fail
    refine (HIN.out w1).mono ?_
    rintro e w2 ⟨hb2, r2, rfl, hr2⟩
    have HB2 := hide hb2
    have HR2 := hide hr2
    have HA2 := hide ((hb2.block _ (lt_of_heap HA1.out)).trans HA1.out)
    have HT2 := hide (below_on HT1.out hb2)
    clear hb2 hr2 HIN HA1 a0 a1 a2
    obtain rfl : r2 = true := HR2.out.2 (by rw [HXE.out, HN.out]; exact ⟨by omega, by have := HXX.out; omega⟩)
    · have hx : inN n x := HR2.out.1 rfl
      obtain rfl : x = (xx : Int) := HXE.out
      clear HXE
      have hxn : xx < n := by have := hx.2; omega
      have hxi : (xx : Int) < (n : Int) := by omega
      clear hx
      obtain ⟨gg, oo, io, ic, rfl, hgl, d0, hrow⟩ := RwsI.at (n := n) H.out xx (by rw [← HN.out]; exact hxn)
      have d1 := (below_cell HT2.out hgl).trans d0
      have HROW := hide (hrow.below HT2.out)
      have HLL := hide (HBD.out.r xx)
      have HRR := hide (Below.refl w2.heap.size w2)
      have hkp : ∀ X, Below w2.heap.size w2 X → (X.cell? ⟨w.heap.size, 0, none⟩ = some (.slice (some ⟨gg, oo, none⟩) n sc) ∧ X.cell? ⟨w.heap.size, 1, none⟩ = some (.slice bo aw.length bc) ∧ X.cell? ⟨w.heap.size, 2, none⟩ = some (.int .i64 b)) ∧ X.cell? ⟨gg, oo + xx, none⟩ = some (.slice io (rowL ls xx).length ic) := fun X hX => by
        have q := (hX.block _ (lt_of_heap HA2.out)).trans HA2.out
        exact ⟨⟨cell_of q rfl, cell_of q rfl, cell_of q rfl⟩, (below_cell hX (block_of_cell d1)).trans d1⟩
      have HKP := hide hkp
      obtain ⟨⟨y0, y1, y2⟩, y3⟩ := hkp w2 (Below.refl _ _)
      clear d0 d1 hrow hkp
      go_wp2_with fail
      refine wp_region_noPanic ?_
      go_region_held3 (fun x => x.cell? ⟨w.heap.size, 0, none⟩ = some (.slice (some ⟨gg, oo, none⟩) n sc) ∧ x.cell? ⟨w.heap.size, 1, none⟩ = some (.slice bo aw.length bc) ∧ x.cell? ⟨w.heap.size, 2, none⟩ = some (.int .i64 b) ∧ x.cell? ⟨gg, oo + xx, none⟩ = some (.slice io (rowL ls xx).length ic)) (first | go_keep | exact ⟨z0, z1, z2, z3⟩)
        (first
          | (go_at_call 30; refine (clone_full (.slice io (rowL ls xx).length ic) (rowL ls xx) _ (HROW.out.below (below_drew HRR.out)) HLL.out).mono ?_; rintro e w4 ⟨hbel, o4, c4, rfl, hsn⟩; have HSN := hide hsn; have hB4 := below_on (a := w2) (below_drew HRR.out) hbel; obtain ⟨⟨z0, z1, z2⟩, z3⟩ := HKP.out w4 hB4; have HB4 := hide hB4; clear hbel hB4 hsn)
          | fail)
      refine NoPanic.normal ?_
      obtain ⟨X, hX⟩ : ∃ X, X = w4.alloc (.cells #[.bool false, .int .i64 0, .int .i64 0, .int .u64 0, .bool false, .int .i64 (xx : Int), .int .i64 (n : Int), .slice o4 (rowL ls xx).length c4, .int .i64 b, .func (.func 31) #[] #[], .int .u64 0, .int .u64 0, .int .u64 0] 96) := ⟨_, rfl⟩
      have hND : X.heap[w4.heap.size]? = some (.cells #[.bool false, .int .i64 0, .int .i64 0, .int .u64 0, .bool false, .int .i64 (xx : Int), .int .i64 (n : Int), .slice o4 (rowL ls xx).length c4, .int .i64 b, .func (.func 31) #[] #[], .int .u64 0, .int .u64 0, .int .u64 0] 96 (0, 0)) := by rw [hX]; exact heap_new w4 _
      have hbX : Below w2.heap.size w2 X := by rw [hX]; exact below_alloc HB4.out _
      have HND := hide hND
      have HBX := hide (below_on HT2.out hbX)
      have HBW : Hid (w.heap.size ≤ w4.heap.size) := (below_on HT2.out HB4.out).size
      obtain ⟨⟨x0, x1, x2⟩, x3⟩ := HKP.out X hbX
      rw [← hX]
      have HSX := hide ((HSN.out.below (show Below w4.heap.size w4 X by rw [hX]; exact below_alloc (Below.refl _ _) _)).low (lo' := w.heap.size) (by have := HT2.out.size; simpa using this))
      clear hX hND hbX z0 z1 z2 z3 y0 y1 y2 y3 x3
      go_wp2_with fail
      refine (contains_any (.slice bo aw.length bc) aw (xx : Int) X (HU.out.below HBX.out) HBD.out.a).mono ?_
      rintro e w5 ⟨hb5, r5, rfl, hr5⟩
      have hND5 := (hb5.block _ (lt_of_heap HND.out)).trans HND.out
      have HR5 := hide hr5
      have HB5 := hide (below_on HBX.out hb5)
      have HS5 := hide (HSX.out.below hb5)
      have HN5 := hide hND5
      have c7 := cell_of hND5 (i := 7) rfl
      have c0 := cell_of hND5 (i := 0) rfl
      have c1 := cell_of hND5 (i := 1) rfl
      have c2 := cell_of hND5 (i := 2) rfl
      have c3 := cell_of hND5 (i := 3) rfl
      have c4' := cell_of hND5 (i := 4) rfl
      have f0 := free_of hND5 0
      have f1 := free_of hND5 1
      have f2 := free_of hND5 2
      have f3 := free_of hND5 3
      have f4 := free_of hND5 4
      clear hb5 hr5 hND5 x0 x1 x2
      cases r5
      · go_wp2_with fail
        go_ret2
        have ha : ¬ (xx : Int) ∈ aw := fun q => (by have := HR5.out.2 q; cases this)
        refine NwF.made HB5.out rfl ?_ HS5.out (by simpa using HBW.out)
        rw [HN5.out]
        unfold Nd.obj Nd.new NObj
        rw [HN.out]
        simp only [ha, decide_false, if_false]
        rfl
      · go_wp2_with fail
        go_ret2
        have ha : (xx : Int) ∈ aw := by simpa using HR5.out
        have hne : ∀ i u, ∀ X : World, ∀ g, g ≠ w4.heap.size → (X.setCell ⟨w4.heap.size, i, none⟩ u).heap[g]? = X.heap[g]? := fun i u X g hg => Below.heap_setCell _ _ _ _ hg
        refine NwF.made ((node_store HN5.out (.int .i64 ((rowL ls xx).length : Int))).2 _ _ HBW.out HB5.out) rfl ?_ (HS5.out.stay fun g hg => ?_) HBW.out
        · rw [heap_set (heap_set (heap_set (heap_set (heap_set HN5.out _) _) _) _) _]
          unfold Nd.obj Nd.new NObj
          rw [HN.out]
          simp only [ha, decide_true, if_true]
          rfl
        · have hgl : g ≠ w4.heap.size := fun e => by
            have := (HSN.out.lt g hg).2
            omega
          rw [hne _ _ _ _ hgl, hne _ _ _ _ hgl, hne _ _ _ _ hgl, hne _ _ _ _ hgl, hne _ _ _ _ hgl]
end Go.Proofs.Ytdjkidgkeekenaa
