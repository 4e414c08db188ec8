/- side: a new arena and the document's. -/
import Derived.Test.YtfgchkkljlbmcaaSd10
namespace Go.Proofs.Ytfgchkkljlbmcaa
open Go.RowKit Go.Lib Go.MuLone
set_option linter.unusedVariables false
set_option linter.unusedSimpArgs false
theorem RIs.rise {w : World} {Y Z b gc : Nat} {s : Ast} (h : RIs w Y b gc (.slice none 0 0) s) (hz : Y ≤ Z) (hZ : Z ≤ w.heap.size) : RIs w Z b gc (.slice none 0 0) s := by
  refine ⟨h.hb, h.hc, ?_, by have := h.bY; omega, by have := h.gY; omega, h.ne, h.len, hZ⟩
  obtain ⟨h1, ⟨_, hn⟩ | ⟨g, cap, cur, hv, _⟩⟩ := h.hl
  · exact ⟨h1, .inl ⟨rfl, hn⟩⟩
  · cases hv
/-- A side, or none. -/
def SO (w : World) (F : Nat → Prop) (v : Value) (n : Nat) : Prop :=
  (v = .pointer none ∧ ∀ k, ¬ F k) ∨ ∃ x b gc q rb rgc Y lv rlv pv wv hv s ps whos gs, v = .pointer (some ⟨x, 0, none⟩) ∧ Sd w F x b gc q rb rgc Y lv rlv pv wv hv s s ps whos gs gs ∧ NB s whos n
theorem side_bad (n : Int) (keep : Bool) (w : World) (hn : n < 0 ∨ 16777216 < n) :
    Calls Try.prog 37 #[.int .i64 n, .bool keep] w fun e w' => e = .returned (.tuple #[.pointer none, .bool true]) ∧ w' = w := by
  have HN := hide (fun W => new_bad n keep W hn)
  have HM := hide (fun W => may_any n W)
  rw [if_pos hn] at HM
  have HNO := hide (fun e W => no_any e W)
  clear hn
  go_enter Try.func37, Try.ntmps37
  go_wp2_with (first
    | (go_at_call 32; refine (HN.out _).mono ?_; rintro e w' ⟨rfl, hw⟩; subst w')
    | (go_at_call 53; refine (HM.out _).mono ?_; rintro e w' ⟨rfl, hw⟩; subst w')
    | (go_at_call 31; refine (HNO.out _ _).mono ?_; rintro e w' ⟨rfl, hw⟩; subst w'))
  go_ret2
  exact ⟨rfl, rfl⟩
set_option maxRecDepth 100000 in
set_option maxHeartbeats 4000000 in
theorem side_good (n : Nat) (keep : Bool) (w : World) (hn : n ≤ 16777216) :
    Calls Try.prog 37 #[.int .i64 n, .bool keep] w fun e w' => ∃ x b gc q rb rgc Y, e = .returned (.tuple #[.pointer (some ⟨x, 0, none⟩), .bool true]) ∧ Sd w' (fun k => w.heap.size ≤ k ∧ k < w'.heap.size) x b gc q rb rgc Y (.slice none 0 0) (.slice none 0 0) (.slice none 0 0) (.slice none 0 0) (.slice none 0 0) (Ast.new n keep) (Ast.new n keep) [] [] [] [] ∧ Below w.heap.size w w' := by
  have HN := hide (fun W => new_any n keep W hn)
  have HM := hide (fun W => may_any n W)
  rw [if_neg (by omega)] at HM
  have HR := hide (fun W => refNew_any n keep W hn)
  have HNO := hide (fun e W => no_any e W)
  have HLN := hide (fun Y b gc lv W h => len_any Y b gc lv (Ast.new n keep) W h)
  have hnl : (Ast.new n keep).cells.length = n := by simp [Ast.new]
  rw [hnl] at HLN
  have hnn : ((n : Int) == (n : Int)) = true := by simp
  clear hn hnl
  go_enter Try.func37, Try.ntmps37
  go_wp2_with fail
  refine (HN.out w).mono ?_
  rintro e w1 ⟨rfl, ha1, hs1, hb1⟩
  obtain ⟨b, hbe⟩ : ∃ b, b = w.heap.size + 1 := ⟨_, rfl⟩
  obtain ⟨gc, hgce⟩ : ∃ b, b = w.heap.size := ⟨_, rfl⟩
  rw [← hbe] at ha1 ⊢
  rw [← hgce] at ha1
  have HA1 := hide ha1
  have HS1 := hide hs1
  have HB1 := hide hb1
  have HBE := hide hbe
  have HGE := hide hgce
  clear ha1 hs1 hb1 hbe hgce
  go_wp2_with (first
    | (go_at_call 53; refine (HM.out _).mono ?_; rintro e w' ⟨rfl, hw⟩; subst w')
    | (go_at_call 31; refine (HNO.out _ _).mono ?_; rintro e w' ⟨rfl, hw⟩; subst w')
    | (go_at_call 54; refine (HR.out w1).mono ?_; rintro e w2 ⟨rfl, ha2, hs2, hb2⟩; have HA2 := hide ha2; have HS2 := hide hs2; have HB2 := hide hb2; clear ha2 hs2 hb2)
    | fail)
  obtain ⟨V, hV⟩ : ∃ V, V = (w2.alloc (.cells #[.pointer (some ⟨w1.heap.size + 1, 0, none⟩), .slice none 0 0, .slice none 0 0] 103)).alloc (.cells #[.pointer (some ⟨b, 0, none⟩), .slice none 0 0, .pointer (some ⟨w2.heap.size, 0, none⟩)] 105) := ⟨_, rfl⟩
  have hVs : V.heap.size = w2.heap.size + 2 := by rw [hV]; simp
  have hb12 : Below w2.heap.size w2 V := by rw [hV]; exact ((Below.refl _ _).alloc (Nat.le_refl _) _).alloc (by simp) _
  have hq : V.heap[w2.heap.size]? = some (.cells #[.pointer (some ⟨w1.heap.size + 1, 0, none⟩), .slice none 0 0, .slice none 0 0] 103 (0, 0)) := by rw [hV]; exact heap_old (heap_new w2 _) _
  have hx : V.heap[w2.heap.size + 1]? = some (.cells #[.pointer (some ⟨b, 0, none⟩), .slice none 0 0, .pointer (some ⟨w2.heap.size, 0, none⟩)] 105 (0, 0)) := by
    have := heap_new (w2.alloc (.cells #[.pointer (some ⟨w1.heap.size + 1, 0, none⟩), .slice none 0 0, .slice none 0 0] 103)) (.cells #[.pointer (some ⟨b, 0, none⟩), .slice none 0 0, .pointer (some ⟨w2.heap.size, 0, none⟩)] 105)
    rw [World.size_alloc] at this
    rw [hV]; exact this
  have hb1V : Below w1.heap.size w1 V := HB2.out.trans (hb12.mono HB2.out.size)
  have e1 := HS1.out
  have e2 := HS2.out
  have e3 := HBE.out
  have e4 := HGE.out
  have hA := (HA1.out.below hb1V).rise (Z := V.heap.size) (by omega) (Nat.le_refl _)
  have hR := (HA2.out.below hb12).rise (Z := V.heap.size) (by omega) (Nat.le_refl _)
  have hsd : Sd V (fun k => w.heap.size ≤ k ∧ k < V.heap.size) (w2.heap.size + 1) b gc w2.heap.size (w1.heap.size + 1) w1.heap.size V.heap.size (.slice none 0 0) (.slice none 0 0) (.slice none 0 0) (.slice none 0 0) (.slice none 0 0) (Ast.new n keep) (Ast.new n keep) [] [] [] [] := by
    refine ⟨hx, hA, hR, ⟨hq, World.ownsRow_nil _ _ _ _, World.ownsRow_nil _ _ _ _, rfl, by omega⟩, World.ownsRow_nil _ _ _ _, (fun j p who g h => by simp at h), List.nodup_nil, rfl, rfl, by omega, (fun j e => by cases e), ⟨by omega, by omega⟩, ⟨by omega, by omega⟩, ⟨by omega, by omega⟩, ⟨by omega, by omega⟩, ⟨by omega, by omega⟩, ⟨by omega, by omega⟩, (fun j e => by cases e), (fun j e => by cases e), (fun j e => by cases e), (fun j e => by cases e), (fun j e => by cases e), (fun p e => by cases e), fun k hk => hk.2⟩
  have HSD := hide hsd
  have HBV : Hid (Below w.heap.size w V) := HB1.out.trans (hb1V.mono HB1.out.size)
  have HAV := hide hA
  rw [← hV]
  clear hV hVs hb12 hq hx hb1V e1 e2 e3 e4 hA hR hsd
  refine (HLN.out _ _ _ _ V HAV.out).mono ?_
  rintro e w' ⟨rfl, hw⟩
  subst w'
  go_wp2_with fail
  go_ret2
  exact ⟨_, _, _, _, _, _, _, rfl, HSD.out, HBV.out⟩
end Go.Proofs.Ytfgchkkljlbmcaa
