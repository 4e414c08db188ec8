import Derived.Test.YtiohimbifjlfdaaPr
/- The document's Parts, of whatever comes in. -/
namespace Go.Proofs.Ytiohimbifjlfdaa
open Go.RowKit Go.Lib
set_option linter.unusedVariables false
set_option linter.unusedSimpArgs false
/-- What Parts answers. -/
noncomputable def prtA (N : Int) (st tl wt : List Int) : List Int × Int := if (chk N st tl wt).1 = 0 then (tab N.toNat (fun v => (numb (BG N.toNat st tl) v : Int)), 0) else ([], (chk N st tl wt).1)
end Go.Proofs.Ytiohimbifjlfdaa

/- The closures of leaving. -/
namespace Go.Proofs.Ytiohimbifjlfdaa
open Go.RowKit Go.Lib
set_option linter.unusedVariables false
set_option linter.unusedSimpArgs false
set_option maxRecDepth 100000 in
set_option maxHeartbeats 2000000 in
/-- One that was met is not entered again. -/
theorem enter_met (n v C Mb : Nat) (K : Nat → Bool) (w : World) (hm : w.cell? ⟨Mb, 0, none⟩ = some (.slice (some ⟨C, 0, none⟩) n n)) (hb : BArr w C (btab n K)) (hv : v < n) (hK : K v = true) :
    Calls Try.prog 55 #[.int .i64 (v : Int), .pointer (some ⟨Mb, 0, none⟩)] w fun e w' => e = .returned (.bool false) ∧ w' = w := by
  have y0 := hb.cell v hv
  rw [hK] at y0
  clear hK hb
  go_enter Try.func55, Try.ntmps55
  go_wp2_with fail
  go_ret
  exact ⟨rfl, rfl⟩
set_option maxRecDepth 100000 in
set_option maxHeartbeats 2000000 in
/-- One that was not is, and is met now. -/
theorem enter_new (n v C Mb : Nat) (K : Nat → Bool) (w : World) (hm : w.cell? ⟨Mb, 0, none⟩ = some (.slice (some ⟨C, 0, none⟩) n n)) (hb : BArr w C (btab n K)) (hv : v < n) (hK : K v = false) :
    Calls Try.prog 55 #[.int .i64 (v : Int), .pointer (some ⟨Mb, 0, none⟩)] w fun e w' => e = .returned (.bool true) ∧ w' = w.setCell ⟨C, v, none⟩ (.bool true) := by
  have y0 := hb.cell v hv
  have yf := hb.free v
  rw [hK] at y0
  clear hK hb
  go_enter Try.func55, Try.ntmps55
  go_wp2_with fail
  go_ret
  exact ⟨rfl, rfl⟩
set_option maxRecDepth 100000 in
set_option maxHeartbeats 2000000 in
/-- One more is left. -/
theorem leave_any (Lb base : Nat) (cv : Value) (l : List Int) (u : Int) (w : World) (hb : w.heap[Lb]? = some (.cells #[cv] 25 (0, 0))) (ho : w.ownsRow base 3 1 cv l.length (ivs l)) (hbase : base ≤ w.heap.size) (hno : ∀ k, cv.ownBlock = some k → k ≠ Lb) (hl : l.length ≤ 1048576) :
    Calls Try.prog 56 #[.int .i64 u, .pointer (some ⟨Lb, 0, none⟩)] w fun e w' => e = .returned (.tuple #[]) ∧ ∃ g cap, w'.heap[Lb]? = some (.cells #[.slice (some ⟨g, 0, none⟩) (l.length + 1) cap] 25 (0, 0)) ∧ w'.ownsRow base 3 1 (.slice (some ⟨g, 0, none⟩) (l.length + 1) cap) (l.length + 1) (ivs (l ++ [u])) ∧ Chg (fun k => k = Lb ∨ cv.ownBlock = some k) w w' := by
  obtain ⟨i3, hi3, hz3, hs3, hy3⟩ := info_parts Try.info3q
  have c0 := cell_of hb (i := 0) rfl
  have HB := hide hb
  have HO := hide (own_chg (S := fun _ => False) ho ((Chg.refl _ w).alloc (.cells #[.int .i64 u] 3)) (fun _ _ h => h))
  have HNO := hide hno; have HBS := hide hbase; have HL := hide hl
  have HLT : Hid (Lb < w.heap.size) := lt_of_heap hb
  clear hb ho hno
  obtain ⟨co, cl, cc, rfl⟩ : ∃ co cl cc, cv = .slice co cl cc := by
    obtain ⟨_, ⟨rfl, _⟩ | ⟨g, cap, cur, rfl, _⟩⟩ := HO.out
    · exact ⟨_, _, _, rfl⟩
    · exact ⟨_, _, _, rfl⟩
  go_enter Try.func56, Try.ntmps56
  go_wp2_with (first
    | (at_builtin; refine wpList_append_lies _ rfl (.tmp 3) (.tmp 5) 25 rfl base 3 i3 (.int .i64 0) 1 8 Try.underlying25 hi3 hz3 hs3 hy3 rfl (by omega) _ l.length (ivs l) rfl HO.out ⟨w.heap.size, 0, none⟩ 1 1 [.int .i64 u] rfl rfl (one_at w _ _) (by simp [Value.oneCell']) (by omega) (by unfold maxLen; have := HL.out; omega) (by have := HL.out; omega) (by have := HBS.out; simp; omega) (w.heap.size + 1) (by simp) ?_; intro g8 cap8 w8 hown hgrow hat hltg; have hc8 : Chg (fun k => (Value.slice co cl cc).ownBlock = some k) w w8 := ((Chg.refl _ w).alloc _).grown hgrow (fun k hk => .inl hk); have hb8 : w8.heap[Lb]? = some (.cells #[.slice co cl cc] 25 (0, 0)) := hc8.heap HB.out (fun h => HNO.out Lb h rfl); have z0 := cell_of hb8 (i := 0) rfl; have zf := free_of hb8 0; have HC8 := hide hc8; have HB8 := hide hb8; have HO8 := hide hown; have HAT := hide hat; clear hown hgrow hat hltg hc8 hb8)
    | fail)
  first | go_end0 | refine bodyPost_ret (results_none rfl _ _ _) rfl ?_
  have hne : g8 ≠ Lb := by
    rcases HAT.out with h | h
    · exact HNO.out g8 h
    · have := HLT.out; omega
  refine ⟨rfl, g8, cap8, heap_set HB8.out _, ?_, (HC8.out.mono (fun k hk => .inr hk)).setCell (p := ⟨Lb, 0, none⟩) (.inl rfl) _⟩
  have := own_chg (S := fun k => k = Lb) HO8.out ((Chg.refl (fun k => k = Lb) w8).setCell (p := ⟨Lb, 0, none⟩) rfl (.slice (some ⟨g8, 0, none⟩) (l.length + 1) cap8)) (fun k hk => by cases hk; exact hne)
  rw [show ivs (l ++ [u]) = ivs l ++ [.int .i64 u] by simp [ivs]]
  exact this
end Go.Proofs.Ytiohimbifjlfdaa

/- The closures of together. -/
namespace Go.Proofs.Ytiohimbifjlfdaa
open Go.RowKit Go.Lib
set_option linter.unusedVariables false
set_option linter.unusedSimpArgs false
set_option maxRecDepth 100000 in
set_option maxHeartbeats 2000000 in
/-- One that has a group is not entered. -/
theorem group_old (n v A Gb Fb : Nat) (L : List Int) (w : World) (hm : w.cell? ⟨Gb, 0, none⟩ = some (.slice (some ⟨A, 0, none⟩) n n)) (hb : Arr w A L) (hL : L.length = n) (hv : v < n) (hK : at_ L v ≠ -1) :
    Calls Try.prog 36 #[.int .i64 (v : Int), .pointer (some ⟨Gb, 0, none⟩), .pointer (some ⟨Fb, 0, none⟩)] w fun e w' => e = .returned (.bool false) ∧ w' = w := by
  have y0 := hb.cell v (by omega)
  obtain ⟨x, hx⟩ : ∃ x, x = at_ L v := ⟨_, rfl⟩
  rw [← hx] at y0 hK
  have hbx : (x != -1) = true := by simpa using hK
  clear hb hx hK
  go_enter Try.func36, Try.ntmps36
  go_wp2_with fail
  go_ret
  exact ⟨rfl, rfl⟩
set_option maxRecDepth 100000 in
set_option maxHeartbeats 2000000 in
/-- One that has none is, and has it now. -/
theorem group_new (n v A Gb Fb : Nat) (f : Int) (L : List Int) (w : World) (hm : w.cell? ⟨Gb, 0, none⟩ = some (.slice (some ⟨A, 0, none⟩) n n)) (hf : w.cell? ⟨Fb, 0, none⟩ = some (.int .i64 f)) (hb : Arr w A L) (hL : L.length = n) (hv : v < n) (hK : at_ L v = -1) :
    Calls Try.prog 36 #[.int .i64 (v : Int), .pointer (some ⟨Gb, 0, none⟩), .pointer (some ⟨Fb, 0, none⟩)] w fun e w' => e = .returned (.bool true) ∧ w' = w.setCell ⟨A, v, none⟩ (.int .i64 f) := by
  have y0 := hb.cell v (by omega)
  have yf := hb.free v
  rw [hK] at y0
  clear hb hK
  go_enter Try.func36, Try.ntmps36
  go_wp2_with fail
  go_ret
  exact ⟨rfl, rfl⟩
set_option maxRecDepth 100000 in
set_option maxHeartbeats 2000000 in
/-- Nothing is done. -/
theorem nothing_any (v : Int) (w : World) : Calls Try.prog 37 #[.int .i64 v] w fun e w' => e = .returned (.tuple #[]) ∧ w' = w := by
  go_enter Try.func37, Try.ntmps37
  go_wp2_with fail
  first | go_end0 | refine bodyPost_ret (results_none rfl _ _ _) rfl ?_
  exact ⟨rfl, rfl⟩
end Go.Proofs.Ytiohimbifjlfdaa
