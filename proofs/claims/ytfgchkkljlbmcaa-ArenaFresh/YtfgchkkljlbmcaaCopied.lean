/- The reference's Copied; sameLog. -/
import Derived.Test.YtfgchkkljlbmcaaDoStop
import Derived.Test.YtfgchkkljlbmcaaReplay
namespace Go.Proofs.Ytfgchkkljlbmcaa
open Go.RowKit Go.Lib Go.MuLone

theorem take_snoc (xs : List Int) (k : Nat) (h : k < xs.length) : xs.take (k + 1) = xs.take k ++ [nth xs k] := by
  rw [List.take_add_one, List.getElem?_eq_getElem h]
  simp [nth, List.getD, List.getElem?_eq_getElem h]

set_option maxRecDepth 100000 in
set_option maxHeartbeats 1000000 in
theorem copied_any (v : Value) (xs : List Int) (w : World) (h : WordsAt w v xs) (hbig : xs.length * 8 ≤ 140737488355328) :
    Calls Try.prog 12 #[v] w fun e w' => ∃ v', e = .returned v' ∧ w'.ownsRow w.heap.size 29 1 v' xs.length (xs.map (Value.int .u64)) ∧ Below w.heap.size w w' := by
  obtain ⟨i0, hi, hz0, hz1, hz2⟩ := info_parts Try.info29
  have hg : ∀ i, i < xs.length → ∃ g o c, v = .slice (some ⟨g, o, none⟩) xs.length c ∧ g < w.heap.size ∧ xs.length ≤ c ∧ w.cell? ⟨g, o + i, none⟩ = some (.int .u64 (nth xs i)) := by
    intro i hi
    rcases h with ⟨_, rfl⟩ | ⟨g, o, c, e, hg, hl, hm, hc⟩
    · simp at hi
    · exact ⟨g, o, c, e, hg, hl, hc i hi⟩
  obtain ⟨ao, c, rfl⟩ : ∃ ao c, v = .slice ao xs.length c := by
    rcases h with ⟨rfl, rfl⟩ | ⟨g, o, c, e, _⟩
    · exact ⟨none, 0, rfl⟩
    · exact ⟨_, c, e⟩
  have HG := hide hg
  clear h hg
  obtain ⟨n, hn⟩ : ∃ n, xs.length = n := ⟨_, rfl⟩
  rw [hn] at hbig ⊢
  have hni : (n : Int) ≤ 17592186044416 := by omega
  go_enter Try.func12, Try.ntmps12
  go_wp2_with fail
  go_loopw [3, 4] (fun pv t wr => ∃ k : Nat, k ≤ n ∧ t = .int .i64 k ∧ Hid (wr.ownsRow w.heap.size 29 1 pv k ((xs.take k).map (Value.int .u64)) ∧ Below w.heap.size w wr)) (fun _ t _ => n - (RowKit.intOf t).toNat)
  case atStart => exact ⟨0, by omega, rfl, World.ownsRow_nil _ _ _ _, Below.refl _ _⟩
  case round =>
    obtain ⟨k, hk, rfl, HI⟩ := hrel
    by_cases hlt : k < n
    · obtain ⟨g, o, c', he, hgs, hlc, hcell⟩ := HG.out k (by omega)
      simp only [Value.slice.injEq] at he
      obtain ⟨rfl, _, rfl⟩ := he
      have e1 : wr.cell? ⟨g, o + k, none⟩ = some (.int .u64 (nth xs k)) := (HI.out.2.cell (p := ⟨g, o + k, none⟩) hgs).trans hcell
      have hki : (k : Int) < c := by omega
      clear hcell
      go_wp2_with (at_builtin; refine wpList_append_own _ rfl _ _ 26 rfl w.heap.size 29 i0 (.int .u64 0) 1 8 Try.underlying26 hi hz0 hz1 hz2 rfl (by decide) _ _ _ rfl (HI.out.1.alloc _) ⟨wr.heap.size, 0, none⟩ 1 1 [.int .u64 (nth xs k)] rfl rfl ?c1 ?c2 ?c3 ?c4 ?c5 ?_)
      case c1 =>
        intro j u hj
        match j, hj with
        | 0, hj => simp at hj; subst hj; simp [Addr.add]
      case c2 => intro u hu; simp at hu; subst hu; rfl
      case c3 => unfold maxLen; omega
      case c4 => omega
      case c5 => have := HI.out.2.size; simp; omega
      intro v' w2 hown' hgrow _
      have HR : Hid (w2.ownsRow w.heap.size 29 1 v' (k + 1) ((xs.take (k + 1)).map (Value.int .u64)) ∧ Below w.heap.size w w2) := by
        refine ⟨?_, (HI.out.2.alloc HI.out.2.size _).grown hgrow (by have := HI.out.2.size; simp; omega) (fun j hj => (owns_lt HI.out.1 hj).1)⟩
        rw [take_snoc xs k (by omega), List.map_append, List.map_take]
        exact hown'
      clear hown' hgrow HI
      go_wp2
      go_roundw
      case rel => exact ⟨k + 1, by omega, by go_num, HR⟩
      case measure => simp [RowKit.intOf]; omega
    · obtain rfl : k = n := by omega
      go_wp2
      go_ret
      refine ⟨_, rfl, ?_, HI.out.2⟩
      have := HI.out.1
      rwa [List.take_of_length_le (by omega)] at this

set_option maxRecDepth 100000 in
set_option maxHeartbeats 1000000 in
theorem sameLog_any (v1 v2 : Value) (l : List Acc) (w : World) (h1 : AccsAt w v1 l) (h2 : AccsAt w v2 l) :
    Calls Try.prog 16 #[v1, v2] w fun e w' => e = .returned (.bool true) ∧ ∃ m, w' = w.drewN m := by
  obtain ⟨a1, c1, rfl, k1⟩ := h1.cell
  obtain ⟨a2, c2, rfl, k2⟩ := h2.cell
  have K1 := hide k1
  have K2 := hide k2
  clear h1 h2 k1 k2
  generalize hN : l.length = n at *
  have hneq := neq_acc
  go_enter Try.func16, Try.ntmps16
  go_wp2_with fail
  go_loopw [5] (fun t wr => ∃ k : Nat, k ≤ n ∧ t = .int .i64 k ∧ ∃ m, wr = w.drewN m) (fun t _ => n - (RowKit.intOf t).toNat)
  case atStart => exact ⟨0, by omega, rfl, 0, rfl⟩
  case round =>
    obtain ⟨k, hk, rfl, m, rfl⟩ := hrel
    by_cases hlt : k < n
    · obtain ⟨g1, o1, a, rfl, _, ha1, hl1, hm1, e1⟩ := K1.out k hlt
      obtain ⟨g2, o2, a', rfl, _, ha2, hl2, _, e2⟩ := K2.out k hlt
      rw [ha1] at ha2
      obtain rfl := Option.some.inj ha2
      have hkm : (k : Int) + 1 ≤ 9223372036854775807 := by omega
      have x0 : w.cell? ⟨g1, o1 + k * 8, none⟩ = some (.int .i64 a.who) := e1 0 _ rfl
      have x1 : w.cell? ⟨g1, o1 + k * 8 + 1, none⟩ = some (.int .i64 a.kind) := e1 1 _ rfl
      have x2 : w.cell? ⟨g1, o1 + k * 8 + 2, none⟩ = some (.int .i64 a.cell) := e1 2 _ rfl
      have x3 : w.cell? ⟨g1, o1 + k * 8 + 3, none⟩ = some (.int .u64 a.want) := e1 3 _ rfl
      have x4 : w.cell? ⟨g1, o1 + k * 8 + 4, none⟩ = some (.int .u64 a.put) := e1 4 _ rfl
      have x5 : w.cell? ⟨g1, o1 + k * 8 + 5, none⟩ = some (.int .u64 a.seen) := e1 5 _ rfl
      have x6 : w.cell? ⟨g1, o1 + k * 8 + 6, none⟩ = some (.int .u64 a.left) := e1 6 _ rfl
      have x7 : w.cell? ⟨g1, o1 + k * 8 + 7, none⟩ = some (.bool a.ok) := e1 7 _ rfl
      have y0 : w.cell? ⟨g2, o2 + k * 8, none⟩ = some (.int .i64 a.who) := e2 0 _ rfl
      have y1 : w.cell? ⟨g2, o2 + k * 8 + 1, none⟩ = some (.int .i64 a.kind) := e2 1 _ rfl
      have y2 : w.cell? ⟨g2, o2 + k * 8 + 2, none⟩ = some (.int .i64 a.cell) := e2 2 _ rfl
      have y3 : w.cell? ⟨g2, o2 + k * 8 + 3, none⟩ = some (.int .u64 a.want) := e2 3 _ rfl
      have y4 : w.cell? ⟨g2, o2 + k * 8 + 4, none⟩ = some (.int .u64 a.put) := e2 4 _ rfl
      have y5 : w.cell? ⟨g2, o2 + k * 8 + 5, none⟩ = some (.int .u64 a.seen) := e2 5 _ rfl
      have y6 : w.cell? ⟨g2, o2 + k * 8 + 6, none⟩ = some (.int .u64 a.left) := e2 6 _ rfl
      have y7 : w.cell? ⟨g2, o2 + k * 8 + 7, none⟩ = some (.bool a.ok) := e2 7 _ rfl
      have hself : accEq ⟨a.who, a.kind, a.cell, a.want, a.put, a.seen, a.left, a.ok⟩ ⟨a.who, a.kind, a.cell, a.want, a.put, a.seen, a.left, a.ok⟩ = true := (accEq_iff _ _).2 rfl
      have hl1i : (k : Int) < c1 := by omega
      have hl2i : (k : Int) < c2 := by omega
      clear e1 e2 ha1 ha2 hm1 hl1 hl2
      go_wp2_with fail
      go_region
      all_goals
        go_wp2_with fail
        go_roundw
        case rel => exact ⟨k + 1, by omega, by go_num, m + 1, rfl⟩
        case measure => simp [RowKit.intOf]; omega
    · go_wp2_with fail
      go_ret
      exact ⟨rfl, m, rfl⟩
end Go.Proofs.Ytfgchkkljlbmcaa
