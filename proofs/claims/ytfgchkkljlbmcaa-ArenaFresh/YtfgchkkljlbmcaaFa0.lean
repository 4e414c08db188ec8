/- ArenaFresh: an append that stays in place or moves. -/
import Derived.Test.YtfgchkkljlbmcaaSerialWalk
import Derived.ArgAppend
namespace Go.Proofs.Ytfgchkkljlbmcaa
open Go.RowKit Go.Lib
set_option linter.unusedVariables false
theorem Try.info26 : (Try.prog.info? 26).map (fun i => (i.zero, i.size, i.bytes)) = some (some (.slice none 0 0), 1, 24) := by kernel_rfl
theorem Try.info27 : (Try.prog.info? 27).map (fun i => (i.zero, i.size, i.bytes)) = some (some (.slice none 0 0), 1, 24) := by kernel_rfl
theorem info_parts {o : Option TypeInfo} {a : Option Value} {b c : Nat} (h : o.map (fun i => (i.zero, i.size, i.bytes)) = some (a, b, c)) : ∃ i, o = some i ∧ i.zero = a ∧ i.size = b ∧ i.bytes = c := by
  obtain ⟨i, hi, hz⟩ := Option.map_eq_some_iff.1 h
  simp only [Prod.mk.injEq] at hz
  exact ⟨i, hi, hz⟩
/-- An append to a row of one's own: in place, or anew. -/
theorem run_app_split (w : World) (B : Nat) (t ty e : TypeId) (z0 : Nat) (i : TypeInfo) (z : Value) (bytes : Nat) (ht : Try.prog.underlying t = some (.slice e)) (hi : Try.prog.info? e = some i) (hz : i.zero = some z) (hsize : i.size = z0) (hby : i.bytes = bytes) (hzs : z.cells.size = z0) (h0z : 0 < z0)
    (v : Value) (n : Nat) (xs : List Value) (hown : w.ownsRow B e z0 v n xs) (a : Addr) (m c : Nat) (news : List Value) (hl : news.length = m * z0) (hnews : ∀ j u, news[j]? = some u → w.cell? (a.add j) = some u) (h1 : ∀ u ∈ news, u.oneCell' = true) (h63 : n + m ≤ maxLen) (hbytes : (n + m) * bytes ≤ 140737488355328) :
    ∃ v' w', (Builtin.append_ #[t, t] ty #[v, .slice (some a) m c]).run Try.prog w = .ok v' w' ∧
      ((∃ g cap, v = .slice (some ⟨g, 0, none⟩) n cap ∧ v' = .slice (some ⟨g, 0, none⟩) (n + m) cap ∧ w'.ownsRow B e z0 v' (n + m) (xs ++ news) ∧ w.grownBy w' (some g)) ∨ (w'.ownsRow w.heap.size e z0 v' (n + m) (xs ++ news) ∧ w.grownBy w' none)) := by
  rcases id hown with ⟨h0, ⟨rfl, rfl⟩ | ⟨g, cap, cur, rfl, hg, hc, r1, r2, r3, r4⟩⟩
  · obtain rfl : xs = [] := List.eq_nil_of_length_eq_zero (by simpa using h0)
    obtain ⟨v', w', hrun, q1, q2, _⟩ := run_append_own (P := Try.prog) w w.heap.size t ty e i z z0 bytes ht hi hz hsize hby hzs h0z (.slice none 0 0) 0 [] (World.ownsRow_nil w _ e z0) a m c news hl hnews h1 h63 hbytes (Nat.le_refl _)
    exact ⟨v', w', hrun, .inr ⟨q1, q2⟩⟩
  · by_cases hr : n + m ≤ cap
    · obtain ⟨w', hrun, q1, q2⟩ := run_append_fits (P := Try.prog) w B t ty e i z0 ht hi hsize g n cap xs hown a m c news hl hnews h1 hr
      exact ⟨_, w', hrun, .inl ⟨g, cap, rfl, rfl, q1, q2⟩⟩
    · obtain ⟨v', w', hrun, q1, q2⟩ := run_append_arg_grows (P := Try.prog) w t ty e i z z0 bytes ht hi hz hsize hby hzs h0z ⟨g, 0, none⟩ n cap xs h0 (fun j u hj => hown.cells (g := g) rfl j u hj) a m c news hl hnews (by omega) h63 hbytes
      exact ⟨v', w', hrun, .inr ⟨q1, q2⟩⟩
theorem arr_atB (W : World) (l : Array Value) (t : TypeId) : ∀ (j : Nat) (u : Value), l.toList[j]? = some u → (W.alloc (.cells l t)).cell? ((⟨W.heap.size, 0, none⟩ : Addr).add j) = some u := by
  intro j u hj
  rw [Addr.add_lit, Nat.zero_add]
  exact cell_of (heap_new W _) (by simpa using hj)
end Go.Proofs.Ytfgchkkljlbmcaa
