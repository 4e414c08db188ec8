import Derived.Test.YtlncjbjdjciphaaSA
import Derived.Test.YtlncjbjdjciphaaM2
/- Both circles: a pick. -/
namespace Go.Proofs.Ytlncjbjdjciphaa
open Go.RowKit Go.Lib Go.MuLone
set_option linter.unusedVariables false
set_option linter.unusedSimpArgs false
/-- Both arenas hold the same. -/
structure Sm (s t : Ast) : Prop where
  cells : t.cells = s.cells
  log : t.log = s.log
/-- Ready for the two steps of a pick. -/
def Pre (s t : Ast) (g : Bool) (ph : Nat) : Prop :=
  (ph = 0 ∧ t.stopped = s.stopped) ∨ (ph ≠ 0 ∧ s.stopped = false ∧ t.stopped = false ∧ g = true) ∨ (ph ≠ 0 ∧ t.stopped = true ∧ (s.stopped = true ∨ (s.stopped = false ∧ g = false)))
/-- Between them. -/
def Nxt (t s' : Ast) (ds ds' : Nat → Nd) (i : Nat) : Prop :=
  ((ds i).ph = 0 ∧ ds' = ds ∧ Sm s' t ∧ t.stopped = s'.stopped) ∨
  ((ds i).ph ≠ 0 ∧ t.stopped = false ∧ s'.stopped = false ∧ ds' = upd ds i ((ds i).next (nth t.cells (ds i).cell)) ∧ Sm s' (t.made (ds i).cell ((ds i).acc (nth t.cells (ds i).cell)))) ∨
  ((ds i).ph ≠ 0 ∧ t.stopped = true ∧ s'.stopped = true ∧ ds' = upd ds i ((ds i).next 0) ∧ Sm s' t)
section
variable {w wr wr' : World} {X b gc rb rc Y Y2 Z n K : Nat} {lv lr vP vN vG : Value} {s t : Ast} {qs ps rs : Nat → Nat} {sv tv : Nat → Value} {gs : Nat → Bool} {ds es : Nat → Nd}
theorem tp_pick_p (h : TP w wr X b gc rb rc Y Y2 Z n lv lr s t vP vN vG qs ps rs sv tv gs ds ds K) {i : Nat} (hi : i < n) (hsm : Sm s t) (hp : Pre s t (gs i) (ds i).ph) (hK : K ≤ 4194304) :
    Calls Try.prog 11 #[.pointer (some ⟨qs i, 0, none⟩), .pointer (some ⟨ps i, 0, none⟩)] wr fun e w' => e = .returned (.tuple #[]) ∧ ∃ lv' s' gs' ds', TP w w' X b gc rb rc Y Y2 Z n lv' lr s' t vP vN vG qs ps rs sv tv gs' ds' ds (K + 1) ∧ Nxt t s' ds ds' i := by
  rcases hp with ⟨h0, he⟩ | ⟨h0, h1, h2, hg⟩ | ⟨h0, h1, h2⟩
  · refine (tp_idle_p h hi h0 _).mono ?_
    rintro e w' ⟨rfl, rfl⟩
    exact ⟨rfl, _, _, _, _, h.mono (Nat.le_succ K), .inl ⟨h0, rfl, hsm, he⟩⟩
  · refine (tp_go_p h hi hg h0 h1 hK).mono ?_
    rintro e w' ⟨rfl, lv', ht⟩
    refine ⟨rfl, _, _, _, _, ht, .inr (.inl ⟨h0, h2, h1, by rw [hsm.cells], ⟨?_, ?_⟩⟩)⟩
    · show t.cells.set _ _ = s.cells.set _ _
      rw [hsm.cells]
    · show (if t.keep then t.log ++ [_] else t.log) = (if s.keep then s.log ++ [_] else s.log)
      rw [h.kp.1, h.kp.2, hsm.log, hsm.cells]
  · refine (tp_zero_p h hi h2 h0).mono ?_
    rintro e w' ⟨rfl, s', hss, ht⟩
    exact ⟨rfl, _, _, _, _, ht, .inr (.inr ⟨h0, h1, hss.stop, rfl, ⟨by rw [hss.cells]; exact hsm.cells, by rw [hss.log]; exact hsm.log⟩⟩)⟩
theorem tp_pick_r (h : TP w wr X b gc rb rc Y Y2 Z n lv lr s t vP vN vG qs ps rs sv tv gs es ds K) {i : Nat} (hi : i < n) (hn : Nxt t s ds es i) (hK : K ≤ 4194305) :
    Calls Try.prog 17 #[.pointer (some ⟨rs i, 0, none⟩), .pointer (some ⟨rb, 0, none⟩), .int .i64 (i : Int)] wr fun e w' => e = .returned (.tuple #[]) ∧ ∃ lr' t', TP w w' X b gc rb rc Y Y2 Z n lv lr' s t' vP vN vG qs ps rs sv tv gs es es (K + 1) ∧ Sm s t' ∧ t'.stopped = s.stopped := by
  rcases hn with ⟨h0, rfl, hsm, he⟩ | ⟨h0, h1, h2, rfl, hsm⟩ | ⟨h0, h1, h2, rfl, hsm⟩
  · refine (tp_idle_r h hi h0).mono ?_
    rintro e w' ⟨rfl, rfl⟩
    exact ⟨rfl, _, _, h.mono (Nat.le_succ K), hsm, he⟩
  · refine (tp_go_r h hi h0 h1 hK).mono ?_
    rintro e w' ⟨rfl, lr', ht⟩
    exact ⟨rfl, _, _, ht, hsm, by rw [h2]; exact h1⟩
  · refine (tp_zero_r h hi h1 h0 hK).mono ?_
    rintro e w' ⟨rfl, ht⟩
    exact ⟨rfl, _, _, ht, hsm, by rw [h1, h2]⟩
theorem tp_granted (h : TP w wr X b gc rb rc Y Y2 Z n lv lr s t vP vN vG qs ps rs sv tv gs ds es K) {i : Nat} (hi : i < n) : Calls Try.prog 15 #[.pointer (some ⟨ps i, 0, none⟩)] wr fun r w' => r = .returned (.bool (gs i)) ∧ TP w w' X b gc rb rc Y Y2 Z n lv lr s t vP vN vG qs ps rs sv tv gs ds es K := by
  have hp := h.po i hi
  refine (granted_any (ps i) Y b gc lv s i (gs i) wr h.ar hp (ne_ty hp h.ar.hb (by decide))).mono ?_
  rintro e w' ⟨rfl, ha, c, _⟩
  exact ⟨rfl, h.look ha c⟩
theorem tp_tell (h : TP w wr X b gc rb rc Y Y2 Z n lv lr s t vP vN vG qs ps rs sv tv gs ds es K) {i : Nat} (hi : i < n) (hK : K ≤ 4611686018427387904) : Calls Try.prog 13 #[.pointer (some ⟨qs i, 0, none⟩)] wr fun r w' => r = .returned (ds i).told ∧ TP w w' X b gc rb rc Y Y2 Z n lv lr s t vP vN vG qs ps rs sv tv gs ds es K := by
  have hw := (h.wf i hi).1
  refine (tell_nd (h.nd i hi).1 hw.ph (by have := hw.ba; omega)).mono ?_
  rintro e w' ⟨rfl, hb⟩
  exact ⟨rfl, h.below hb⟩
theorem tp_rtell (h : TP w wr X b gc rb rc Y Y2 Z n lv lr s t vP vN vG qs ps rs sv tv gs ds es K) {i : Nat} (hi : i < n) : Calls Try.prog 18 #[.pointer (some ⟨rs i, 0, none⟩)] wr fun r w' => r = .returned (es i).told ∧ TP w w' X b gc rb rc Y Y2 Z n lv lr s t vP vN vG qs ps rs sv tv gs ds es K := by
  refine (rtell_nd (h.rd i hi).1).mono ?_
  rintro e w' ⟨rfl, hb⟩
  exact ⟨rfl, h.below hb⟩
theorem tp_over (h : TP w wr X b gc rb rc Y Y2 Z n lv lr s t vP vN vG qs ps rs sv tv gs ds es K) {i : Nat} (hi : i < n) : Calls Try.prog 9 #[.pointer (some ⟨qs i, 0, none⟩)] wr fun r w' => r = .returned (.bool (decide ((ds i).ph = 0))) ∧ w' = wr := over_nd (h.nd i hi).1 (h.wf i hi).1.ph
theorem tp_rover (h : TP w wr X b gc rb rc Y Y2 Z n lv lr s t vP vN vG qs ps rs sv tv gs ds es K) {i : Nat} (hi : i < n) : Calls Try.prog 16 #[.pointer (some ⟨rs i, 0, none⟩)] wr fun r w' => r = .returned (.bool (decide ((es i).ph = 0))) ∧ w' = wr := rover_nd (h.rd i hi).1
theorem tp_count (h : TP w wr X b gc rb rc Y Y2 Z n lv lr s t vP vN vG qs ps rs sv tv gs ds es K) : Calls Try.prog 14 #[.pointer (some ⟨b, 0, none⟩)] wr fun r w' => r = .returned (.int .i64 s.count) ∧ TP w w' X b gc rb rc Y Y2 Z n lv lr s t vP vN vG qs ps rs sv tv gs ds es K := by
  refine (count_any _ _ _ _ _ wr h.ar).mono ?_
  rintro e w' ⟨rfl, ha, c, _⟩
  exact ⟨rfl, h.look ha c⟩
/-- The cells that a pick reads. -/
theorem tp_cells {gP cP gN cN gG cG : Nat} (h : TP w wr X b gc rb rc Y Y2 Z n lv lr s t (.slice (some ⟨gP, 0, none⟩) n cP) (.slice (some ⟨gN, 0, none⟩) n cN) (.slice (some ⟨gG, 0, none⟩) n cG) qs ps rs sv tv gs ds es K) {i : Nat} (hi : i < n) :
    wr.cell? ⟨X, 0, none⟩ = some (.pointer (some ⟨b, 0, none⟩)) ∧ wr.cell? ⟨X, 1, none⟩ = some (.slice (some ⟨gP, 0, none⟩) n cP) ∧ wr.cell? ⟨X, 2, none⟩ = some (.slice (some ⟨gN, 0, none⟩) n cN) ∧ wr.cell? ⟨X, 3, none⟩ = some (.pointer (some ⟨rb, 0, none⟩)) ∧ wr.cell? ⟨X, 4, none⟩ = some (.slice (some ⟨gG, 0, none⟩) n cG) ∧
    wr.cell? ⟨gN, i, none⟩ = some (.pointer (some ⟨qs i, 0, none⟩)) ∧ wr.cell? ⟨gP, i, none⟩ = some (.pointer (some ⟨ps i, 0, none⟩)) ∧ wr.cell? ⟨gG, i, none⟩ = some (.pointer (some ⟨rs i, 0, none⟩)) := by
  have hx := h.x
  refine ⟨cell_of hx rfl, cell_of hx rfl, cell_of hx rfl, cell_of hx rfl, cell_of hx rfl, own_at h.rn (ptrs_get qs hi) hi, own_at h.rp (ptrs_get ps hi) hi, own_at h.rg (ptrs_get rs hi) hi⟩
/-- What the last part reads of the document's arena. -/
theorem tp_ref (h : TP w wr X b gc rb rc Y Y2 Z n lv lr s t vP vN vG qs ps rs sv tv gs ds es K) : wr.cell? ⟨rb, 0, none⟩ = some (.slice (some ⟨rc, 0, none⟩) t.cells.length t.cells.length) ∧ wr.cell? ⟨rb, 1, none⟩ = some lr ∧ wr.cell? ⟨rb, 3, none⟩ = some (.bool t.stopped) ∧ wr.frozen? ⟨rb, 3, none⟩ = false :=
  ⟨cell_of h.rr.hb rfl, cell_of h.rr.hb rfl, cell_of h.rr.hb rfl, free_of h.rr.hb 3⟩
end
end Go.Proofs.Ytlncjbjdjciphaa

/- TokenPlays: the walk. -/
namespace Go.Proofs.Ytlncjbjdjciphaa
open Go.RowKit Go.Lib
set_option linter.unusedVariables false
set_option linter.unusedSimpArgs false
theorem Lr.tp {w w' : World} {X b gc rb rc Y Y2 Z : Nat} {vP vN vG : Value} {qs ps rs : Nat → Nat} {sv tv : Nat → Value} {ls : List (List Int)} {aw : List Int} {bu : Int} (hbl : Below w.heap.size w w') (hz : w.heap.size ≤ Z) (hl : w.heap.size ≤ b ∧ w.heap.size ≤ gc ∧ w.heap.size ≤ rb ∧ w.heap.size ≤ rc ∧ gc ≠ rc)
    (har : AIs w' Y b gc (.slice none 0 0) { Ast.new (4 + ls.length) true with cells := cl0 ls.length }) (hrr : RIs w' Y2 rb rc (.slice none 0 0) { Ast.new (4 + ls.length) true with cells := cl0 ls.length }) (hlx : LX w w' X b rb Z vP vN vG ls.length ls.length ls.length qs ps) (hrg : w'.ownsRow Z 50 1 vG ls.length (ptrs rs ls.length))
    (hnd : ∀ j, j < ls.length → w'.heap[qs j]? = some ((Nd.new ls aw bu j).obj (sv j)) ∧ Snd w' Z (sv j) (rowL ls j)) (hpo : ∀ j, j < ls.length → w'.heap[ps j]? = some (PObj b j false))
    (hinj : ∀ i j, i < j → j < ls.length → qs i ≠ qs j ∧ ps i ≠ ps j) (hlo : ∀ j, j < ls.length → Z ≤ qs j ∧ Z ≤ ps j) (hrd : RDn w' Z ls.length ls aw bu rs tv) (hck : CkA ls aw bu 0) (hbu : bu ≤ 9223372036854775807) (hn : 1 ≤ ls.length ∧ ls.length ≤ 64) :
    TP w w' X b gc rb rc Y Y2 Z ls.length (.slice none 0 0) (.slice none 0 0) { Ast.new (4 + ls.length) true with cells := cl0 ls.length } { Ast.new (4 + ls.length) true with cells := cl0 ls.length } vP vN vG qs ps rs sv tv (fun _ => false) (fun j => Nd.new ls aw bu j) (fun j => Nd.new ls aw bu j) 0 := by
  have hs := sys_new hck hbu
  exact ⟨hbl, ⟨hz, hl.1, hl.2.1, hl.2.2.1, hl.2.2.2.1⟩, hlx.x, har, hrr, ⟨hl.2.2.2.2, fun g hg => by cases hg⟩, hlx.p, hlx.n, hrg, fun j hj => hnd j hj, fun j hj => hrd.nd j hj, hpo, fun i j hij hj => ⟨(hinj i j hij hj).1, (hinj i j hij hj).2, hrd.inj i j hij hj⟩, fun j hj => ⟨(hlo j hj).1, (hlo j hj).2, hrd.lo j hj⟩, fun j hj => ⟨hs.wf j hj, hs.wf j hj⟩, ⟨hs.len, hs.len⟩, fun i hi => ⟨hs.wd i hi, hs.wd i hi⟩, ⟨rfl, rfl⟩, ⟨rfl, rfl⟩, ⟨Nat.zero_le _, Nat.zero_le _⟩, hn⟩
end Go.Proofs.Ytlncjbjdjciphaa
