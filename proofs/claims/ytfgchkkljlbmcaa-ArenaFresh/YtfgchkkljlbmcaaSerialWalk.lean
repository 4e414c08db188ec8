/- ArenaSerial: the walk. -/
import Derived.Test.YtfgchkkljlbmcaaDoMade
import Derived.Test.YtfgchkkljlbmcaaReplayWalk
namespace Go.Proofs.Ytfgchkkljlbmcaa
open Go.RowKit Go.Lib Go.MuLone

theorem AIs.drew {w : World} {Y b gc : Nat} {lv : Value} {s : Ast} (h : AIs w Y b gc lv s) : AIs w.drew Y b gc lv s := ⟨h.hb, h.hc, h.hl, h.bY, h.gY, h.ne, h.len, h.yw⟩
theorem WordsAt.of_words {w : World} {Z n : Nat} {xs : List Int} (h : w.heap[Z]? = some (wordsObj xs)) (hn : xs.length = n) (hm : n ≤ 9223372036854775807) : WordsAt w (.slice (some ⟨Z, 0, none⟩) n n) xs := by
  subst hn
  refine .inr ⟨Z, 0, _, rfl, lt_of_heap h, Nat.le_refl _, hm, fun i hi => ?_⟩
  rw [Nat.zero_add]
  exact words_cell h i hi
/-- What the log asked for and made again leaves: in whichever order. -/
structure SerEnd (w0 w : World) (Y b gc gl NN : Nat) (cells : List Int) (log : List Acc) (pv : Value) (ps : List Nat) (v : Value) : Prop where
  is : SerialIs w0 w Y b gc gl NN cells log pv ps (fun _ => false)
  wv : ∃ B, w.ownsRow B 29 1 v cells.length (cells.map (Value.int .u64))
theorem SerEnd.look {w0 w w' : World} {Y b gc gl NN : Nat} {cells : List Int} {log : List Acc} {pv v lv : Value} {ps : List Nat} (h : SerEnd w0 w Y b gc gl NN cells log pv ps v) (ha : AIs w' Y b gc lv (seSt cells log)) (k : Chg (fun j => j = b) w w') :
    SerEnd w0 w' Y b gc gl NN cells log pv ps v := by
  obtain ⟨B, ho⟩ := h.wv
  obtain ⟨lv0, R⟩ := h.is.ex
  refine ⟨h.is.look ha k, B, ownsRow_block ho (fun i hi => k.block i (owns_lt ho hi).2 (fun e => ?_))⟩
  obtain ⟨cur, hc⟩ := own_type ho hi
  exact ne_of_type hc R.ar.hb (by decide) e
theorem SerEnd.news {w0 w w' : World} {Y b gc gl NN : Nat} {cells : List Int} {log : List Acc} {pv v : Value} {ps : List Nat} (h : SerEnd w0 w Y b gc gl NN cells log pv ps v) (k : Below w.heap.size w w') : SerEnd w0 w' Y b gc gl NN cells log pv ps v := by
  obtain ⟨B, ho⟩ := h.wv
  exact ⟨h.is.news k, B, ownsRow_block ho (fun i hi => k.block i (owns_lt ho hi).2)⟩
theorem SerEnd.words {w0 w : World} {Y b gc gl NN : Nat} {cells : List Int} {log : List Acc} {pv v : Value} {ps : List Nat} (h : SerEnd w0 w Y b gc gl NN cells log pv ps v) : WordsAt w v cells ∧ WordsAt w (.slice (some ⟨gl, 0, none⟩) NN NN) cells := by
  obtain ⟨B, ho⟩ := h.wv
  obtain ⟨lv0, R⟩ := h.is.ex
  refine ⟨WordsAt.of_owns ho, WordsAt.of_words h.is.own h.is.len ?_⟩
  have h1 : cells.length ≤ 16777216 := R.ar.len
  have := h.is.len
  omega
/-- Zeros first, then the log. -/
theorem ser_a {w0 wr w5 w6 : World} {Y b gc gl NN : Nat} {cells : List Int} {log : List Acc} {pv lv v5 : Value} {ps : List Nat} (h : SerialIs w0 wr Y b gc gl NN cells log pv ps (fun _ => false)) {zs : List Int}
    (ho : w5.ownsRow (wr.alloc (wordsObj zs)).drew.heap.size 31 8 v5 log.length (logCells log)) (ha : AIs w5 Y b gc lv (seSt cells log)) (k : Chg (fun j => j = b) (wr.alloc (wordsObj zs)).drew w5) :
    w5.heap[wr.heap.size]? = some (wordsObj zs) ∧ AccsAt w5 v5 log ∧ (∀ v6 : Value, w6.ownsRow w5.heap.size 29 1 v6 cells.length (cells.map (Value.int .u64)) → Below w5.heap.size w5 w6 → SerEnd w0 w6 Y b gc gl NN cells log pv ps v6) := by
  have hn : (wr.alloc (wordsObj zs)).drew.heap[wr.heap.size]? = some (wordsObj zs) := heap_new wr _
  have hs : SerialIs w0 (wr.alloc (wordsObj zs)).drew Y b gc gl NN cells log pv ps (fun _ => false) := h.news (((Below.refl _ wr).alloc (Nat.le_refl _) _).drew)
  have hlook := hs.look ha k
  obtain ⟨lv0, R⟩ := hs.ex
  refine ⟨k.heap hn (fun e => ne_of_type hn R.ar.hb (by decide) e), AccsAt.of_owns ho, fun v6 h1 h2 => ⟨hlook.news h2, _, h1⟩⟩
/-- The log first, then zeros. -/
theorem ser_b {w0 wr w5 w6 : World} {Y b gc gl NN : Nat} {cells : List Int} {log : List Acc} {pv lv v5 : Value} {ps : List Nat} (h : SerialIs w0 wr Y b gc gl NN cells log pv ps (fun _ => false)) {zs : List Int}
    (ho : w5.ownsRow wr.drew.heap.size 31 8 v5 log.length (logCells log)) (ha : AIs w5 Y b gc lv (seSt cells log)) (k : Chg (fun j => j = b) wr.drew w5) :
    (w5.alloc (wordsObj zs)).heap[w5.heap.size]? = some (wordsObj zs) ∧ AccsAt (w5.alloc (wordsObj zs)) v5 log ∧
      (∀ v6 : Value, w6.ownsRow (w5.alloc (wordsObj zs)).heap.size 29 1 v6 cells.length (cells.map (Value.int .u64)) → Below (w5.alloc (wordsObj zs)).heap.size (w5.alloc (wordsObj zs)) w6 → SerEnd w0 w6 Y b gc gl NN cells log pv ps v6) := by
  have hs : SerialIs w0 wr.drew Y b gc gl NN cells log pv ps (fun _ => false) := h.news ((Below.refl _ wr).drew)
  have hlook := (hs.look ha k).news ((Below.refl _ w5).alloc (Nat.le_refl _) (wordsObj zs))
  exact ⟨heap_new _ _, (AccsAt.of_owns ho).below ((Below.refl _ w5).alloc (Nat.le_refl _) _), fun v6 h1 h2 => ⟨hlook.news h2, _, h1⟩⟩
theorem gs_back (j : Nat) : (fun i => if i = j then false else (if i = j then true else (fun _ : Nat => false) i)) = fun _ : Nat => false := by
  funext i
  by_cases h : i = j <;> simp [h]

set_option maxRecDepth 100000 in
set_option maxHeartbeats 4000000 in
theorem serial_walk (n : Int) (ao : Option Addr) (len cap : Nat) (ops : Nat → Opr) (w : World) (hlen : (len : Int) * 72 ≤ 140737488351232) (hcap : len ≤ cap) (hsc : Script w ao len ops) :
    Calls Try.prog 6 #[.int .i64 n, .slice ao len cap] w fun r w' => r = .returned (.bool true) ∧ Below w.heap.size w w' := by
  have HS := hide hsc
  clear hsc
  go_enter Try.func6, Try.ntmps6
  go_wp2_with fail
  refine (heads_any _).mono ?_
  rintro e w1 ⟨rfl, hb1⟩
  have HB1 := hide hb1
  clear hb1
  go_wp2_with fail
  refine (room_any n 4 _ (by decide)).mono ?_
  rintro e w2 ⟨b, gc, pv, ps, rfl, hps, hroom⟩
  have HR := hide hroom
  clear hroom
  obtain ⟨p0, p1, p2, p3, rfl⟩ : ∃ a b c d, ps = [a, b, c, d] := by
    match ps, hps with
    | [a, b, c, d], _ => exact ⟨a, b, c, d, rfl⟩
  clear hps
  obtain ⟨g, c, rfl, hc4, hcell⟩ := HR.out.cells (by simp)
  have hg4 : (4 : Int) ≤ c := by have : 4 ≤ c := hc4; omega
  clear hcell hc4
  obtain ⟨q8, hq8⟩ : ∃ q : Nat, n % 8 = (q : Int) := ⟨(n % 8).toNat, by omega⟩
  have hq88 : q8 < 8 := by omega
  obtain ⟨NN, hNN⟩ : ∃ NN, 1 + q8 = NN := ⟨_, rfl⟩
  have hNp : 0 < NN := by omega
  have hN8 : (NN : Int) ≤ 8 := by omega
  rw [show 1 + (n % 8).toNat = NN by omega] at HR
  have HLen := hide (len_any _ b gc _ _ w2 HR.out.ar)
  have hmk := run_makeWords NN (by omega)
  have hlenN : (Ast.new NN true).cells.length = NN := by simp [Ast.new]
  rw [hlenN] at HLen
  clear hlenN
  have HQ8 := hide (And.intro hq8 hNN)
  clear hq8 hNN hq88
  go_wp2_with fail
  refine HLen.out.mono ?_
  rintro e w' ⟨rfl, hw⟩
  subst w'
  clear HLen
  go_wp2_with fail
  refine (index_any n 8 _ (by decide) (by decide)).mono ?_
  rintro e w' ⟨rfl, hw⟩
  subst w'
  rw [HQ8.out.1]
  have hNq : (1 : Int) + (q8 : Int) = (NN : Int) := by have := HQ8.out.2; omega
  generalize hW3 : World.alloc _ _ = w3
  have H0 : Hid (SerialIs w1 w3 w2.heap.size b gc w2.heap.size NN (List.replicate NN 0) [] (.slice (some ⟨g, 0, none⟩) 4 c) [p0, p1, p2, p3] (fun _ => false)) := by
    have hb2 : Below w2.heap.size w2 w3 := by rw [← hW3]; exact (Below.refl _ _).alloc (Nat.le_refl _) _
    refine ⟨⟨.slice none 0 0, HR.out.news hb2⟩, by rw [← hW3]; exact heap_new _ _, ?_, HR.out.bel.size, rfl, by simp⟩
    have := lt_of_heap HR.out.ar.hc
    omega
  generalize w2.heap.size = gl at *
  clear hW3 HR hmk
  go_wp2_with fail
  go_loopw [8, 9] (fun mt t wr => ∃ k : Nat, k ≤ len ∧ t = .int .i64 k ∧ ∃ (cells : List Int) (log : List Acc), log.length ≤ k ∧ mt = .int .i64 log.length ∧ Hid (SerialIs w1 wr gl b gc gl NN cells log (.slice (some ⟨g, 0, none⟩) 4 c) [p0, p1, p2, p3] (fun _ => false))) (fun _ t _ => len - (RowKit.intOf t).toNat)
  case atStart => exact ⟨0, by omega, rfl, _, [], by simp, rfl, H0⟩
  case round =>
    clear H0
    obtain ⟨k, hk, rfl, cells, log, hlk, rfl, HI⟩ := hrel
    have hcl : cells.length = NN := HI.out.len
    by_cases hlt : k < len
    · obtain ⟨lv, R⟩ := HI.out.ex
      obtain ⟨gq, oq, rfl, hgq, hoc⟩ := ((HS.out.below HB1.out).below R.bel) k hlt
      obtain ⟨⟨kind, second, port, cell, want, put, xa, xb, xc⟩, hops⟩ : ∃ o, ops k = o := ⟨_, rfl⟩
      rw [hops] at hoc
      have o0 : wr.cell? ⟨gq, oq + k * 9, none⟩ = some (.int .i64 kind) := hoc 0 _ rfl
      have o1 : wr.cell? ⟨gq, oq + k * 9 + 1, none⟩ = some (.bool second) := hoc 1 _ rfl
      have o2 : wr.cell? ⟨gq, oq + k * 9 + 2, none⟩ = some (.int .i64 port) := hoc 2 _ rfl
      have o3 : wr.cell? ⟨gq, oq + k * 9 + 3, none⟩ = some (.int .i64 cell) := hoc 3 _ rfl
      have o4 : wr.cell? ⟨gq, oq + k * 9 + 4, none⟩ = some (.int .u64 want) := hoc 4 _ rfl
      have o5 : wr.cell? ⟨gq, oq + k * 9 + 5, none⟩ = some (.int .u64 put) := hoc 5 _ rfl
      have o6 : wr.cell? ⟨gq, oq + k * 9 + 6, none⟩ = some (.int .i64 xa) := hoc 6 _ rfl
      have o7 : wr.cell? ⟨gq, oq + k * 9 + 7, none⟩ = some (.int .i64 xb) := hoc 7 _ rfl
      have o8 : wr.cell? ⟨gq, oq + k * 9 + 8, none⟩ = some (.int .i64 xc) := hoc 8 _ rfl
      clear hoc hops R
      by_cases hkr : 1 ≤ kind ∧ kind ≤ 5
      · obtain ⟨hk1, hk5⟩ := hkr
        obtain ⟨q, hq⟩ : ∃ q : Nat, cell % (NN : Int) = (q : Int) := ⟨(cell % (NN : Int)).toNat, by have := Int.emod_nonneg cell (show (NN : Int) ≠ 0 by omega); omega⟩
        have hqN : q < NN := by have := Int.emod_lt_of_pos cell (show (0 : Int) < NN by omega); omega
        have hqi : (q : Int) < NN := by omega
        obtain ⟨j, hj⟩ : ∃ j : Nat, port % 4 = (j : Int) := ⟨(port % 4).toNat, by omega⟩
        have hj4 : j < 4 := by omega
        obtain ⟨p, hp⟩ : ∃ p, [p0, p1, p2, p3][j]? = some p := ⟨_, List.getElem?_eq_getElem (by simpa using hj4)⟩
        have hj4' : (j : Int) < 4 := by omega
        have HP := hide hp
        have HQ := hide (And.intro hq hj)
        clear hp hj4 hq hj
        go_wp2_with fail
        refine (index_any cell NN _ (by omega) (by omega)).mono ?_
        rintro e w' ⟨rfl, hw⟩
        subst w'
        rw [HQ.out.1]
        generalize hW : World.alloc _ _ = W
        have hA : W.heap[wr.heap.size]? = some (.cells #[.int .i64 kind, .bool second, .int .i64 port, .int .i64 cell, .int .u64 want, .int .u64 put, .int .i64 xa, .int .i64 xb, .int .i64 xc] 47 (0, 0)) := by rw [← hW]; exact heap_new _ _
        have hWb : Below wr.heap.size wr W := by rw [← hW]; exact (Below.refl _ _).alloc (Nat.le_refl _) _
        have HI1 := hide (HI.out.news hWb)
        have HA := hide hA
        generalize wr.heap.size = A at *
        clear hW hWb hA o0 o1 o2 o3 o4 o5 o6 o7 o8 HI hgq
        obtain ⟨lvW, RW⟩ := HI1.out.ex
        obtain ⟨g', c', he, _, hcell⟩ := RW.cells (by simp)
        simp only [Value.slice.injEq, Option.some.injEq, Addr.mk.injEq] at he
        obtain ⟨⟨rfl, _⟩, _, rfl⟩ := he
        have e1 := hcell j p HP.out
        have a2 : W.cell? ⟨A, 2, none⟩ = some (.int .i64 port) := cell_of HA.out rfl
        have hAb : A ≠ b := ne_of_type HA.out RW.ar.hb (by decide)
        have hAp : A ≠ p := ne_of_type HA.out (RW.po j p HP.out).1 (by decide)
        have hAgl : ¬ A = gl := ne_of_type HA.out HI1.out.own (by decide)
        have hAgl' : ¬ gl = A := fun e => hAgl e.symm
        have HAb := hide (And.intro hAb hAp)
        have HG1 := hide (HI1.out.grant HP.out)
        clear RW hcell hAb hAp
        go_wp2_with fail
        refine (index_any port 4 _ (by decide) (by decide)).mono ?_
        rintro e w' ⟨rfl, hw⟩
        subst w'
        rw [HQ.out.2]
        go_wp2_with fail
        refine HG1.out.mono ?_
        rintro e wG ⟨rfl, h3, k3⟩
        have A3 := hide (k3.heap HA.out (fun e => by rcases e with e | e; exact HAb.out.1 e; exact HAb.out.2 e))
        have H3 := hide h3
        obtain ⟨seen, hsn⟩ : ∃ seen, nth cells q = seen := ⟨_, rfl⟩
        have s3 : wG.cell? ⟨gl, q, none⟩ = some (.int .u64 seen) := by rw [← hsn]; exact words_cell h3.own q (by omega)
        have HSN := hide hsn
        clear h3 k3 hsn HG1 HI1 HA a2 e1
        obtain ⟨lv3, R3⟩ := H3.out.ex
        rcases (show kind = 1 ∨ kind = 2 ∨ kind = 3 ∨ kind = 4 ∨ kind = 5 by omega) with rfl | rfl | rfl | rfl | rfl
        · have HDo := hide (do_made ⟨1, second, port, cell, want, put, xa, xb, xc⟩ (R3.ready HP.out (by simp) rfl (show q < cells.length by omega) (show (0 : Int) ≤ log.length by omega) (show (log.length : Int) < 9223372036854775807 by omega) (show (log.length + 1) * 64 ≤ 140737488355328 by omega)) (show (1 : Int) ≤ 1 by decide) (show (1 : Int) ≤ 5 by decide))
          have RR3 := hide R3
          clear R3
          have a0 : wG.cell? ⟨A, 0, none⟩ = some (.int .i64 1) := cell_of A3.out rfl
          have a1 : wG.cell? ⟨A, 1, none⟩ = some (.bool second) := cell_of A3.out rfl
          have a2 : wG.cell? ⟨A, 2, none⟩ = some (.int .i64 port) := cell_of A3.out rfl
          have a3 : wG.cell? ⟨A, 3, none⟩ = some (.int .i64 cell) := cell_of A3.out rfl
          have a4 : wG.cell? ⟨A, 4, none⟩ = some (.int .u64 want) := cell_of A3.out rfl
          have a5 : wG.cell? ⟨A, 5, none⟩ = some (.int .u64 put) := cell_of A3.out rfl
          have a6 : wG.cell? ⟨A, 6, none⟩ = some (.int .i64 xa) := cell_of A3.out rfl
          have a7 : wG.cell? ⟨A, 7, none⟩ = some (.int .i64 xb) := cell_of A3.out rfl
          have a8 : wG.cell? ⟨A, 8, none⟩ = some (.int .i64 xc) := cell_of A3.out rfl
          go_wp2_with fail
          refine HDo.out.mono ?_
          rintro e w4 ⟨he, hpost⟩
          obtain ⟨hah, k4⟩ := H3.out.acc RR3.out HP.out ⟨1, second, port, cell, want, put, xa, xb, xc⟩ (show q < cells.length by omega) hpost
          have A4 := hide (k4.heap A3.out (fun e => by
            rcases e with e | e | e | e
            · exact ne_of_type A3.out RR3.out.ar.hb (by decide) e
            · exact ne_of_type A3.out RR3.out.ar.hc (by decide) e
            · exact ne_of_type A3.out (RR3.out.po j p HP.out).1 (by decide) e
            · obtain ⟨cur, hc⟩ := own_type RR3.out.ar.hl e
              exact ne_of_type A3.out hc (by decide) rfl))
          rw [gs_back] at hah
          have H4 := hide hah
          have own4 := hah.own
          have lgl := lt_of_heap own4
          have z4 : w4.cell? ⟨gl, q, none⟩ = some (.int .u64 (nth cells q)) := words_cell own4 q (by omega)
          have zf := free_of own4 q
          have hcells : nth (seSt cells log).cells q = seen := HSN.out
          obtain rfl : e = .returned (.tuple #[.int .u64 seen, .bool true]) := by rw [he, hcells]; rfl
          clear he hah hpost k4 own4 hcells HDo RR3 H3 A3 a0 a1 a2 a3 a4 a5 a6 a7 a8 s3
          have a0 : w4.cell? ⟨A, 0, none⟩ = some (.int .i64 1) := cell_of A4.out rfl
          have a4 : w4.cell? ⟨A, 4, none⟩ = some (.int .u64 want) := cell_of A4.out rfl
          have a5 : w4.cell? ⟨A, 5, none⟩ = some (.int .u64 put) := cell_of A4.out rfl
          have hll : (log.length : Int) + 1 ≤ 9223372036854775807 := by omega
          have H5 := hide (H4.out.same rfl (by omega))
          clear H4 z4 zf
          obtain ⟨lv5, R5⟩ := H5.out.ex
          have HG := hide (granted_any p gl b gc lv5 _ _ _ w4 R5.ar (R5.po j p HP.out).1 (R5.pb HP.out))
          clear R5
          go_wp2_with fail
          refine HG.out.mono ?_
          rintro e w5 ⟨rfl, ha5, k5, _⟩
          have H6 := hide (H5.out.look ha5 k5)
          clear ha5 k5 HG H5 a0 a4 a5 A4
          go_wp2_with fail
          go_roundw
          case rel => exact ⟨k + 1, by omega, by go_num, cells, log ++ [_], by simp; omega, by simp, H6⟩
          case measure => simp [RowKit.intOf]; omega
        · have HDo := hide (do_made ⟨2, second, port, cell, want, put, xa, xb, xc⟩ (R3.ready HP.out (by simp) rfl (show q < cells.length by omega) (show (0 : Int) ≤ log.length by omega) (show (log.length : Int) < 9223372036854775807 by omega) (show (log.length + 1) * 64 ≤ 140737488355328 by omega)) (show (1 : Int) ≤ 2 by decide) (show (2 : Int) ≤ 5 by decide))
          have RR3 := hide R3
          clear R3
          have a0 : wG.cell? ⟨A, 0, none⟩ = some (.int .i64 2) := cell_of A3.out rfl
          have a1 : wG.cell? ⟨A, 1, none⟩ = some (.bool second) := cell_of A3.out rfl
          have a2 : wG.cell? ⟨A, 2, none⟩ = some (.int .i64 port) := cell_of A3.out rfl
          have a3 : wG.cell? ⟨A, 3, none⟩ = some (.int .i64 cell) := cell_of A3.out rfl
          have a4 : wG.cell? ⟨A, 4, none⟩ = some (.int .u64 want) := cell_of A3.out rfl
          have a5 : wG.cell? ⟨A, 5, none⟩ = some (.int .u64 put) := cell_of A3.out rfl
          have a6 : wG.cell? ⟨A, 6, none⟩ = some (.int .i64 xa) := cell_of A3.out rfl
          have a7 : wG.cell? ⟨A, 7, none⟩ = some (.int .i64 xb) := cell_of A3.out rfl
          have a8 : wG.cell? ⟨A, 8, none⟩ = some (.int .i64 xc) := cell_of A3.out rfl
          go_wp2_with fail
          refine HDo.out.mono ?_
          rintro e w4 ⟨he, hpost⟩
          obtain ⟨hah, k4⟩ := H3.out.acc RR3.out HP.out ⟨2, second, port, cell, want, put, xa, xb, xc⟩ (show q < cells.length by omega) hpost
          have A4 := hide (k4.heap A3.out (fun e => by
            rcases e with e | e | e | e
            · exact ne_of_type A3.out RR3.out.ar.hb (by decide) e
            · exact ne_of_type A3.out RR3.out.ar.hc (by decide) e
            · exact ne_of_type A3.out (RR3.out.po j p HP.out).1 (by decide) e
            · obtain ⟨cur, hc⟩ := own_type RR3.out.ar.hl e
              exact ne_of_type A3.out hc (by decide) rfl))
          rw [gs_back] at hah
          have H4 := hide hah
          have own4 := hah.own
          have lgl := lt_of_heap own4
          have z4 : w4.cell? ⟨gl, q, none⟩ = some (.int .u64 (nth cells q)) := words_cell own4 q (by omega)
          have zf := free_of own4 q
          have hcells : nth (seSt cells log).cells q = seen := HSN.out
          obtain rfl : e = .returned (.tuple #[.int .u64 0, .bool true]) := by rw [he, hcells]; rfl
          clear he hah hpost k4 own4 hcells HDo RR3 H3 A3 a0 a1 a2 a3 a4 a5 a6 a7 a8 s3
          have a0 : w4.cell? ⟨A, 0, none⟩ = some (.int .i64 2) := cell_of A4.out rfl
          have a4 : w4.cell? ⟨A, 4, none⟩ = some (.int .u64 want) := cell_of A4.out rfl
          have a5 : w4.cell? ⟨A, 5, none⟩ = some (.int .u64 put) := cell_of A4.out rfl
          have hll : (log.length : Int) + 1 ≤ 9223372036854775807 := by omega
          have H5 := hide (H4.out.done (put) rfl)
          clear H4
          obtain ⟨lv5, R5⟩ := H5.out.ex
          have HG := hide (granted_any p gl b gc lv5 _ _ _ _ R5.ar (R5.po j p HP.out).1 (R5.pb HP.out))
          clear R5
          go_wp2_with fail
          refine HG.out.mono ?_
          rintro e w5 ⟨rfl, ha5, k5, _⟩
          have H6 := hide (H5.out.look ha5 k5)
          clear ha5 k5 HG H5 a0 a4 a5 A4 z4 zf
          go_wp2_with fail
          go_roundw
          case rel => exact ⟨k + 1, by omega, by go_num, _, log ++ [_], by simp; omega, by simp, H6⟩
          case measure => simp [RowKit.intOf]; omega
        · by_cases hsw : seen = want
          · have HDo := hide (do_made ⟨3, second, port, cell, want, put, xa, xb, xc⟩ (R3.ready HP.out (by simp) rfl (show q < cells.length by omega) (show (0 : Int) ≤ log.length by omega) (show (log.length : Int) < 9223372036854775807 by omega) (show (log.length + 1) * 64 ≤ 140737488355328 by omega)) (show (1 : Int) ≤ 3 by decide) (show (3 : Int) ≤ 5 by decide))
            have RR3 := hide R3
            clear R3
            have a0 : wG.cell? ⟨A, 0, none⟩ = some (.int .i64 3) := cell_of A3.out rfl
            have a1 : wG.cell? ⟨A, 1, none⟩ = some (.bool second) := cell_of A3.out rfl
            have a2 : wG.cell? ⟨A, 2, none⟩ = some (.int .i64 port) := cell_of A3.out rfl
            have a3 : wG.cell? ⟨A, 3, none⟩ = some (.int .i64 cell) := cell_of A3.out rfl
            have a4 : wG.cell? ⟨A, 4, none⟩ = some (.int .u64 want) := cell_of A3.out rfl
            have a5 : wG.cell? ⟨A, 5, none⟩ = some (.int .u64 put) := cell_of A3.out rfl
            have a6 : wG.cell? ⟨A, 6, none⟩ = some (.int .i64 xa) := cell_of A3.out rfl
            have a7 : wG.cell? ⟨A, 7, none⟩ = some (.int .i64 xb) := cell_of A3.out rfl
            have a8 : wG.cell? ⟨A, 8, none⟩ = some (.int .i64 xc) := cell_of A3.out rfl
            go_wp2_with fail
            refine HDo.out.mono ?_
            rintro e w4 ⟨he, hpost⟩
            obtain ⟨hah, k4⟩ := H3.out.acc RR3.out HP.out ⟨3, second, port, cell, want, put, xa, xb, xc⟩ (show q < cells.length by omega) hpost
            have A4 := hide (k4.heap A3.out (fun e => by
              rcases e with e | e | e | e
              · exact ne_of_type A3.out RR3.out.ar.hb (by decide) e
              · exact ne_of_type A3.out RR3.out.ar.hc (by decide) e
              · exact ne_of_type A3.out (RR3.out.po j p HP.out).1 (by decide) e
              · obtain ⟨cur, hc⟩ := own_type RR3.out.ar.hl e
                exact ne_of_type A3.out hc (by decide) rfl))
            rw [gs_back] at hah
            have H4 := hide hah
            have own4 := hah.own
            have lgl := lt_of_heap own4
            have z4 : w4.cell? ⟨gl, q, none⟩ = some (.int .u64 (nth cells q)) := words_cell own4 q (by omega)
            have zf := free_of own4 q
            have hcells : nth (seSt cells log).cells q = seen := HSN.out
            obtain rfl : e = .returned (.tuple #[.int .u64 0, .bool true]) := by rw [he, hcells]; simp [doV, doB, hsw]
            clear he hah hpost k4 own4 hcells HDo RR3 H3 A3 a0 a1 a2 a3 a4 a5 a6 a7 a8 s3
            have a0 : w4.cell? ⟨A, 0, none⟩ = some (.int .i64 3) := cell_of A4.out rfl
            have a4 : w4.cell? ⟨A, 4, none⟩ = some (.int .u64 want) := cell_of A4.out rfl
            have a5 : w4.cell? ⟨A, 5, none⟩ = some (.int .u64 put) := cell_of A4.out rfl
            have hll : (log.length : Int) + 1 ≤ 9223372036854775807 := by omega
            have H5 := hide (H4.out.done (put) (show put = (if nth cells q = want then put else nth cells q) from (if_pos (by rw [HSN.out]; exact hsw)).symm))
            clear H4
            obtain ⟨lv5, R5⟩ := H5.out.ex
            have HG := hide (granted_any p gl b gc lv5 _ _ _ _ R5.ar (R5.po j p HP.out).1 (R5.pb HP.out))
            clear R5
            go_wp2_with fail
            refine HG.out.mono ?_
            rintro e w5 ⟨rfl, ha5, k5, _⟩
            have H6 := hide (H5.out.look ha5 k5)
            clear ha5 k5 HG H5 a0 a4 a5 A4 z4 zf
            go_wp2_with fail
            go_roundw
            case rel => exact ⟨k + 1, by omega, by go_num, _, log ++ [_], by simp; omega, by simp, H6⟩
            case measure => simp [RowKit.intOf]; omega
          · have HDo := hide (do_made ⟨3, second, port, cell, want, put, xa, xb, xc⟩ (R3.ready HP.out (by simp) rfl (show q < cells.length by omega) (show (0 : Int) ≤ log.length by omega) (show (log.length : Int) < 9223372036854775807 by omega) (show (log.length + 1) * 64 ≤ 140737488355328 by omega)) (show (1 : Int) ≤ 3 by decide) (show (3 : Int) ≤ 5 by decide))
            have RR3 := hide R3
            clear R3
            have a0 : wG.cell? ⟨A, 0, none⟩ = some (.int .i64 3) := cell_of A3.out rfl
            have a1 : wG.cell? ⟨A, 1, none⟩ = some (.bool second) := cell_of A3.out rfl
            have a2 : wG.cell? ⟨A, 2, none⟩ = some (.int .i64 port) := cell_of A3.out rfl
            have a3 : wG.cell? ⟨A, 3, none⟩ = some (.int .i64 cell) := cell_of A3.out rfl
            have a4 : wG.cell? ⟨A, 4, none⟩ = some (.int .u64 want) := cell_of A3.out rfl
            have a5 : wG.cell? ⟨A, 5, none⟩ = some (.int .u64 put) := cell_of A3.out rfl
            have a6 : wG.cell? ⟨A, 6, none⟩ = some (.int .i64 xa) := cell_of A3.out rfl
            have a7 : wG.cell? ⟨A, 7, none⟩ = some (.int .i64 xb) := cell_of A3.out rfl
            have a8 : wG.cell? ⟨A, 8, none⟩ = some (.int .i64 xc) := cell_of A3.out rfl
            go_wp2_with fail
            refine HDo.out.mono ?_
            rintro e w4 ⟨he, hpost⟩
            obtain ⟨hah, k4⟩ := H3.out.acc RR3.out HP.out ⟨3, second, port, cell, want, put, xa, xb, xc⟩ (show q < cells.length by omega) hpost
            have A4 := hide (k4.heap A3.out (fun e => by
              rcases e with e | e | e | e
              · exact ne_of_type A3.out RR3.out.ar.hb (by decide) e
              · exact ne_of_type A3.out RR3.out.ar.hc (by decide) e
              · exact ne_of_type A3.out (RR3.out.po j p HP.out).1 (by decide) e
              · obtain ⟨cur, hc⟩ := own_type RR3.out.ar.hl e
                exact ne_of_type A3.out hc (by decide) rfl))
            rw [gs_back] at hah
            have H4 := hide hah
            have own4 := hah.own
            have lgl := lt_of_heap own4
            have z4 : w4.cell? ⟨gl, q, none⟩ = some (.int .u64 (nth cells q)) := words_cell own4 q (by omega)
            have zf := free_of own4 q
            have hcells : nth (seSt cells log).cells q = seen := HSN.out
            obtain rfl : e = .returned (.tuple #[.int .u64 0, .bool false]) := by rw [he, hcells]; simp [doV, doB, hsw]
            have hsb : (seen == want) = false := by simp [hsw]
            have HSW := hide hsw
            clear hsw
            clear he hah hpost k4 own4 hcells HDo RR3 H3 A3 a0 a1 a2 a3 a4 a5 a6 a7 a8 s3
            have a0 : w4.cell? ⟨A, 0, none⟩ = some (.int .i64 3) := cell_of A4.out rfl
            have a4 : w4.cell? ⟨A, 4, none⟩ = some (.int .u64 want) := cell_of A4.out rfl
            have a5 : w4.cell? ⟨A, 5, none⟩ = some (.int .u64 put) := cell_of A4.out rfl
            have hll : (log.length : Int) + 1 ≤ 9223372036854775807 := by omega
            have H5 := hide (H4.out.same (show (if nth cells q = want then put else nth cells q) = nth cells q from if_neg (by rw [HSN.out]; exact HSW.out)) (by omega))
            clear H4 z4 zf
            obtain ⟨lv5, R5⟩ := H5.out.ex
            have HG := hide (granted_any p gl b gc lv5 _ _ _ w4 R5.ar (R5.po j p HP.out).1 (R5.pb HP.out))
            clear R5
            go_wp2_with fail
            refine HG.out.mono ?_
            rintro e w5 ⟨rfl, ha5, k5, _⟩
            have H6 := hide (H5.out.look ha5 k5)
            clear ha5 k5 HG H5 a0 a4 a5 A4
            go_wp2_with fail
            go_roundw
            case rel => exact ⟨k + 1, by omega, by go_num, cells, log ++ [_], by simp; omega, by simp, H6⟩
            case measure => simp [RowKit.intOf]; omega
        · have HDo := hide (do_made ⟨4, second, port, cell, want, put, xa, xb, xc⟩ (R3.ready HP.out (by simp) rfl (show q < cells.length by omega) (show (0 : Int) ≤ log.length by omega) (show (log.length : Int) < 9223372036854775807 by omega) (show (log.length + 1) * 64 ≤ 140737488355328 by omega)) (show (1 : Int) ≤ 4 by decide) (show (4 : Int) ≤ 5 by decide))
          have RR3 := hide R3
          clear R3
          have a0 : wG.cell? ⟨A, 0, none⟩ = some (.int .i64 4) := cell_of A3.out rfl
          have a1 : wG.cell? ⟨A, 1, none⟩ = some (.bool second) := cell_of A3.out rfl
          have a2 : wG.cell? ⟨A, 2, none⟩ = some (.int .i64 port) := cell_of A3.out rfl
          have a3 : wG.cell? ⟨A, 3, none⟩ = some (.int .i64 cell) := cell_of A3.out rfl
          have a4 : wG.cell? ⟨A, 4, none⟩ = some (.int .u64 want) := cell_of A3.out rfl
          have a5 : wG.cell? ⟨A, 5, none⟩ = some (.int .u64 put) := cell_of A3.out rfl
          have a6 : wG.cell? ⟨A, 6, none⟩ = some (.int .i64 xa) := cell_of A3.out rfl
          have a7 : wG.cell? ⟨A, 7, none⟩ = some (.int .i64 xb) := cell_of A3.out rfl
          have a8 : wG.cell? ⟨A, 8, none⟩ = some (.int .i64 xc) := cell_of A3.out rfl
          go_wp2_with fail
          refine HDo.out.mono ?_
          rintro e w4 ⟨he, hpost⟩
          obtain ⟨hah, k4⟩ := H3.out.acc RR3.out HP.out ⟨4, second, port, cell, want, put, xa, xb, xc⟩ (show q < cells.length by omega) hpost
          have A4 := hide (k4.heap A3.out (fun e => by
            rcases e with e | e | e | e
            · exact ne_of_type A3.out RR3.out.ar.hb (by decide) e
            · exact ne_of_type A3.out RR3.out.ar.hc (by decide) e
            · exact ne_of_type A3.out (RR3.out.po j p HP.out).1 (by decide) e
            · obtain ⟨cur, hc⟩ := own_type RR3.out.ar.hl e
              exact ne_of_type A3.out hc (by decide) rfl))
          rw [gs_back] at hah
          have H4 := hide hah
          have own4 := hah.own
          have lgl := lt_of_heap own4
          have z4 : w4.cell? ⟨gl, q, none⟩ = some (.int .u64 (nth cells q)) := words_cell own4 q (by omega)
          have zf := free_of own4 q
          have hcells : nth (seSt cells log).cells q = seen := HSN.out
          obtain rfl : e = .returned (.tuple #[.int .u64 seen, .bool true]) := by rw [he, hcells]; rfl
          clear he hah hpost k4 own4 hcells HDo RR3 H3 A3 a0 a1 a2 a3 a4 a5 a6 a7 a8 s3
          have a0 : w4.cell? ⟨A, 0, none⟩ = some (.int .i64 4) := cell_of A4.out rfl
          have a4 : w4.cell? ⟨A, 4, none⟩ = some (.int .u64 want) := cell_of A4.out rfl
          have a5 : w4.cell? ⟨A, 5, none⟩ = some (.int .u64 put) := cell_of A4.out rfl
          have hll : (log.length : Int) + 1 ≤ 9223372036854775807 := by omega
          have H5 := hide (H4.out.done (IntKind.u64.wrap (seen + put)) (show IntKind.u64.wrap (seen + put) = IntKind.u64.wrap (nth cells q + put) by rw [HSN.out]))
          clear H4
          obtain ⟨lv5, R5⟩ := H5.out.ex
          have HG := hide (granted_any p gl b gc lv5 _ _ _ _ R5.ar (R5.po j p HP.out).1 (R5.pb HP.out))
          clear R5
          go_wp2_with fail
          refine HG.out.mono ?_
          rintro e w5 ⟨rfl, ha5, k5, _⟩
          have H6 := hide (H5.out.look ha5 k5)
          clear ha5 k5 HG H5 a0 a4 a5 A4 z4 zf
          go_wp2_with fail
          go_roundw
          case rel => exact ⟨k + 1, by omega, by go_num, _, log ++ [_], by simp; omega, by simp, H6⟩
          case measure => simp [RowKit.intOf]; omega
        · have HDo := hide (do_made ⟨5, second, port, cell, want, put, xa, xb, xc⟩ (R3.ready HP.out (by simp) rfl (show q < cells.length by omega) (show (0 : Int) ≤ log.length by omega) (show (log.length : Int) < 9223372036854775807 by omega) (show (log.length + 1) * 64 ≤ 140737488355328 by omega)) (show (1 : Int) ≤ 5 by decide) (show (5 : Int) ≤ 5 by decide))
          have RR3 := hide R3
          clear R3
          have a0 : wG.cell? ⟨A, 0, none⟩ = some (.int .i64 5) := cell_of A3.out rfl
          have a1 : wG.cell? ⟨A, 1, none⟩ = some (.bool second) := cell_of A3.out rfl
          have a2 : wG.cell? ⟨A, 2, none⟩ = some (.int .i64 port) := cell_of A3.out rfl
          have a3 : wG.cell? ⟨A, 3, none⟩ = some (.int .i64 cell) := cell_of A3.out rfl
          have a4 : wG.cell? ⟨A, 4, none⟩ = some (.int .u64 want) := cell_of A3.out rfl
          have a5 : wG.cell? ⟨A, 5, none⟩ = some (.int .u64 put) := cell_of A3.out rfl
          have a6 : wG.cell? ⟨A, 6, none⟩ = some (.int .i64 xa) := cell_of A3.out rfl
          have a7 : wG.cell? ⟨A, 7, none⟩ = some (.int .i64 xb) := cell_of A3.out rfl
          have a8 : wG.cell? ⟨A, 8, none⟩ = some (.int .i64 xc) := cell_of A3.out rfl
          go_wp2_with fail
          refine HDo.out.mono ?_
          rintro e w4 ⟨he, hpost⟩
          obtain ⟨hah, k4⟩ := H3.out.acc RR3.out HP.out ⟨5, second, port, cell, want, put, xa, xb, xc⟩ (show q < cells.length by omega) hpost
          have A4 := hide (k4.heap A3.out (fun e => by
            rcases e with e | e | e | e
            · exact ne_of_type A3.out RR3.out.ar.hb (by decide) e
            · exact ne_of_type A3.out RR3.out.ar.hc (by decide) e
            · exact ne_of_type A3.out (RR3.out.po j p HP.out).1 (by decide) e
            · obtain ⟨cur, hc⟩ := own_type RR3.out.ar.hl e
              exact ne_of_type A3.out hc (by decide) rfl))
          rw [gs_back] at hah
          have H4 := hide hah
          have own4 := hah.own
          have lgl := lt_of_heap own4
          have z4 : w4.cell? ⟨gl, q, none⟩ = some (.int .u64 (nth cells q)) := words_cell own4 q (by omega)
          have zf := free_of own4 q
          have hcells : nth (seSt cells log).cells q = seen := HSN.out
          obtain rfl : e = .returned (.tuple #[.int .u64 seen, .bool true]) := by rw [he, hcells]; rfl
          clear he hah hpost k4 own4 hcells HDo RR3 H3 A3 a0 a1 a2 a3 a4 a5 a6 a7 a8 s3
          have a0 : w4.cell? ⟨A, 0, none⟩ = some (.int .i64 5) := cell_of A4.out rfl
          have a4 : w4.cell? ⟨A, 4, none⟩ = some (.int .u64 want) := cell_of A4.out rfl
          have a5 : w4.cell? ⟨A, 5, none⟩ = some (.int .u64 put) := cell_of A4.out rfl
          have hll : (log.length : Int) + 1 ≤ 9223372036854775807 := by omega
          have H5 := hide (H4.out.done (put) rfl)
          clear H4
          obtain ⟨lv5, R5⟩ := H5.out.ex
          have HG := hide (granted_any p gl b gc lv5 _ _ _ _ R5.ar (R5.po j p HP.out).1 (R5.pb HP.out))
          clear R5
          go_wp2_with fail
          refine HG.out.mono ?_
          rintro e w5 ⟨rfl, ha5, k5, _⟩
          have H6 := hide (H5.out.look ha5 k5)
          clear ha5 k5 HG H5 a0 a4 a5 A4 z4 zf
          go_wp2_with fail
          go_roundw
          case rel => exact ⟨k + 1, by omega, by go_num, _, log ++ [_], by simp; omega, by simp, H6⟩
          case measure => simp [RowKit.intOf]; omega
      · by_cases hk1 : 1 ≤ kind
        · have hk5 : ¬ kind ≤ 5 := fun h => hkr ⟨hk1, h⟩
          have hk5' : 5 < kind := by omega
          clear hkr
          go_wp2_with fail
          have HI1 := hide (HI.out.news ((Below.refl _ wr).alloc (Nat.le_refl _) (.cells #[.int .i64 kind, .bool second, .int .i64 port, .int .i64 cell, .int .u64 want, .int .u64 put, .int .i64 xa, .int .i64 xb, .int .i64 xc] 47)))
          go_roundw
          case rel => exact ⟨k + 1, by omega, by go_num, cells, log, by omega, rfl, HI1⟩
          case measure => simp [RowKit.intOf]; omega
        · have hk5' : kind < 1 := by omega
          clear hkr
          go_wp2_with fail
          have HI1 := hide (HI.out.news ((Below.refl _ wr).alloc (Nat.le_refl _) (.cells #[.int .i64 kind, .bool second, .int .i64 port, .int .i64 cell, .int .u64 want, .int .u64 put, .int .i64 xa, .int .i64 xb, .int .i64 xc] 47)))
          go_roundw
          case rel => exact ⟨k + 1, by omega, by go_num, cells, log, by omega, rfl, HI1⟩
          case measure => simp [RowKit.intOf]; omega
    · obtain rfl : k = len := by omega
      obtain ⟨lv, R⟩ := HI.out.ex
      have HA := hide R.ar
      have hbig : (seSt cells log).log.length * 64 ≤ 140737488355328 := by show log.length * 64 ≤ _; omega
      have hmk := run_makeWords NN (by omega)
      have hz : (List.replicate NN (0 : Int)).length * 8 ≤ 140737488355328 := by simp; omega
      have hrep := HI.out.rep
      have HRep := hide hrep
      have hzl : (List.replicate NN (0 : Int)).length = cells.length := by simp [hcl]
      have HZ := hide (And.intro hz hzl)
      have hNm : NN ≤ 9223372036854775807 := by omega
      have hllen : (log.length : Int) ≤ 140737488355328 := by omega
      clear R hrep hz hzl
      go_wp2_with fail
      go_cut [16, 17] from 144 to 152 (fun t u wx => t = .int .i64 (-1) ∧ Hid (SerEnd w1 wx gl b gc gl NN cells log (.slice (some ⟨g, 0, none⟩) 4 c) [p0, p1, p2, p3] u))
      case first =>
        go_region_with (first
          | (go_at_call 24; refine (log_any gl b gc lv (seSt cells log) _ ?_ hbig).mono ?_; (first | exact HA.out.drew | exact (HA.out.below ((Below.refl _ _).alloc (Nat.le_refl _) _)).drew); rintro e w5 ⟨v5, rfl, ho5, ha5, k5⟩; have H5 := hide (And.intro ho5 (And.intro ha5 k5)); clear ho5 ha5 k5)
          | (go_at_call 13; refine (replay_any _ v5 (List.replicate NN 0) log _ ?_ ?_ HZ.out.1 hllen).mono ?_; (first | exact WordsAt.of_words (ser_a HI.out H5.out.1 H5.out.2.1 H5.out.2.2 (w6 := w)).1 (by simp) hNm | exact WordsAt.of_words (heap_new _ _) (by simp) hNm); (first | exact (ser_a HI.out H5.out.1 H5.out.2.1 H5.out.2.2 (w6 := w)).2.1 | exact (ser_b HI.out H5.out.1 H5.out.2.1 H5.out.2.2 (w6 := w)).2.1); rintro e w6 ⟨v6, he6, ho6, hb6⟩; rw [HRep.out] at he6 ho6; rw [HZ.out.2] at ho6; obtain rfl := he6; have H6 := hide (And.intro ho6 hb6); clear ho6 hb6))
        · go_wp2_with fail
          go_meet
          case rel => exact ⟨rfl, (ser_a HI.out H5.out.1 H5.out.2.1 H5.out.2.2 (w6 := w6)).2.2 _ H6.out.1 H6.out.2⟩
        · go_wp2_with fail
          go_meet
          case rel => exact ⟨rfl, (ser_b HI.out H5.out.1 H5.out.2.1 H5.out.2.2 (w6 := w6)).2.2 _ H6.out.1 H6.out.2⟩
      case rest =>
        obtain ⟨rfl, HE⟩ := hcut
        clear HI HA hmk HZ HRep
        obtain ⟨lv, R⟩ := HE.out.is.ex
        have HF := hide (fault_any gl b gc lv _ _ R.ar)
        clear R
        go_wp2_with fail
        refine HF.out.mono ?_
        rintro e w6 ⟨he, ha6, k6⟩
        obtain rfl : e = .returned (.tuple #[.agg #[.int .i64 0, .int .i64 0, .int .i64 0], .bool false]) := he
        have H6 := hide ((HE.out.look ha6 k6).news ((Below.refl _ w6).alloc (Nat.le_refl _) (.cells #[.int .i64 0, .int .i64 0, .int .i64 0] 45)))
        have HSm := hide (sameWords_any _ _ cells _ H6.out.words.1 H6.out.words.2)
        clear ha6 k6 HF HE
        go_wp2_with fail
        refine HSm.out.mono ?_
        rintro e w7 ⟨rfl, m7, hw7⟩
        have H7 := hide (H6.out.news (w' := w7) (by rw [hw7]; exact below_drewN (Below.refl _ _) m7))
        clear hw7 HSm H6
        obtain ⟨lv7, R7⟩ := H7.out.is.ex
        have HIm := hide (image_any gl b gc lv7 _ _ R7.ar)
        clear R7
        go_wp2_with fail
        refine HIm.out.mono ?_
        rintro e w8 ⟨v8, rfl, ho8, ha8, k8⟩
        have H8 : Hid (SerEnd w1 w8 gl b gc gl NN cells log (.slice (some ⟨g, 0, none⟩) 4 c) [p0, p1, p2, p3] v8) := ⟨H7.out.is.look ha8 k8, _, ho8⟩
        have HSm := hide (sameWords_any _ _ cells _ H8.out.words.1 H8.out.words.2)
        clear ho8 ha8 k8 HIm H7
        go_wp2_with fail
        refine HSm.out.mono ?_
        rintro e w9 ⟨rfl, m9, hw9⟩
        have H9 := hide (H8.out.is.news (w' := w9) (by rw [hw9]; exact below_drewN (Below.refl _ _) m9))
        clear hw9 HSm H8
        obtain ⟨lv9, R9⟩ := H9.out.ex
        have HCt := hide (count_any gl b gc lv9 _ _ R9.ar)
        clear R9
        go_wp2_with fail
        refine HCt.out.mono ?_
        rintro e w10 ⟨he, ha10, k10, _⟩
        obtain rfl : e = .returned (.int .i64 (log.length : Int)) := he
        have H10 := hide (H9.out.look ha10 k10)
        have HLg := hide (log_any gl b gc lv9 _ _ ha10 hbig)
        clear ha10 k10 HCt H9
        go_wp2_with fail
        refine HLg.out.mono ?_
        rintro e w11 ⟨v11, rfl, ho11, ha11, k11⟩
        obtain ⟨ao11, c11, rfl⟩ := owns_shape ho11
        have H11 := hide (H10.out.look ha11 k11)
        clear ho11 ha11 k11 HLg H10
        have hls : (seSt cells log).log.length = log.length := rfl
        go_wp2_with fail
        go_ret
        refine ⟨rfl, ?_⟩
        obtain ⟨_, R⟩ := H11.out.ex
        exact HB1.out.trans (R.bel.mono HB1.out.size)
end Go.Proofs.Ytfgchkkljlbmcaa
