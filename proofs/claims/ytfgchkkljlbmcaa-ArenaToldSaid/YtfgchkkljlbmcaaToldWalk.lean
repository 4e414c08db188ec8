/- ArenaTold: the walk. -/
import Derived.Test.YtfgchkkljlbmcaaToldRow
import Derived.Test.YtfgchkkljlbmcaaSerialWalk
namespace Go.Proofs.Ytfgchkkljlbmcaa
open Go.RowKit Go.Lib Go.MuLone

theorem Ready.drew {w : World} {Y b gc p : Nat} {lv : Value} {s : Ast} {who : Int} {i : Nat} (R : Ready w Y b gc p lv s who i) : Ready w.drew Y b gc p lv s who i :=
  ⟨R.ar.drew, R.po, R.pb, R.pg, R.pl, R.go, R.at_, R.c0, R.c1, R.big⟩
theorem AccPost.drew {w w' : World} {Y b gc p : Nat} {lv : Value} {s : Ast} {who : Int} {i : Nat} {m : Acc} (h : AccPost w.drew w' Y b gc p lv s who i m) : AccPost w w' Y b gc p lv s who i m := by
  obtain ⟨lv', h1, h2, h3, h4⟩ := h
  exact ⟨lv', h1, h2, h3, ((Chg.refl _ w).drew).trans h4⟩

/-- At the end: zeros, the log's row; the arena is no matter any more. -/
structure TEnd (w V : World) (Z B NN : Nat) (v16 : Value) (log : List Acc) : Prop where
  zo : V.heap[Z]? = some (wordsObj (List.replicate NN 0))
  row : V.ownsRow B 31 8 v16 log.length (logCells log)
  bel : Below w.heap.size w V
  bB : w.heap.size ≤ B
  zB : w.heap.size ≤ Z
theorem TEnd.chg {w V V' : World} {Z B NN b : Nat} {v16 : Value} {log : List Acc} (h : TEnd w V Z B NN v16 log) (k : Chg (fun j => j = b) V V') (hb : w.heap.size ≤ b) {cs : Array Value} (hB : V.heap[b]? = some (.cells cs 91 (0, 0))) : TEnd w V' Z B NN v16 log := by
  refine ⟨k.heap h.zo (fun e => ne_of_type h.zo hB (by decide) e), ownsRow_block h.row (fun i hi => k.block i (owns_lt h.row hi).2 (fun e => ?_)), k.below h.bel (fun _ hj => hj ▸ hb) h.bel.size, h.bB, h.zB⟩
  obtain ⟨cur, hc⟩ := own_type h.row hi
  exact ne_of_type hc hB (by decide) e
theorem TEnd.news {w V V' : World} {Z B NN : Nat} {v16 : Value} {log : List Acc} (h : TEnd w V Z B NN v16 log) (k : Below V.heap.size V V') : TEnd w V' Z B NN v16 log :=
  ⟨(k.block Z (lt_of_heap h.zo)).trans h.zo, ownsRow_block h.row (fun i hi => k.block i (owns_lt h.row hi).2), h.bel.trans (k.mono h.bel.size), h.bB, h.zB⟩
theorem told_end {w w9 : World} {Z B NN g16 c16 i : Nat} {log : List Acc} (T : TEnd w w9 Z B NN (.slice (some ⟨g16, 0, none⟩) log.length c16) log) (hi : i < log.length) (hN : NN ≤ 8) (hl : (log.length : Int) ≤ 140737488355328) (x : Acc) (o : Obj) :
    Calls Try.prog 13 #[.slice (some ⟨Z, 0, none⟩) NN NN, .slice (some ⟨g16, 0, none⟩) log.length c16] ((put8 w9 g16 i x).alloc o).drew fun r w' => ∃ v', r = .returned (.tuple #[.int .i64 (replay (List.replicate NN 0) (log.set i x) 0).1, v']) ∧ Below w.heap.size w w' := by
  obtain ⟨cur, hcur⟩ := own_type T.row (k := g16) rfl
  have hZg : Z ≠ g16 := ne_of_type T.zo hcur (by decide)
  have hB := (owns_lt T.row (k := g16) rfl).1
  have hb : Below w.heap.size w (put8 w9 g16 i x) := put8_below T.bel (by have := T.bB; omega)
  have hb2 : Below (put8 w9 g16 i x).heap.size (put8 w9 g16 i x) ((put8 w9 g16 i x).alloc o).drew := ((Below.refl _ _).alloc (Nat.le_refl _) o).drew
  have hb3 : Below w.heap.size w ((put8 w9 g16 i x).alloc o).drew := hb.trans (hb2.mono hb.size)
  have hz : ((put8 w9 g16 i x).alloc o).drew.heap[Z]? = some (wordsObj (List.replicate NN 0)) := by rw [heap_drew]; exact heap_old (put8_else T.zo hZg) o
  refine (replay_any _ _ (List.replicate NN 0) (log.set i x) _ (WordsAt.of_words hz (by simp) (by omega)) ((accs_put T.row hi).below hb2) (by simp; omega) (by simpa using hl)).mono ?_
  rintro r w' ⟨v', hr, _, hbw⟩
  exact ⟨v', hr, hb3.trans (hbw.mono hb3.size)⟩
theorem xor_ne {s y : Int} (s0 : 0 ≤ s) (s1 : s < 18446744073709551616) (y0 : 0 ≤ y) (y1 : y < 18446744073709551616) (hy : y ≠ 0) : bits .xor .u64 s y ≠ s := by
  obtain ⟨a, rfl⟩ := Int.eq_ofNat_of_zero_le s0
  obtain ⟨b, rfl⟩ := Int.eq_ofNat_of_zero_le y0
  rw [u64_xor_nat _ _ (by omega) (by omega)]
  intro h
  have h2 : a ^^^ b = a := by omega
  have h3 : a ^^^ (a ^^^ b) = a ^^^ a := by rw [h2]
  rw [← Nat.xor_assoc, Nat.xor_self, Nat.zero_xor] at h3
  omega
theorem box9 {w : World} {A : Nat} {a0 a1 a2 a3 a4 a5 a6 a7 a8 : Value} (h : w.heap[A]? = some (.cells #[a0, a1, a2, a3, a4, a5, a6, a7, a8] 47 (0, 0))) :
    w.cell? ⟨A, 0, none⟩ = some a0 ∧ w.cell? ⟨A, 1, none⟩ = some a1 ∧ w.cell? ⟨A, 2, none⟩ = some a2 ∧ w.cell? ⟨A, 3, none⟩ = some a3 ∧ w.cell? ⟨A, 4, none⟩ = some a4 ∧ w.cell? ⟨A, 5, none⟩ = some a5 ∧ w.cell? ⟨A, 6, none⟩ = some a6 ∧ w.cell? ⟨A, 7, none⟩ = some a7 ∧ w.cell? ⟨A, 8, none⟩ = some a8 :=
  ⟨cell_of h rfl, cell_of h rfl, cell_of h rfl, cell_of h rfl, cell_of h rfl, cell_of h rfl, cell_of h rfl, cell_of h rfl, cell_of h rfl⟩
theorem Room.keepA {w0 w w' : World} {Y b gc : Nat} {lv pv : Value} {s : Ast} {ps : List Nat} {gs : Nat → Bool} (h : Room w0 w Y b gc lv s pv ps gs) {j p : Nat} (hj : ps[j]? = some p) {i : Nat} {m : Acc} (hp : AccPost w w' Y b gc p lv s j i m)
    {A : Nat} {cs : Array Value} (hA : w.heap[A]? = some (.cells cs 47 (0, 0))) : w'.heap[A]? = some (.cells cs 47 (0, 0)) := by
  obtain ⟨lv', _, _, _, k⟩ := hp
  refine k.heap hA (fun e => ?_)
  rcases e with e | e | e | e
  · exact ne_of_type hA h.ar.hb (by decide) e
  · exact ne_of_type hA h.ar.hc (by decide) e
  · exact ne_of_type hA (h.po j p hj).1 (by decide) e
  · obtain ⟨cur, hc⟩ := own_type h.ar.hl e
    exact ne_of_type hA hc (by decide) rfl

set_option maxRecDepth 100000 in
set_option maxHeartbeats 4000000 in
theorem told_walk (n : Int) (ao : Option Addr) (len cap : Nat) (ops : Nat → Opr) (w : World) (hlen : (len : Int) * 72 ≤ 140737488351232) (hcap : len ≤ cap) (hsc : Script w ao len ops) (hok : ∀ k, k < len → (ops k).Ok) (at_ part by_ : Int) (hb0 : 0 ≤ by_) (hb1 : by_ < 18446744073709551616) :
    Calls Try.prog 7 #[.int .i64 n, .slice ao len cap, .int .i64 at_, .int .i64 part, .int .u64 by_] w fun r w' => r = .returned (.bool true) ∧ Below w.heap.size w w' := by
  have HS := hide hsc
  have HOK := hide hok
  clear hsc hok
  go_enter Try.func7, Try.ntmps7
  go_wp2_with fail
  refine (heads_any _).mono ?_
  rintro e w1 ⟨rfl, hb1⟩
  have HB1 := hide hb1
  clear hb1
  go_wp2_with fail
  refine (room_any n 4 _ (by decide)).mono ?_
  rintro e w2 ⟨b, gc, pv, ps, rfl, hps, hroom⟩
  have HR := hide hroom
  clear hroom
  obtain ⟨p0, p1, p2, p3, rfl⟩ : ∃ a b c d, ps = [a, b, c, d] := by
    match ps, hps with
    | [a, b, c, d], _ => exact ⟨a, b, c, d, rfl⟩
  clear hps
  obtain ⟨g, c, rfl, hc4, hcell⟩ := HR.out.cells (by simp)
  have hg4 : (4 : Int) ≤ c := by have : 4 ≤ c := hc4; omega
  clear hcell hc4
  obtain ⟨q8, hq8⟩ : ∃ q : Nat, n % 8 = (q : Int) := ⟨(n % 8).toNat, by omega⟩
  have hq88 : q8 < 8 := by omega
  obtain ⟨NN, hNN⟩ : ∃ NN, 1 + q8 = NN := ⟨_, rfl⟩
  have hNp : 0 < NN := by omega
  have hN8 : (NN : Int) ≤ 8 := by omega
  rw [show 1 + (n % 8).toNat = NN by omega] at HR
  have H0 : Hid (ToldIs w1 w2 w2.heap.size b gc NN (List.replicate NN 0) [] (.slice (some ⟨g, 0, none⟩) 4 c) [p0, p1, p2, p3] (fun _ => false)) :=
    ⟨⟨.slice none 0 0, HR.out⟩, rfl, by simp, fun x hx => by rw [List.eq_of_mem_replicate hx]; decide, fun x hx => by simp at hx⟩
  generalize w2.heap.size = Y at H0
  clear HR hq8 hNN hq88
  go_wp2_with fail
  go_loopw [13] (fun t wr => ∃ k : Nat, k ≤ len ∧ t = .int .i64 k ∧ ∃ (cells : List Int) (log : List Acc), log.length ≤ k ∧ Hid (ToldIs w1 wr Y b gc NN cells log (.slice (some ⟨g, 0, none⟩) 4 c) [p0, p1, p2, p3] (fun _ => false))) (fun t _ => len - (RowKit.intOf t).toNat)
  case atStart => exact ⟨0, by omega, rfl, _, [], by simp, H0⟩
  case round =>
    clear H0
    obtain ⟨k, hk, rfl, cells, log, hlk, HI⟩ := hrel
    have hcl : cells.length = NN := HI.out.len
    by_cases hlt : k < len
    · obtain ⟨lv, R⟩ := HI.out.ex
      obtain ⟨gq, oq, rfl, hgq, hoc⟩ := ((HS.out.below HB1.out).below R.bel) k hlt
      obtain ⟨⟨kind, second, port, cell, want, put, xa, xb, xc⟩, hops⟩ : ∃ o, ops k = o := ⟨_, rfl⟩
      rw [hops] at hoc
      have o0 : wr.cell? ⟨gq, oq + k * 9, none⟩ = some (.int .i64 kind) := hoc 0 _ rfl
      have o1 : wr.cell? ⟨gq, oq + k * 9 + 1, none⟩ = some (.bool second) := hoc 1 _ rfl
      have o2 : wr.cell? ⟨gq, oq + k * 9 + 2, none⟩ = some (.int .i64 port) := hoc 2 _ rfl
      have o3 : wr.cell? ⟨gq, oq + k * 9 + 3, none⟩ = some (.int .i64 cell) := hoc 3 _ rfl
      have o4 : wr.cell? ⟨gq, oq + k * 9 + 4, none⟩ = some (.int .u64 want) := hoc 4 _ rfl
      have o5 : wr.cell? ⟨gq, oq + k * 9 + 5, none⟩ = some (.int .u64 put) := hoc 5 _ rfl
      have o6 : wr.cell? ⟨gq, oq + k * 9 + 6, none⟩ = some (.int .i64 xa) := hoc 6 _ rfl
      have o7 : wr.cell? ⟨gq, oq + k * 9 + 7, none⟩ = some (.int .i64 xb) := hoc 7 _ rfl
      have o8 : wr.cell? ⟨gq, oq + k * 9 + 8, none⟩ = some (.int .i64 xc) := hoc 8 _ rfl
      have HOo : Hid (Opr.Ok ⟨kind, second, port, cell, want, put, xa, xb, xc⟩) := by rw [← hops]; exact HOK.out k hlt
      clear hoc hops R
      by_cases hkr : 1 ≤ kind ∧ kind ≤ 5
      · obtain ⟨hk1, hk5⟩ := hkr
        obtain ⟨q, hq⟩ : ∃ q : Nat, cell % (NN : Int) = (q : Int) := ⟨(cell % (NN : Int)).toNat, by have := Int.emod_nonneg cell (show (NN : Int) ≠ 0 by omega); omega⟩
        have hqN : q < NN := by have := Int.emod_lt_of_pos cell (show (0 : Int) < NN by omega); omega
        obtain ⟨j, hj⟩ : ∃ j : Nat, port % 4 = (j : Int) := ⟨(port % 4).toNat, by omega⟩
        have hj4 : j < 4 := by omega
        obtain ⟨p, hp⟩ : ∃ p, [p0, p1, p2, p3][j]? = some p := ⟨_, List.getElem?_eq_getElem (by simpa using hj4)⟩
        have hj4' : (j : Int) < 4 := by omega
        have HP := hide hp
        have HQ := hide (And.intro hq hj)
        have HJ4 := hide hj4
        clear hp hj4 hq hj
        go_wp2_with fail
        refine (index_any port 4 _ (by decide) (by decide)).mono ?_
        rintro e w' ⟨rfl, hw⟩
        subst w'
        rw [HQ.out.2]
        generalize hW : World.alloc _ _ = W
        have hA : W.heap[wr.heap.size]? = some (.cells #[.int .i64 kind, .bool second, .int .i64 port, .int .i64 cell, .int .u64 want, .int .u64 put, .int .i64 xa, .int .i64 xb, .int .i64 xc] 47 (0, 0)) := by rw [← hW]; exact heap_new _ _
        have hWb : Below wr.heap.size wr W := by rw [← hW]; exact (Below.refl _ _).alloc (Nat.le_refl _) _
        have HI1 := hide (HI.out.news hWb)
        have HA := hide hA
        generalize wr.heap.size = A at *
        clear hW hWb hA o0 o1 o2 o3 o4 o5 o6 o7 o8 HI hgq
        obtain ⟨lvW, RW⟩ := HI1.out.ex
        obtain ⟨g', c', he, _, hcell⟩ := RW.cells (by simp)
        simp only [Value.slice.injEq, Option.some.injEq, Addr.mk.injEq] at he
        obtain ⟨⟨rfl, _⟩, _, rfl⟩ := he
        have e1 := hcell j p HP.out
        have hAb : A ≠ b := ne_of_type HA.out RW.ar.hb (by decide)
        have hAp : A ≠ p := ne_of_type HA.out (RW.po j p HP.out).1 (by decide)
        have HAb := hide (And.intro hAb hAp)
        have HG1 := hide (HI1.out.grant HP.out)
        clear RW hcell hAb hAp
        go_wp2_with fail
        refine HG1.out.mono ?_
        rintro e wG ⟨rfl, h3, k3⟩
        have A3 := hide (k3.heap HA.out (fun e => by rcases e with e | e; exact HAb.out.1 e; exact HAb.out.2 e))
        have H3 := hide h3
        clear h3 k3 HG1 HI1 HA e1
        obtain ⟨lv3, R3⟩ := H3.out.ex
        have HLn := hide (fun x (hx : AIs x Y b gc lv3 (seSt cells log)) => len_any Y b gc lv3 _ x hx)
        have HAr := hide R3.ar.drew
        have HDo := hide (do_made ⟨kind, second, port, cell, want, put, xa, xb, xc⟩ (Ready.drew (R3.ready HP.out (by simp) rfl (show q < cells.length by omega) (show (0 : Int) ≤ log.length by omega) (show (log.length : Int) < 9223372036854775807 by omega) (show (log.length + 1) * 64 ≤ 140737488355328 by omega))) hk1 hk5)
        have RR3 := hide R3
        clear R3
        have a0 : wG.cell? ⟨A, 0, none⟩ = some (.int .i64 kind) := cell_of A3.out rfl
        have a1 : wG.cell? ⟨A, 1, none⟩ = some (.bool second) := cell_of A3.out rfl
        have a2 : wG.cell? ⟨A, 2, none⟩ = some (.int .i64 port) := cell_of A3.out rfl
        have a3 : wG.cell? ⟨A, 3, none⟩ = some (.int .i64 cell) := cell_of A3.out rfl
        have a4 : wG.cell? ⟨A, 4, none⟩ = some (.int .u64 want) := cell_of A3.out rfl
        have a5 : wG.cell? ⟨A, 5, none⟩ = some (.int .u64 put) := cell_of A3.out rfl
        have a6 : wG.cell? ⟨A, 6, none⟩ = some (.int .i64 xa) := cell_of A3.out rfl
        have a7 : wG.cell? ⟨A, 7, none⟩ = some (.int .i64 xb) := cell_of A3.out rfl
        have a8 : wG.cell? ⟨A, 8, none⟩ = some (.int .i64 xc) := cell_of A3.out rfl
        have hlN : (seSt cells log).cells.length = NN := hcl
        go_wp2_with fail
        go_region_held3 (fun x => x.cell? ⟨A, 0, none⟩ = some (.int .i64 kind) ∧ x.cell? ⟨A, 1, none⟩ = some (.bool second) ∧ x.cell? ⟨A, 2, none⟩ = some (.int .i64 port) ∧ x.cell? ⟨A, 3, none⟩ = some (.int .i64 cell) ∧ x.cell? ⟨A, 4, none⟩ = some (.int .u64 want) ∧ x.cell? ⟨A, 5, none⟩ = some (.int .u64 put) ∧ x.cell? ⟨A, 6, none⟩ = some (.int .i64 xa) ∧ x.cell? ⟨A, 7, none⟩ = some (.int .i64 xb) ∧ x.cell? ⟨A, 8, none⟩ = some (.int .i64 xc)) (first | go_keep | exact ⟨z0, z1, z2, z3, z4, z5, z6, z7, z8⟩)
          ((first
          | (go_at_call 19; refine (HLn.out _ HAr.out).mono ?_; rintro e w' ⟨rfl, hw⟩; subst w'; rw [hlN])
          | (go_at_call 20; refine (index_any cell NN _ (by omega) (by omega)).mono ?_; rintro e w' ⟨rfl, hw⟩; subst w'; rw [HQ.out.1])
          | (go_at_call 22; refine HDo.out.mono ?_; rintro e w4 ⟨rfl, hpost⟩; have HPo := hide hpost.drew; have HA4 := hide (RR3.out.keepA HP.out HPo.out A3.out); clear hpost; obtain ⟨z0, z1, z2, z3, z4, z5, z6, z7, z8⟩ := box9 HA4.out)))
        all_goals
          have H5 := hide (H3.out.acc RR3.out HP.out HJ4.out _ HOo.out (show q < cells.length by omega) HPo.out).1
          rw [gs_back] at H5
          clear HDo RR3 H3 A3 a0 a1 a2 a3 a4 a5 a6 a7 a8
          go_wp2_with fail
          go_roundw
          case rel => exact ⟨k + 1, by omega, by go_num, _, _, by simp; omega, H5⟩
          case measure => simp [RowKit.intOf]; omega
      · by_cases hk1 : 1 ≤ kind
        · have hk5 : ¬ kind ≤ 5 := fun h => hkr ⟨hk1, h⟩
          clear hkr
          go_wp2_with fail
          have HI1 := hide (HI.out.news ((Below.refl _ wr).alloc (Nat.le_refl _) (.cells #[.int .i64 kind, .bool second, .int .i64 port, .int .i64 cell, .int .u64 want, .int .u64 put, .int .i64 xa, .int .i64 xb, .int .i64 xc] 47)))
          go_roundw
          case rel => exact ⟨k + 1, by omega, by go_num, cells, log, by omega, HI1⟩
          case measure => simp [RowKit.intOf]; omega
        · clear hkr
          go_wp2_with fail
          have HI1 := hide (HI.out.news ((Below.refl _ wr).alloc (Nat.le_refl _) (.cells #[.int .i64 kind, .bool second, .int .i64 port, .int .i64 cell, .int .u64 want, .int .u64 put, .int .i64 xa, .int .i64 xb, .int .i64 xc] 47)))
          go_roundw
          case rel => exact ⟨k + 1, by omega, by go_num, cells, log, by omega, HI1⟩
          case measure => simp [RowKit.intOf]; omega
    · obtain rfl : k = len := by omega
      obtain ⟨lv, R⟩ := HI.out.ex
      have hbig : (seSt cells log).log.length * 64 ≤ 140737488355328 := by show log.length * 64 ≤ _; omega
      have HLg := hide (log_any Y b gc lv _ _ R.ar hbig)
      have hmk := run_makeWords NN (by omega)
      have hzl : (List.replicate NN (0 : Int)).length = NN := by simp
      have HZ := hide (show (List.replicate NN (0 : Int)).length * 8 ≤ 140737488355328 by simp; omega)
      have hNm : NN ≤ 9223372036854775807 := by omega
      have hllen : (log.length : Int) ≤ 140737488355328 := by omega
      have HRep := hide HI.out.rep
      have HLok := hide HI.out.lok
      have HZL := hide hzl
      have hw1 := R.bel.size
      have hwb : w.heap.size ≤ b := Nat.le_trans HB1.out.size R.b0
      clear R hbig hzl
      go_wp2_with fail
      refine HLg.out.mono ?_
      rintro e w5 ⟨v16, rfl, ho5, ha5, k5⟩
      have H5 := hide (HI.out.look ha5 k5)
      have HLn := hide (len_any Y b gc lv _ w5 ha5)
      have HO5 := hide (And.intro ho5 (k5.below (HB1.out.trans ((show Below w1.heap.size w1 wr from by obtain ⟨_, R⟩ := HI.out.ex; exact R.bel).mono HB1.out.size)) (fun _ hj => hj ▸ hwb) (by have := HB1.out.size; omega)))
      have hlN : (seSt cells log).cells.length = NN := hcl
      rw [hlN] at HLn
      have hwr : w.heap.size ≤ wr.heap.size := by have := HB1.out.size; omega
      clear ho5 ha5 k5 HLg HI
      generalize wr.heap.size = B at *
      go_wp2_with fail
      refine HLn.out.mono ?_
      rintro e w' ⟨rfl, hw⟩
      subst w'
      go_wp2_with fail
      generalize hW : World.alloc _ _ = W6
      have hWb : Below w5.heap.size w5 W6 := by rw [← hW]; exact (Below.refl _ _).alloc (Nat.le_refl _) _
      have hT6 : TEnd w W6 w5.heap.size B NN v16 log := by
        refine ⟨by rw [← hW]; exact heap_new _ _, ownsRow_block HO5.out.1 (fun i hi => hWb.block i (owns_lt HO5.out.1 hi).2), HO5.out.2.trans (hWb.mono HO5.out.2.size), hwr, HO5.out.2.size⟩
      have H6 := hide (H5.out.news hWb)
      have T6 := hide hT6
      clear hT6 hW hWb H5 HO5 HLn hmk
      generalize w5.heap.size = Z at *
      have HRp := hide (replay_any (.slice (some ⟨Z, 0, none⟩) NN NN) v16 (List.replicate NN 0) log W6 (WordsAt.of_words T6.out.zo HZL.out hNm) (AccsAt.of_owns T6.out.row) HZ.out hllen)
      refine HRp.out.mono ?_
      rintro e w7 ⟨v19, he, ho7, hb7⟩
      rw [HRep.out] at he ho7
      rw [HZL.out, ← hcl] at ho7
      obtain rfl := he
      have H7 := hide (H6.out.news hb7)
      have T7 := hide (T6.out.news hb7)
      have O7 := hide ho7
      clear ho7 hb7 HRp H6 T6
      obtain ⟨lv7, R7⟩ := H7.out.ex
      have HIm := hide (image_any Y b gc lv7 _ _ R7.ar)
      have HB7 := hide R7.ar.hb
      clear R7
      go_wp2_with fail
      refine HIm.out.mono ?_
      rintro e w8 ⟨v20, rfl, ho8, ha8, k8⟩
      have O8 := hide (ownsRow_block O7.out (fun i hi => k8.block i (owns_lt O7.out hi).2 (fun e => by obtain ⟨cur, hc⟩ := own_type O7.out hi; exact ne_of_type hc HB7.out (by decide) e)))
      have T8 := hide (T7.out.chg k8 hwb HB7.out)
      have HSm := hide (sameWords_any v19 v20 cells w8 (WordsAt.of_owns O8.out) (WordsAt.of_owns ho8))
      clear ho8 ha8 k8 O7 O8 T7 H7 HIm HB7
      go_wp2_with fail
      refine HSm.out.mono ?_
      rintro e w9 ⟨rfl, m9, hw9⟩
      have T9 := hide (T8.out.news (V' := w9) (by rw [hw9]; exact below_drewN (Below.refl _ _) m9))
      clear hw9 HSm T8
      obtain ⟨ao16, c16, rfl⟩ := owns_shape T9.out.row
      by_cases hl0 : log.length = 0
      · have hl0' : ((log.length : Int) == 0) = true := beq_iff_eq.2 (by omega)
        clear hl0
        go_wp2_with fail
        go_ret
        exact ⟨rfl, T9.out.bel⟩
      · have hl0' : ((log.length : Int) == 0) = false := beq_eq_false_iff_ne.2 (by omega)
        by_cases hby : by_ = 0
        · subst hby
          go_wp2_with fail
          go_ret
          exact ⟨rfl, T9.out.bel⟩
        · have hby' : (by_ == 0) = false := by simp [hby]
          obtain ⟨i, hi⟩ : ∃ i : Nat, at_ % (log.length : Int) = (i : Int) := ⟨(at_ % (log.length : Int)).toNat, by have := Int.emod_nonneg at_ (show (log.length : Int) ≠ 0 by omega); omega⟩
          have hil : i < log.length := by have := Int.emod_lt_of_pos at_ (show (0 : Int) < log.length by omega); omega
          have hili : (i : Int) < log.length := by omega
          have HLP := hide (And.intro (show (0 : Int) < log.length by omega) (show (log.length : Int) ≤ 9223372036854775807 by omega))
          obtain ⟨q6, hq6⟩ : ∃ q : Nat, part % 6 = (q : Int) := ⟨(part % 6).toNat, by omega⟩
          have HQI := hide (And.intro hi hq6)
          have hq66 : q6 < 6 := by omega
          clear hi hq6
          go_wp2_with fail
          refine (index_any at_ log.length _ HLP.out.1 HLP.out.2).mono ?_
          rintro e w' ⟨rfl, hw⟩
          subst w'
          rw [HQI.out.1]
          obtain ⟨g16, c16', cur, he16, hlc16, hcm16, hB16, hh16, hsz16, hcell16⟩ := log_row T9.out.row hl0
          simp only [Value.slice.injEq] at he16
          obtain ⟨rfl, _, rfl⟩ := he16
          obtain ⟨a, ha⟩ : ∃ a, log[i]? = some a := ⟨_, List.getElem?_eq_getElem hil⟩
          have haok : AccOk a := HLok.out a (List.mem_of_getElem? ha)
          have HAa := hide (And.intro ha haok)
          have r0 : w9.cell? ⟨g16, i * 8, none⟩ = some (.int .i64 a.who) := hcell16 i 0 a _ ha rfl
          have r1 : w9.cell? ⟨g16, i * 8 + 1, none⟩ = some (.int .i64 a.kind) := hcell16 i 1 a _ ha rfl
          have r2 : w9.cell? ⟨g16, i * 8 + 2, none⟩ = some (.int .i64 a.cell) := hcell16 i 2 a _ ha rfl
          have r3 : w9.cell? ⟨g16, i * 8 + 3, none⟩ = some (.int .u64 a.want) := hcell16 i 3 a _ ha rfl
          have r4 : w9.cell? ⟨g16, i * 8 + 4, none⟩ = some (.int .u64 a.put) := hcell16 i 4 a _ ha rfl
          have r5 : w9.cell? ⟨g16, i * 8 + 5, none⟩ = some (.int .u64 a.seen) := hcell16 i 5 a _ ha rfl
          have r6 : w9.cell? ⟨g16, i * 8 + 6, none⟩ = some (.int .u64 a.left) := hcell16 i 6 a _ ha rfl
          have r7 : w9.cell? ⟨g16, i * 8 + 7, none⟩ = some (.bool a.ok) := hcell16 i 7 a _ ha rfl
          have rf := fun j => free_of hh16 j
          have hg16 := lt_of_heap hh16
          have hlci : (i : Int) < c16 := by omega
          clear hcell16 hh16 ha haok hlc16 hcm16 hsz16 hB16
          go_wp2_with fail
          refine (index_any part 6 _ (by decide) (by decide)).mono ?_
          rintro e w' ⟨rfl, hw⟩
          subst w'
          rw [HQI.out.2]
          rcases (show q6 = 0 ∨ q6 = 1 ∨ q6 = 2 ∨ q6 = 3 ∨ q6 = 4 ∨ q6 = 5 by omega) with rfl | rfl | rfl | rfl | rfl | rfl
          · have HE := hide (told_end T9.out hil (by omega) hllen ⟨a.who, a.kind, a.cell, a.want, a.put, bits .xor .u64 a.seen by_, a.left, a.ok⟩ (.cells (Acc.arr ⟨a.who, a.kind, a.cell, a.want, a.put, bits .xor .u64 a.seen by_, a.left, a.ok⟩) 31))
            have hres : (replay (List.replicate NN 0) (log.set i ⟨a.who, a.kind, a.cell, a.want, a.put, bits .xor .u64 a.seen by_, a.left, a.ok⟩) 0).1 = (i : Int) := told_same HRep.out HAa.out.1 _ _ _ (fun e => xor_ne HAa.out.2.s0 HAa.out.2.s1 hb0 hb1 hby (congrArg Acc.seen e))
            rw [hres] at HE
            clear hres
            go_wp2_with fail
            go_region
            all_goals
              go_wp2_with fail
              refine HE.out.mono ?_
              rintro e w10 ⟨v10, rfl, hb10⟩
              have HB10 := hide hb10
              clear hb10
              go_wp2_with fail
              go_ret
              exact ⟨rfl, HB10.out⟩
          · have HE := hide (told_end T9.out hil (by omega) hllen ⟨a.who, a.kind, a.cell, a.want, a.put, a.seen, bits .xor .u64 a.left by_, a.ok⟩ (.cells (Acc.arr ⟨a.who, a.kind, a.cell, a.want, a.put, a.seen, bits .xor .u64 a.left by_, a.ok⟩) 31))
            have hres : (replay (List.replicate NN 0) (log.set i ⟨a.who, a.kind, a.cell, a.want, a.put, a.seen, bits .xor .u64 a.left by_, a.ok⟩) 0).1 = (i : Int) := told_same HRep.out HAa.out.1 _ _ _ (fun e => xor_ne HAa.out.2.l0 HAa.out.2.l1 hb0 hb1 hby (congrArg Acc.left e))
            rw [hres] at HE
            clear hres
            go_wp2_with fail
            go_region
            all_goals
              go_wp2_with fail
              refine HE.out.mono ?_
              rintro e w10 ⟨v10, rfl, hb10⟩
              have HB10 := hide hb10
              clear hb10
              go_wp2_with fail
              go_ret
              exact ⟨rfl, HB10.out⟩
          · have HE := hide (told_end T9.out hil (by omega) hllen ⟨a.who, a.kind, a.cell, a.want, a.put, a.seen, a.left, !a.ok⟩ (.cells (Acc.arr ⟨a.who, a.kind, a.cell, a.want, a.put, a.seen, a.left, !a.ok⟩) 31))
            have hres : (replay (List.replicate NN 0) (log.set i ⟨a.who, a.kind, a.cell, a.want, a.put, a.seen, a.left, !a.ok⟩) 0).1 = (i : Int) := told_same HRep.out HAa.out.1 _ _ _ (fun e => by have := congrArg Acc.ok e; simp at this)
            rw [hres] at HE
            clear hres
            go_wp2_with fail
            go_region
            all_goals
              go_wp2_with fail
              refine HE.out.mono ?_
              rintro e w10 ⟨v10, rfl, hb10⟩
              have HB10 := hide hb10
              clear hb10
              go_wp2_with fail
              go_ret
              exact ⟨rfl, HB10.out⟩
          · obtain ⟨q3, hq3⟩ : ∃ q3, a.cell % 1000 = q3 := ⟨_, rfl⟩
            have hq30 : 0 ≤ q3 := by omega
            have hq31 : q3 < 1000 := by omega
            have HE := hide (told_end T9.out hil (by omega) hllen ⟨a.who, a.kind, -1 - q3, a.want, a.put, a.seen, a.left, a.ok⟩ (.cells (Acc.arr ⟨a.who, a.kind, -1 - q3, a.want, a.put, a.seen, a.left, a.ok⟩) 31))
            have hres : (replay (List.replicate NN 0) (log.set i ⟨a.who, a.kind, -1 - q3, a.want, a.put, a.seen, a.left, a.ok⟩) 0).1 = (i : Int) := told_cell HRep.out HAa.out.1 _ (show -1 - q3 < 0 by omega)
            rw [hres] at HE
            clear hres
            go_wp2_with fail
            refine (index_any a.cell 1000 _ (by decide) (by decide)).mono ?_
            rintro e w' ⟨rfl, hw⟩
            subst w'
            rw [hq3]
            clear hq3
            go_wp2_with fail
            go_region
            all_goals
              go_wp2_with fail
              refine HE.out.mono ?_
              rintro e w10 ⟨v10, rfl, hb10⟩
              have HB10 := hide hb10
              clear hb10
              go_wp2_with fail
              go_ret
              exact ⟨rfl, HB10.out⟩
          · obtain ⟨q3, hq3⟩ : ∃ q3, at_ % 90 = q3 := ⟨_, rfl⟩
            have hq30 : 0 ≤ q3 := by omega
            have hq31 : q3 < 90 := by omega
            have HE := hide (told_end T9.out hil (by omega) hllen ⟨a.who, 6 + q3, a.cell, a.want, a.put, a.seen, a.left, a.ok⟩ (.cells (Acc.arr ⟨a.who, 6 + q3, a.cell, a.want, a.put, a.seen, a.left, a.ok⟩) 31))
            have hres : (replay (List.replicate NN 0) (log.set i ⟨a.who, 6 + q3, a.cell, a.want, a.put, a.seen, a.left, a.ok⟩) 0).1 = (i : Int) := told_kind HRep.out HAa.out.1 _ (show known (6 + q3) = false by simp [known]; omega)
            rw [hres] at HE
            clear hres
            go_wp2_with fail
            refine (index_any at_ 90 _ (by decide) (by decide)).mono ?_
            rintro e w' ⟨rfl, hw⟩
            subst w'
            rw [hq3]
            clear hq3
            go_wp2_with fail
            go_region
            all_goals
              go_wp2_with fail
              refine HE.out.mono ?_
              rintro e w10 ⟨v10, rfl, hb10⟩
              have HB10 := hide hb10
              clear hb10
              go_wp2_with fail
              go_ret
              exact ⟨rfl, HB10.out⟩
          · have hwh0 := HAa.out.2.w0
            have hwh1 := HAa.out.2.w1
            have hwn : (a.who + 7 != a.who) = true := bne_iff_ne.2 (by omega)
            have HE := hide (told_end T9.out hil (by omega) hllen ⟨a.who + 7, a.kind, a.cell, a.want, a.put, a.seen, a.left, a.ok⟩ (.cells (Acc.arr ⟨a.who + 7, a.kind, a.cell, a.want, a.put, a.seen, a.left, a.ok⟩) 31))
            have hres : (replay (List.replicate NN 0) (log.set i ⟨a.who + 7, a.kind, a.cell, a.want, a.put, a.seen, a.left, a.ok⟩) 0).1 = -1 := told_who HRep.out HAa.out.1 _
            rw [hres] at HE
            clear hres
            go_wp2_with fail
            go_region
            all_goals
              go_wp2_with fail
              refine HE.out.mono ?_
              rintro e w10 ⟨v10, rfl, hb10⟩
              have HB10 := hide hb10
              clear hb10
              go_wp2_with fail
              go_ret
              exact ⟨rfl, HB10.out⟩
end Go.Proofs.Ytfgchkkljlbmcaa
