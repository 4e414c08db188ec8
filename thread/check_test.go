package thread_test

import (
	"math"
	"slices"
	"strings"
	"testing"

	"wayfare/api"
	"wayfare/thread"
)

const most = math.MaxUint64

// uses are the fields that each Op of the table uses.
var uses = map[int]string{
	api.OpHalt: "", api.OpLoad: "ABN", api.OpStore: "ABN", api.OpCas: "ABCN", api.OpAdd: "ABN", api.OpSwap: "ABN",
	api.OpSet: "AN", api.OpMove: "AB", api.OpPlus: "ABC", api.OpMinus: "ABC", api.OpTimes: "ABC", api.OpAnd: "ABC",
	api.OpLess: "ABC", api.OpSame: "ABC", api.OpGo: "N", api.OpZero: "AN", api.OpMore: "AN",
}

func isJump(op int) bool { return op == api.OpGo || op == api.OpZero || op == api.OpMore }

func code(instrs ...api.Instr) api.Code {
	return api.Code{Name: "a", Code: instrs}
}

// wantCheck looks at Check, New and Show of a code.
func wantCheck(t *testing.T, c api.Code, want api.Errno, at int) {
	t.Helper()
	keep := api.Code{Name: c.Name, Code: slices.Clone(c.Code), Regs: slices.Clone(c.Regs)}
	if e, i := thread.Check(c); e != want || i != at {
		t.Errorf("R1: Check(%.90v) = %d, %d, want %d, %d", c, e, i, want, at)
	}
	if x, e := thread.New(c); e != want || (x == nil) != (want != api.OK) {
		t.Errorf("R2: New(%.90v) = %v, %d, want %d", c, x != nil, e, want)
	}
	if s, e := thread.Show([]api.Code{{Name: "fine"}, c}); e != want || (s == "") != (want != api.OK) {
		t.Errorf("R8: Show(%.90v) = %.90q, %d, want %d", c, s, e, want)
	}
	if !sameCode(c, keep) {
		t.Errorf("P0.4: the code %.90v was changed", keep)
	}
}

func sameCode(a, b api.Code) bool {
	return a.Name == b.Name && slices.Equal(a.Code, b.Code) && slices.Equal(a.Regs, b.Regs)
}

func TestNames(t *testing.T) {
	for _, s := range []string{"a", "Z", "_", "-", ".", "a9", "-9", ".0", "thread", "end", "A-b_c.9", strings.Repeat("x", 64)} {
		wantCheck(t, api.Code{Name: s}, api.OK, 0)
	}
	for _, s := range []string{"", "9", "0a", "a b", " a", "a:", "a;", "a\n", "ä", "a\xff", "a\x00", "a@", "a[", "a`", "a{", "a/", "a+", "a,", strings.Repeat("x", 65)} {
		wantCheck(t, api.Code{Name: s}, api.ErrName, 0)
	}
}

func TestSizes(t *testing.T) {
	halts := slices.Repeat([]api.Instr{{Op: api.OpHalt}}, api.MaxCode)
	wantCheck(t, code(halts...), api.OK, 0)
	wantCheck(t, code(append(halts, api.Instr{Op: api.OpHalt})...), api.ErrSize, 0)
	for n, want := range map[int]api.Errno{0: api.OK, 1: api.OK, 15: api.OK, 16: api.ErrList, 17: api.ErrList} {
		wantCheck(t, api.Code{Name: "a", Regs: make([]uint64, n)}, want, 0)
	}
}

// TestWhichErrorComesFirst: the name, the size, the registers, then the first instruction that is none.
func TestWhichErrorComesFirst(t *testing.T) {
	many, regs := make([]api.Instr, api.MaxCode+1), make([]uint64, 16)
	wantCheck(t, api.Code{Name: "9", Code: many, Regs: regs}, api.ErrName, 0)
	wantCheck(t, api.Code{Name: "a", Code: many, Regs: regs}, api.ErrSize, 0)
	wantCheck(t, api.Code{Name: "a", Code: many[:3], Regs: regs}, api.ErrList, 0)
	wantCheck(t, api.Code{Name: "a", Code: many[:3], Regs: regs[:15]}, api.ErrToken, 0)
	halt, lost, none := api.Instr{Op: api.OpHalt}, api.Instr{Op: api.OpGo, N: 9}, api.Instr{Op: 18}
	wantCheck(t, code(halt, lost, none), api.ErrPlace, 1)
	wantCheck(t, code(halt, none, lost), api.ErrToken, 1)
	wantCheck(t, code(halt, halt, api.Instr{Op: api.OpZero, A: 16, N: 9}), api.ErrToken, 2)
	wantCheck(t, code(halt, halt, api.Instr{Op: api.OpMore, B: 1, N: 9}), api.ErrToken, 2)
}

func TestOps(t *testing.T) {
	for op := -2; op <= 20; op++ {
		_, is := uses[op]
		want := api.ErrToken
		if is {
			want = api.OK
		}
		wantCheck(t, code(api.Instr{Op: op}), want, 0)
	}
	for _, op := range []int{math.MinInt, math.MaxInt} {
		wantCheck(t, code(api.Instr{Op: op}), api.ErrToken, 0)
	}
}

// TestFields: each register of each Op at its edges, and each field that it does not use.
func TestFields(t *testing.T) {
	for op, used := range uses {
		for field, set := range map[string]func(x *api.Instr, v int){
			"A": func(x *api.Instr, v int) { x.A = v },
			"B": func(x *api.Instr, v int) { x.B = v },
			"C": func(x *api.Instr, v int) { x.C = v },
		} {
			for _, v := range []int{0, 1, 15, 16, -1, math.MaxInt, math.MinInt} {
				want := api.ErrToken
				if v == 0 || strings.Contains(used, field) && v > 0 && v < 16 {
					want = api.OK
				}
				x := api.Instr{Op: op}
				set(&x, v)
				wantCheck(t, code(api.Instr{Op: api.OpHalt}, x), want, at(want, 1))
			}
		}
		for _, n := range []uint64{0, 1, 2, 3, most} {
			want := api.OK
			if isJump(op) && n > 2 {
				want = api.ErrPlace
			} else if n != 0 && !strings.Contains(used, "N") {
				want = api.ErrToken
			}
			wantCheck(t, code(api.Instr{Op: api.OpHalt}, api.Instr{Op: op, N: n}), want, at(want, 1))
		}
	}
}

// at is where an error stands: nowhere, if there is none.
func at(e api.Errno, place int) int {
	if e == api.OK {
		return 0
	}
	return place
}
