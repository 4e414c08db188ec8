package thread_test

import (
	"math/rand"
	"slices"
	"strings"
	"testing"

	"wayfare/api"
	"wayfare/octet"
	"wayfare/thread"
)

const lockText = `thread first 3
again:                 ; r1 is how often
  set r2 0
  set r3 1
  cas [0] r2 r3
  zero r2 again
  load r4 [1]
  plus r4 r4 r3
  store [1] r4
  store [0] r0
  minus r1 r1 r3
  more r1 again
  halt
end
`

// wantRead reads a text that is one.
func wantRead(t *testing.T, text string) []api.Code {
	t.Helper()
	l, e, row, col := thread.Read(text)
	if e != api.OK || row != 0 || col != 0 {
		t.Fatalf("R7: Read(%.200q) = %d at %d, %d", text, e, row, col)
	}
	for _, c := range l {
		if e, at := thread.Check(c); e != api.OK || at != 0 {
			t.Errorf("R6: Read(%.200q) answers what is no code: %d at %d", text, e, at)
		}
	}
	return l
}

func wantCodes(t *testing.T, text string, want ...api.Code) {
	t.Helper()
	if got := wantRead(t, text); !slices.EqualFunc(got, want, sameCode) {
		t.Errorf("R6: Read(%.200q) = %v, want %v", text, got, want)
	}
}

func wantShow(t *testing.T, want string, l ...api.Code) {
	t.Helper()
	if got, e := thread.Show(l); got != want || e != api.OK {
		t.Errorf("R8: Show(%v) = %q, %d, want %q", l, got, e, want)
	}
}

func TestLockText(t *testing.T) {
	want := []api.Instr{{Op: api.OpSet, A: 2}, {Op: api.OpSet, A: 3, N: 1}, {Op: api.OpCas, A: 2, C: 3}, {Op: api.OpZero, A: 2}, {Op: api.OpLoad, A: 4, N: 1}, {Op: api.OpPlus, A: 4, B: 4, C: 3}, {Op: api.OpStore, A: 4, N: 1}, {Op: api.OpStore}, {Op: api.OpMinus, A: 1, B: 1, C: 3}, {Op: api.OpMore, A: 1}, {Op: api.OpHalt}}
	wantCodes(t, lockText, api.Code{Name: "first", Code: want, Regs: []uint64{3}})
}

// TestInstructionsAsTexts: each row of the table, read and shown.
func TestInstructionsAsTexts(t *testing.T) {
	for text, x := range map[string]api.Instr{
		"halt":                              {Op: 1},
		"load r1 [r2+3]":                    {Op: 2, A: 1, B: 2, N: 3},
		"store [r2+3] r1":                   {Op: 3, A: 1, B: 2, N: 3},
		"cas [r2+3] r1 r4":                  {Op: 4, A: 1, B: 2, C: 4, N: 3},
		"add [r15] r1":                      {Op: 5, A: 1, B: 15},
		"swap [7] r0":                       {Op: 6, N: 7},
		"set r15 18446744073709551615":      {Op: 7, A: 15, N: most},
		"move r1 r10":                       {Op: 8, A: 1, B: 10},
		"plus r1 r2 r3":                     {Op: 9, A: 1, B: 2, C: 3},
		"minus r1 r2 r3":                    {Op: 10, A: 1, B: 2, C: 3},
		"times r1 r2 r3":                    {Op: 11, A: 1, B: 2, C: 3},
		"and r1 r2 r3":                      {Op: 12, A: 1, B: 2, C: 3},
		"less r1 r2 r3":                     {Op: 13, A: 1, B: 2, C: 3},
		"same r1 r2 r3":                     {Op: 14, A: 1, B: 2, C: 3},
		"load r1 [0]":                       {Op: 2, A: 1},
		"load r1 [r9+18446744073709551615]": {Op: 2, A: 1, B: 9, N: most},
	} {
		c := code(x)
		wantCodes(t, "thread a\n"+text+"\nend", c)
		wantShow(t, "thread a\n  "+text+"\nend\n", c)
	}
	for text, op := range map[string]int{"go": api.OpGo, "zero r3": api.OpZero, "more r3": api.OpMore} {
		a := 0
		if op != api.OpGo {
			a = 3
		}
		for n := range uint64(3) {
			c := code(api.Instr{Op: api.OpHalt}, api.Instr{Op: op, A: a, N: n})
			l := "L" + octet.Decimal(n)
			lines := []string{"  halt\n", "  " + text + " " + l + "\n", ""}
			lines[n] = l + ":\n" + lines[n]
			s := "thread a\n" + strings.Join(lines, "") + "end\n"
			wantShow(t, s, c)
			wantCodes(t, s, c)
		}
	}
}

// TestCellsAsTexts: forms that Show does not write are read all the same.
func TestCellsAsTexts(t *testing.T) {
	for text, x := range map[string]api.Instr{"[r0+5]": {Op: 2, N: 5}, "[r0]": {Op: 2}, "[r4+0]": {Op: 2, B: 4}, "[r0+0]": {Op: 2}} {
		wantCodes(t, "thread a\nload r0 "+text+"\nend", code(x))
	}
	wantShow(t, "thread a\n  load r0 [5]\n  load r0 [0]\n  load r0 [r4]\n  load r0 [r4+6]\nend\n",
		code(api.Instr{Op: 2, N: 5}, api.Instr{Op: 2}, api.Instr{Op: 2, B: 4}, api.Instr{Op: 2, B: 4, N: 6}))
}

func TestTextsOfEveryLayout(t *testing.T) {
	for _, text := range []string{"", "\n", "\n\n", ";", "; thread", " \t\r\n;x\n", "\r", ";\x00\xff"} {
		wantCodes(t, text)
	}
	a, b := api.Code{Name: "a"}, api.Code{Name: "b", Code: []api.Instr{{Op: api.OpHalt}}, Regs: []uint64{1, 2}}
	for _, text := range []string{
		"thread a\nend\nthread b 1 2\nhalt\nend",
		"thread a\nend\nthread b 1 2\nhalt\nend\n",
		"\n;c\n\tthread\t a \r\n\r\n end;x\r\n\nthread b 1\t2 ;3\n;halt\nhalt;halt\nend ; end\n; end",
	} {
		wantCodes(t, text, a, b)
	}
	wantCodes(t, "thread a\nend\nthread a\nend", a, a)
	wantCodes(t, "thread b 1 2 \nhalt\nend", b)
}

func TestLabels(t *testing.T) {
	jump := func(n uint64) api.Instr { return api.Instr{Op: api.OpGo, N: n} }
	halt := api.Instr{Op: api.OpHalt}
	long := strings.Repeat("l", 64)
	for text, want := range map[string][]api.Instr{
		"x:\ngo x":              {jump(0)},
		"go x\nx:":              {jump(1)},
		"go x\nhalt\n x:\nhalt": {jump(2), halt, halt},
		"x:\ny:\ngo y\nz:\ngo z\ngo x\ngo w\nw:\nv:":                         {jump(0), jump(1), jump(0), jump(4)},
		"X:\nhalt\nx:\ngo X\ngo x":                                           {halt, jump(0), jump(1)},
		"halt:\nend:\nthread:\nr1:\nhalt\ngo end\ngo halt\ngo thread\ngo r1": {halt, jump(0), jump(0), jump(0), jump(0)},
		long + ":\ngo " + long:                                               {jump(0)},
		"-.:\ngo -.":                                                         {jump(0)},
	} {
		wantCodes(t, "thread a\n"+text+"\nend", code(want...))
	}
	// labels of one code are not those of another
	wantCodes(t, "thread a\nx:\ngo x\nend\nthread a\nhalt\nx:\ngo x\nend", code(jump(0)), code(halt, jump(1)))
	wantFault(t, "thread a\nx:\nend\nthread a\ngo x\nend", api.ErrName, 5, 4)
}

func wantFault(t *testing.T, text string, want api.Errno, row, col int) {
	t.Helper()
	if l, e, r, c := thread.Read(text); len(l) != 0 || e != want || r != row || c != col {
		t.Errorf("R7: Read(%.200q) = %d codes, %d at %d, %d, want %d at %d, %d", text, len(l), e, r, c, want, row, col)
	}
}

func TestFaultsOutsideACode(t *testing.T) {
	wantFault(t, "halt", api.ErrToken, 1, 1)
	wantFault(t, "end", api.ErrToken, 1, 1)
	wantFault(t, "\n \tx:", api.ErrToken, 2, 3)
	wantFault(t, "threads a", api.ErrToken, 1, 1)
	wantFault(t, "Thread a", api.ErrToken, 1, 1)
	wantFault(t, "thread a\nend\nend", api.ErrToken, 3, 1)
	wantFault(t, "\x00", api.ErrToken, 1, 1)
	wantFault(t, "\vthread a", api.ErrToken, 1, 1) // other bytes are no blanks
	wantFault(t, "thread", api.ErrLine, 1, 7)
	wantFault(t, "thread  ;a\nend", api.ErrLine, 1, 11)
	wantFault(t, "thread\r\nend", api.ErrLine, 1, 8)
	wantFault(t, "thread 9a", api.ErrName, 1, 8)
	wantFault(t, "thread a: 007", api.ErrName, 1, 8)
	wantFault(t, "thread "+strings.Repeat("n", 65), api.ErrName, 1, 8)
	wantFault(t, "thread a 1 007", api.ErrDigits, 1, 12)
	wantFault(t, "thread a x", api.ErrDigits, 1, 10)
	wantFault(t, "thread a -1", api.ErrDigits, 1, 10)
	wantFault(t, "thread a 18446744073709551616", api.ErrLong, 1, 10)
	wantFault(t, "thread a 1 18446744073709551616 x", api.ErrLong, 1, 12)
	wantFault(t, "thread a 1 x 18446744073709551616", api.ErrDigits, 1, 12)
	wantCodes(t, "thread a"+strings.Repeat(" 7", 15)+"\nend", api.Code{Name: "a", Regs: slices.Repeat([]uint64{7}, 15)})
	for _, last := range []string{"7", "x", "007", "18446744073709551616", "7 x"} {
		wantFault(t, "thread a"+strings.Repeat(" 7", 15)+" "+last, api.ErrLine, 1, 40)
	}
	wantFault(t, "thread a"+strings.Repeat(" 7", 14)+" x 7", api.ErrDigits, 1, 38)
}

func TestFaultsOfLabels(t *testing.T) {
	wantFault(t, "thread a\n:", api.ErrName, 2, 1)
	wantFault(t, "thread a\n 9:", api.ErrName, 2, 2)
	wantFault(t, "thread a\nx::", api.ErrName, 2, 1)
	wantFault(t, "thread a\nx :", api.ErrToken, 2, 1)
	wantFault(t, "thread a\n"+strings.Repeat("l", 65)+":", api.ErrName, 2, 1)
	wantFault(t, "thread a\nx:\nhalt\n x:", api.ErrName, 4, 2)
	wantFault(t, "thread a\nx:\n x: x", api.ErrName, 3, 2)
	wantFault(t, "thread a\nx: halt", api.ErrLine, 2, 4)
	wantFault(t, "thread a\nx:  y:", api.ErrLine, 2, 5)
}

func TestFaultsOfEnds(t *testing.T) {
	wantFault(t, "thread a\nend x", api.ErrLine, 2, 5)
	wantFault(t, "thread a\ngo b\nend x", api.ErrLine, 3, 5)
	wantFault(t, "thread a\n go b\nend", api.ErrName, 2, 5)
	wantFault(t, "thread a\n go c\n zero r1 b\nc:\nmore r1 d\nend", api.ErrName, 3, 10)
	wantFault(t, "thread a\ngo b\nx", api.ErrToken, 3, 1) // the label is missed at the end alone
	wantFault(t, "thread a\ngo b\nend\nx", api.ErrName, 2, 4)
	wantFault(t, "thread a", api.ErrLine, 1, 9)
	wantFault(t, "thread a\n", api.ErrLine, 2, 1)
	wantFault(t, "thread a ;xy", api.ErrLine, 1, 13)
	wantFault(t, "thread a\nhalt\n\n  ", api.ErrLine, 4, 3)
	wantFault(t, "thread a\ngo b", api.ErrLine, 2, 5)
	wantFault(t, "thread a\nend;\nthread b\n;\n;;", api.ErrLine, 5, 3)
}

func TestFaultsOfInstructions(t *testing.T) {
	for line, f := range map[string]struct {
		e   api.Errno
		col int
	}{
		"thread b":                           {api.ErrToken, 1},
		" halts":                             {api.ErrToken, 2},
		"HALT":                               {api.ErrToken, 1},
		"halt halt":                          {api.ErrLine, 6},
		"load":                               {api.ErrLine, 5},
		"load ":                              {api.ErrLine, 6},
		"load r1":                            {api.ErrLine, 8},
		"load r1 ; [0]":                      {api.ErrLine, 14},
		"load r1\r":                          {api.ErrLine, 9},
		"load r1 [0] r2":                     {api.ErrLine, 13},
		"load r1 [0] ;r2\tr3":                {api.OK, 0},
		"load r16 [0]":                       {api.ErrToken, 6},
		"load r [0]":                         {api.ErrToken, 6},
		"load R1 [0]":                        {api.ErrToken, 6},
		"load 1 [0]":                         {api.ErrToken, 6},
		"load r01 [0]":                       {api.ErrToken, 6},
		"load r-1 [0]":                       {api.ErrToken, 6},
		"load r18446744073709551617":         {api.ErrToken, 6},
		"load x [":                           {api.ErrToken, 6},
		"load r1 [":                          {api.ErrToken, 9},
		"load r1 ]":                          {api.ErrToken, 9},
		"load r1 []":                         {api.ErrToken, 9},
		"load r1 0":                          {api.ErrToken, 9},
		"load r1 [0":                         {api.ErrToken, 9},
		"load r1 0]":                         {api.ErrToken, 9},
		"load r1 [00]":                       {api.ErrToken, 9},
		"load r1 [r]":                        {api.ErrToken, 9},
		"load r1 [r16]":                      {api.ErrToken, 9},
		"load r1 [r1+]":                      {api.ErrToken, 9},
		"load r1 [r1+01]":                    {api.ErrToken, 9},
		"load r1 [r1+r2]":                    {api.ErrToken, 9},
		"load r1 [r1+2+3]":                   {api.ErrToken, 9},
		"load r1 [r16+2]":                    {api.ErrToken, 9},
		"load r1 [+2]":                       {api.ErrToken, 9},
		"load r1 [2+r1]":                     {api.ErrToken, 9},
		"load r1 [-1]":                       {api.ErrToken, 9},
		"load r1 [r1-1]":                     {api.ErrToken, 9},
		"load r1 [r1 +2]":                    {api.ErrToken, 9},
		"load r1 [[1]]":                      {api.ErrToken, 9},
		"load r1 [1]x":                       {api.ErrToken, 9},
		"load r1 [18446744073709551616]":     {api.ErrLong, 9},
		"load r1 [r1+18446744073709551616]":  {api.ErrLong, 9},
		"load r1 [r16+18446744073709551616]": {api.ErrToken, 9},
		"load r1 [r18446744073709551616]":    {api.ErrToken, 9},
		"load r1 [18446744073709551616":      {api.ErrToken, 9},
		"load r1 [018446744073709551616]":    {api.ErrToken, 9},
		"store r1 [0]":                       {api.ErrToken, 7},
		"store [0] [0]":                      {api.ErrToken, 11},
		"cas [0] r1":                         {api.ErrLine, 11},
		"cas [0] r1 r2 r3":                   {api.ErrLine, 15},
		"set r1":                             {api.ErrLine, 7},
		"set r1 x":                           {api.ErrToken, 8},
		"set r1 01":                          {api.ErrToken, 8},
		"set r1 -1":                          {api.ErrToken, 8},
		"set r1 18446744073709551616":        {api.ErrLong, 8},
		"set r1 018446744073709551616":       {api.ErrToken, 8},
		"set r1 1 2":                         {api.ErrLine, 10},
		"move r1 2":                          {api.ErrToken, 9},
		"plus r1 r2":                         {api.ErrLine, 11},
		"plus r1 r2 r16":                     {api.ErrToken, 12},
		"go":                                 {api.ErrLine, 3},
		"go 9":                               {api.ErrToken, 4},
		"go x: 9":                            {api.ErrToken, 4},
		"go x y":                             {api.ErrLine, 6},
		"zero x x":                           {api.ErrToken, 6},
		"zero r1":                            {api.ErrLine, 8},
		"zero r1 r1!":                        {api.ErrToken, 9},
	} {
		text := "thread a\n" + line + "\nend"
		if f.e == api.OK {
			wantRead(t, text)
			continue
		}
		wantFault(t, text, f.e, 2, f.col)
	}
}

func TestTextsOfTooManyInstructions(t *testing.T) {
	most := "thread a\n" + strings.Repeat("halt\n", api.MaxCode)
	if l := wantRead(t, most+"x:\nend"); len(l) != 1 || len(l[0].Code) != api.MaxCode {
		t.Error("R7: MaxCode instructions are not read")
	}
	wantFault(t, most+" halt halt\nend", api.ErrSize, api.MaxCode+2, 2)
	wantFault(t, most+" load\nend", api.ErrSize, api.MaxCode+2, 2)
	wantFault(t, most+" hold\nend", api.ErrToken, api.MaxCode+2, 2)
	wantRead(t, most+"end\n"+most+"end\n") // the limit is a code's
}

func TestFirstOfSeveralFaults(t *testing.T) {
	wantFault(t, "thread 9 x\nfoo", api.ErrName, 1, 8)
	wantFault(t, "thread a\nfoo\nthread 9", api.ErrToken, 2, 1)
	wantFault(t, "thread a\nset r1 x y\nfoo", api.ErrToken, 2, 8)
	wantFault(t, "thread a\nend\nthread a\nset r1 1\n\nset r1 1 1\nend", api.ErrLine, 6, 10)
}

func TestShow(t *testing.T) {
	wantShow(t, "")
	wantShow(t, "thread y\nend\nthread z 0 18446744073709551615\nend\n", api.Code{Name: "y"}, api.Code{Name: "z", Regs: []uint64{0, most}})
	wantShow(t, "thread x\nL0:\n  go L2\n  zero r1 L0\nL2:\nend\n", api.Code{Name: "x", Code: []api.Instr{{Op: api.OpGo, N: 2}, {Op: api.OpZero, A: 1}}})
	for _, l := range [][]api.Code{{{Name: "a"}, {Name: "9"}, {Name: "a", Regs: make([]uint64, 16)}}, {{}, code(api.Instr{})}} {
		if s, e := thread.Show(l); s != "" || e != api.ErrName {
			t.Errorf("R8: Show(%v) = %q, %d", l, s, e)
		}
	}
	if s, e := thread.Show([]api.Code{{Name: "a"}, code(api.Instr{Op: api.OpGo, N: 2}), {}}); s != "" || e != api.ErrPlace {
		t.Errorf("R8: the error of the first that is none: %q, %d", s, e)
	}
}

// TestThereAndBack: what Show writes, Read answers.
func TestThereAndBack(t *testing.T) {
	r := rand.New(rand.NewSource(3))
	for range 2000 {
		var l []api.Code
		for range r.Intn(4) {
			c := chance(r)
			for i := range c.Code {
				if x := &c.Code[i]; x.Op >= 2 && x.Op <= 6 {
					x.B, x.N = r.Intn(3), r.Uint64()>>r.Intn(64)*uint64(r.Intn(2))
				}
			}
			l = append(l, c)
		}
		text, e := thread.Show(l)
		if e != api.OK {
			t.Fatalf("R8: Show(%v) = %d", l, e)
		}
		wantCodes(t, text, l...)
		if again, e := thread.Show(wantRead(t, text)); again != text || e != api.OK {
			t.Fatalf("R9: Show of Read of %q = %q, %d", text, again, e)
		}
	}
}

// TestAnyText: texts by chance neither break Read nor come out as what is no code; of a fault the place is one of the text.
func TestAnyText(t *testing.T) {
	r := rand.New(rand.NewSource(8))
	words := []string{"thread", "a", "end", "x:", "go", "x", "halt", "load", "r1", "[0]", "[r1+2]", "set", "7", "\n", "\n", "\n", ";", "\r", "\t", " ", " ", " ", "\x00", "ä", "18446744073709551616", "[", "thread a\n", "\nend\n", " halt\n"}
	fine := 0
	for range 20000 {
		var s strings.Builder
		for range r.Intn(12) {
			s.WriteString(words[r.Intn(len(words))])
		}
		text := s.String()
		if r.Intn(2) == 0 {
			text = "thread a\n" + text + "\nend"
		}
		l, e, row, col := thread.Read(text)
		if e == api.OK {
			wantRead(t, text)
			fine += len(l)
			continue
		}
		lines := strings.Split(text, "\n")
		if l != nil || row < 1 || row > len(lines) || col < 1 || col > len(lines[row-1])+1 {
			t.Fatalf("P0.2, P0.7: Read(%q) = %d codes, %d at %d, %d", text, len(l), e, row, col)
		}
	}
	if fine < 100 {
		t.Errorf("%d codes were read: the test looks at too little", fine)
	}
}

// TestListsOfRead: no two lists of an answer share memory.
func TestListsOfRead(t *testing.T) {
	l := wantRead(t, "thread a 1 2 3\nhalt\nhalt\nhalt\nend\nthread b 4\nhalt\nend\nthread c 5\nset r1 1\nend")
	_ = append(l[0].Code, api.Instr{Op: 9}, api.Instr{Op: 9})
	_ = append(l[0].Regs, 9, 9, 9)
	l[0].Code[0], l[0].Regs[0] = api.Instr{Op: 9}, 9
	if !sameCode(l[1], api.Code{Name: "b", Code: []api.Instr{{Op: 1}}, Regs: []uint64{4}}) || !sameCode(l[2], api.Code{Name: "c", Code: []api.Instr{{Op: 7, A: 1, N: 1}}, Regs: []uint64{5}}) {
		t.Errorf("P0.4: lists of Read's answer share memory: %v", l)
	}
}
