package thread

import (
	"strings"

	"wayfare/api"
)

// What an instruction asks for behind its word: registers, a cell (the register B and the number N), a number, a label.
const (
	takesA      = 'A'
	takesB      = 'B'
	takesC      = 'C'
	takesCell   = '['
	takesNumber = 'N'
	takesLabel  = 'L'
)

// form is how an instruction is written: its word, and what it takes, in the order of the text.
type form struct {
	word, takes string
}

var forms = [...]form{
	api.OpHalt:  {"halt", ""},
	api.OpLoad:  {"load", "A["},
	api.OpStore: {"store", "[A"},
	api.OpCas:   {"cas", "[AC"},
	api.OpAdd:   {"add", "[A"},
	api.OpSwap:  {"swap", "[A"},
	api.OpSet:   {"set", "AN"},
	api.OpMove:  {"move", "AB"},
	api.OpPlus:  {"plus", "ABC"},
	api.OpMinus: {"minus", "ABC"},
	api.OpTimes: {"times", "ABC"},
	api.OpAnd:   {"and", "ABC"},
	api.OpLess:  {"less", "ABC"},
	api.OpSame:  {"same", "ABC"},
	api.OpGo:    {"go", "L"},
	api.OpZero:  {"zero", "AL"},
	api.OpMore:  {"more", "AL"},
}

// isOp tells whether there is an operation of this number.
func isOp(op int) bool {
	return op >= api.OpHalt && op <= api.OpMore
}

// isAccess tells whether an operation makes an access; the others are local.
func isAccess(op int) bool {
	return op >= api.OpLoad && op <= api.OpSwap
}

// goes tells whether an operation may go to the place N.
func goes(op int) bool {
	return op >= api.OpGo && op <= api.OpMore
}

// opOf is the operation of a word, 0 if it is none.
func opOf(word string) int {
	for op := api.OpHalt; op <= api.OpMore; op++ {
		if forms[op].word == word {
			return op
		}
	}
	return 0
}

// mostName is how long a name may be.
const mostName = 64

// isName tells whether a word may name a code or a label.
func isName(s string) bool {
	if s == "" || len(s) > mostName || isDigit(s[0]) {
		return false
	}
	for i := range len(s) {
		b := s[i]
		if !isLetter(b) && !isDigit(b) && b != '_' && b != '-' && b != '.' {
			return false
		}
	}
	return true
}

func isDigit(b byte) bool {
	return b >= '0' && b <= '9'
}

func isLetter(b byte) bool {
	return b >= 'a' && b <= 'z' || b >= 'A' && b <= 'Z'
}

// Check tells whether a code is one; if not, the place.
func Check(c api.Code) (api.Errno, int) {
	switch {
	case !isName(c.Name):
		return api.ErrName, 0
	case len(c.Code) > api.MaxCode:
		return api.ErrSize, 0
	case len(c.Regs) >= api.Registers: // the register 0 is not among them
		return api.ErrList, 0
	}
	for i, x := range c.Code {
		if !fieldsFit(x) {
			return api.ErrToken, i
		}
		if goes(x.Op) && x.N > uint64(len(c.Code)) {
			return api.ErrPlace, i
		}
	}
	return api.OK, 0
}

// fieldsFit tells whether the operation is one, its registers are there, and what it does not use is 0.
func fieldsFit(x api.Instr) bool {
	if !isOp(x.Op) {
		return false
	}
	takes := forms[x.Op].takes
	return fits(x.A, takes, "A") && fits(x.B, takes, "B[") && fits(x.C, takes, "C") &&
		(x.N == 0 || strings.ContainsAny(takes, "[NL"))
}

// fits tells whether a register is there, or 0 where nothing that is taken uses it.
func fits(register int, takes, users string) bool {
	if !strings.ContainsAny(takes, users) {
		return register == 0
	}
	return register >= 0 && register < api.Registers
}
