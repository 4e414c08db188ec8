package thread

import (
	"strings"

	"wayfare/api"
	"wayfare/octet"
)

// line is a line of a text, whose words are taken from the left.
type line struct {
	text string // what is ahead of a comment
	at   int    // how much of it was taken
	row  int
	end  int // the byte behind its last one, a comment's too
}

// word is a word of a line and where it stands; behind the last word comes an empty one, at the line's end.
type word struct {
	text string
	col  int
}

func newLine(text string, row int) *line {
	said, _, _ := strings.Cut(text, ";")
	return &line{text: said, row: row, end: len(text) + 1}
}

// next takes the next word.
func (l *line) next() word {
	for l.at < len(l.text) && isBlank(l.text[l.at]) {
		l.at++
	}
	if l.at == len(l.text) {
		return word{"", l.end}
	}
	first := l.at
	for l.at < len(l.text) && !isBlank(l.text[l.at]) {
		l.at++
	}
	return word{l.text[first:l.at], first + 1}
}

// fault is an error at a word.
func (l *line) fault(e api.Errno, w word) fault {
	return fault{e, l.row, w.col}
}

// over looks that no word is left.
func (l *line) over() fault {
	if w := l.next(); w.text != "" {
		return l.fault(api.ErrLine, w)
	}
	return fault{}
}

// isBlank tells whether a byte stands between words.
func isBlank(b byte) bool {
	return b == ' ' || b == '\t' || b == '\r'
}

// nextReg reads what a register is at the start, behind so many others.
func nextReg(s string, have int) (uint64, api.Errno) {
	if have == api.Registers-1 {
		return 0, api.ErrLine
	}
	return octet.Number(s)
}

// take reads a word behind an instruction's own into its fields; a label is only looked at, since its place may come later.
func take(x *api.Instr, takes byte, s string) (e api.Errno) {
	switch takes {
	case takesA:
		x.A, e = readRegister(s)
	case takesB:
		x.B, e = readRegister(s)
	case takesC:
		x.C, e = readRegister(s)
	case takesCell:
		x.B, x.N, e = readCell(s)
	case takesNumber:
		x.N, e = readNumber(s)
	case takesLabel:
		if !isName(s) {
			e = api.ErrToken
		}
	}
	return e
}

// readNumber reads digits of an instruction: what are none is a word that may not stand there.
func readNumber(s string) (uint64, api.Errno) {
	v, e := octet.Number(s)
	if e == api.ErrDigits {
		e = api.ErrToken
	}
	return v, e
}

// readRegister reads r0 to r15.
func readRegister(s string) (int, api.Errno) {
	digits, is := strings.CutPrefix(s, "r")
	v, e := octet.Number(digits)
	if !is || e != api.OK || v >= api.Registers {
		return 0, api.ErrToken
	}
	return int(v), api.OK
}

// readCell reads [rB+N], [rB] or [N].
func readCell(s string) (int, uint64, api.Errno) {
	inner, open := strings.CutPrefix(s, "[")
	inner, closed := strings.CutSuffix(inner, "]")
	if !open || !closed {
		return 0, 0, api.ErrToken
	}
	if !strings.HasPrefix(inner, "r") {
		n, e := readNumber(inner)
		return 0, n, e
	}
	name, digits, both := strings.Cut(inner, "+")
	b, e := readRegister(name)
	if e != api.OK || !both {
		return b, 0, e
	}
	n, e := readNumber(digits)
	if e != api.OK {
		return 0, 0, e
	}
	return b, n, api.OK
}
