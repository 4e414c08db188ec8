package thread

import (
	"strings"

	"wayfare/api"
	"wayfare/octet"
)

// Show writes codes.
func Show(l []api.Code) (string, api.Errno) {
	for _, c := range l {
		if e, _ := Check(c); e != api.OK {
			return "", e
		}
	}
	var out strings.Builder
	for _, c := range l {
		showCode(&out, c)
	}
	return out.String(), api.OK
}

// showCode writes a code that is one.
func showCode(out *strings.Builder, c api.Code) {
	out.WriteString("thread " + c.Name)
	for _, v := range c.Regs {
		out.WriteString(" " + octet.Decimal(v))
	}
	out.WriteString("\n")
	gone := goneTo(c.Code)
	for i := range gone {
		if gone[i] {
			out.WriteString(labelOf(uint64(i)) + ":\n")
		}
		if i < len(c.Code) {
			showInstr(out, c.Code[i])
		}
	}
	out.WriteString("end\n")
}

// goneTo tells of each place, the one behind the last too, whether an instruction goes to it.
func goneTo(code []api.Instr) []bool {
	out := make([]bool, len(code)+1)
	for _, x := range code {
		if goes(x.Op) {
			out[x.N] = true
		}
	}
	return out
}

// labelOf is how the label of a place is called.
func labelOf(place uint64) string {
	return "L" + octet.Decimal(place)
}

// showInstr writes an instruction.
func showInstr(out *strings.Builder, x api.Instr) {
	f := forms[x.Op]
	out.WriteString("  " + f.word)
	for i := range len(f.takes) {
		out.WriteString(" " + operand(x, f.takes[i]))
	}
	out.WriteString("\n")
}

// operand is a word behind an instruction's own.
func operand(x api.Instr, takes byte) string {
	switch takes {
	case takesA:
		return register(x.A)
	case takesB:
		return register(x.B)
	case takesC:
		return register(x.C)
	case takesCell:
		return cellText(x.B, x.N)
	case takesLabel:
		return labelOf(x.N)
	}
	return octet.Decimal(x.N)
}

// register is how a register is written.
func register(r int) string {
	return "r" + octet.Decimal(uint64(r))
}

// cellText is how a cell is written: the shortest of its forms.
func cellText(b int, n uint64) string {
	switch {
	case b == 0:
		return "[" + octet.Decimal(n) + "]"
	case n == 0:
		return "[" + register(b) + "]"
	}
	return "[" + register(b) + "+" + octet.Decimal(n) + "]"
}
