package thread

import (
	"strings"

	"wayfare/api"
)

// fault is why a text is none, and where.
type fault struct {
	err      api.Errno
	row, col int
}

// ask is a label that an instruction goes to: which one, and where it is written.
type ask struct {
	place    int // of the instruction
	label    string
	row, col int
}

// reader is how far a text was read.
type reader struct {
	codes  []api.Code
	within bool           // a code is open: the next fields are its own
	code   api.Code       // what was read of it
	labels map[string]int // the places of its labels
	asks   []ask
}

// Read tells the codes that a text is; else the error, its line and its byte in the line.
func Read(text string) ([]api.Code, api.Errno, int, int) {
	var r reader
	for row := 1; ; row++ {
		head, tail, more := strings.Cut(text, "\n")
		f := r.line(newLine(head, row))
		if f.err == api.OK && !more && r.within {
			f = fault{api.ErrLine, row, len(head) + 1}
		}
		if f.err != api.OK {
			return nil, f.err, f.row, f.col
		}
		if !more {
			return r.codes, api.OK, 0, 0
		}
		text = tail
	}
}

// line reads a line.
func (r *reader) line(l *line) fault {
	w := l.next()
	switch {
	case w.text == "":
		return fault{}
	case !r.within && w.text != "thread":
		return l.fault(api.ErrToken, w)
	case !r.within:
		return r.begin(l)
	case strings.HasSuffix(w.text, ":"):
		return r.label(l, w)
	case w.text == "end":
		return r.end(l)
	}
	return r.instr(l, w)
}

// begin reads the name of a code and its registers, and opens it.
func (r *reader) begin(l *line) fault {
	w := l.next()
	if w.text == "" {
		return l.fault(api.ErrLine, w)
	}
	if !isName(w.text) {
		return l.fault(api.ErrName, w)
	}
	name := strings.Clone(w.text)
	var regs []uint64
	for w = l.next(); w.text != ""; w = l.next() {
		v, e := nextReg(w.text, len(regs))
		if e != api.OK {
			return l.fault(e, w)
		}
		regs = append(regs, v)
	}
	r.within, r.code = true, api.Code{Name: name, Regs: regs}
	r.labels, r.asks = map[string]int{}, nil
	return fault{}
}

// label reads a label, whose word was read already.
func (r *reader) label(l *line, w word) fault {
	name := strings.TrimSuffix(w.text, ":")
	_, known := r.labels[name]
	if known || !isName(name) {
		return l.fault(api.ErrName, w)
	}
	r.labels[name] = len(r.code.Code)
	return l.over()
}

// end closes a code: now all of its labels are known.
func (r *reader) end(l *line) fault {
	if f := l.over(); f.err != api.OK {
		return f
	}
	for _, a := range r.asks {
		place, known := r.labels[a.label]
		if !known {
			return fault{api.ErrName, a.row, a.col}
		}
		r.code.Code[a.place].N = uint64(place)
	}
	r.codes = append(r.codes, r.code)
	r.within = false
	return fault{}
}

// instr reads an instruction, whose first word was read already.
func (r *reader) instr(l *line, w word) fault {
	op := opOf(w.text)
	if op == 0 {
		return l.fault(api.ErrToken, w)
	}
	if len(r.code.Code) == api.MaxCode {
		return l.fault(api.ErrSize, w)
	}
	x := api.Instr{Op: op}
	takes := forms[op].takes
	for i := range len(takes) {
		w = l.next()
		if w.text == "" {
			return l.fault(api.ErrLine, w)
		}
		if e := take(&x, takes[i], w.text); e != api.OK {
			return l.fault(e, w)
		}
		if takes[i] == takesLabel {
			r.asks = append(r.asks, ask{len(r.code.Code), w.text, l.row, w.col})
		}
	}
	r.code.Code = append(r.code.Code, x)
	return l.over()
}
