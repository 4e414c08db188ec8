package voucher

import (
	"strings"

	"wayfare/api"
)

// Read tells the voucher that a text is; else the error, its line and its byte in the line.
func Read(text string) (api.Voucher, api.Errno, int, int) {
	var r reader
	row, end := 0, 0
	for s := range strings.SplitSeq(text, "\n") {
		row++
		l := words{line: s}
		if e := r.line(&l); e != api.OK {
			return api.Voucher{}, e, row, l.col
		}
		end = len(s) + 1
	}
	if e := r.end(); e != api.OK {
		return api.Voucher{}, e, row, end
	}
	return r.voucher, api.OK, 0, 0
}

// reader is how far a text was read.
type reader struct {
	voucher api.Voucher
	headed  bool // the head was read
	want    int  // how many items it tells
}

// line reads a line; an error is at the word that was taken last.
func (r *reader) line(l *words) api.Errno {
	first := l.next()
	switch {
	case first == "" || first == wordComment:
		return api.OK
	case r.headed:
		return r.item(first, l)
	}
	return r.head(first, l)
}

// head reads `p voucher N`.
func (r *reader) head(first string, l *words) api.Errno {
	if first != wordHead {
		return api.ErrToken
	}
	switch l.next() {
	case "":
		return api.ErrLine
	case wordVoucher:
	default:
		return api.ErrToken
	}
	n, e := number(l.next())
	switch {
	case e != api.OK:
		return e
	case n > api.MaxVertices:
		return api.ErrSize
	}
	r.headed, r.want = true, int(n)
	return l.over()
}

// item reads `v I LABEL` or `v I LABEL E D`.
func (r *reader) item(first string, l *words) api.Errno {
	have := len(r.voucher.Labels)
	switch {
	case first != wordItem:
		return api.ErrToken
	case have == r.want:
		return api.ErrList
	}
	i, e := number(l.next())
	switch {
	case e != api.OK:
		return e
	case i != uint64(have)+1:
		return api.ErrOrder
	}
	label, e := readLabel(l.next())
	if e != api.OK {
		return e
	}
	by, depth, e := readReason(l)
	if e != api.OK {
		return e
	}
	v := &r.voucher
	v.Labels, v.By, v.Depth = append(v.Labels, label), append(v.By, by), append(v.Depth, depth)
	return l.over()
}

func readLabel(word string) (uint64, api.Errno) {
	if word == wordNever {
		return api.Never, api.OK
	}
	v, e := number(word)
	if e == api.OK && v == api.Never { // there is no other way to write it than by its word
		e = api.ErrLabel
	}
	return v, e
}

// readReason reads E and D, if they are there.
func readReason(l *words) (by, depth int, e api.Errno) {
	word := l.next()
	if word == "" {
		return noEdge, 0, api.OK
	}
	place, e := number(word)
	switch {
	case e != api.OK:
		return 0, 0, e
	case place < 1 || place > api.MaxEdges:
		return 0, 0, api.ErrPlace
	}
	edges, e := number(l.next())
	switch {
	case e != api.OK:
		return 0, 0, e
	case edges > api.MaxVertices:
		return 0, 0, api.ErrSize
	}
	return int(place) - 1, int(edges), api.OK
}

// end tells whether the text may end here.
func (r *reader) end() api.Errno {
	switch {
	case !r.headed:
		return api.ErrLine
	case len(r.voucher.Labels) < r.want:
		return api.ErrList
	}
	return api.OK
}
