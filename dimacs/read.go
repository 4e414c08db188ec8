package dimacs

import (
	"iter"
	"strings"

	"wayfare/api"
	"wayfare/octet"
)

// comment is the first word of a line that says nothing.
const comment = "c"

// fault is why a text is none, and where.
type fault struct {
	err      api.Errno
	row, col int
}

// numbers are those of an item: vertices from 0 on, signed ones modulo 2^64.
type numbers [3]uint64

// reader is how far a text was read.
type reader struct {
	kind     kind
	keep     func(numbers)  // is handed each item
	known    func(int) bool // whether a vertex has its point already
	vertices int
	headed   bool // the head was read
	want     int  // how many items it tells
	got      int
	item     numbers // what was read of the present item
}

// read reads a text line by line, a line word by word.
func (r *reader) read(text string) fault {
	var line string
	row, more := 0, true
lines:
	for more {
		line, text, more = strings.Cut(text, "\n")
		row++
		count := 0
		for col, word := range words(line) {
			if count == 0 && word == comment {
				continue lines
			}
			if e := r.word(count, word); e != api.OK {
				return fault{e, row, col}
			}
			count++
		}
		if e := r.endLine(count); e != api.OK {
			return fault{e, row, len(line) + 1}
		}
	}
	return fault{r.endText(), row, len(line) + 1}
}

// words goes through the words of a line, each with the byte at which it stands.
func words(line string) iter.Seq2[int, string] {
	return func(yield func(int, string) bool) {
		first := -1 // of the present word
		for i, c := range line {
			switch blank := isBlank(c); {
			case !blank && first < 0:
				first = i
			case blank && first >= 0:
				if !yield(first+1, line[first:i]) {
					return
				}
				first = -1
			}
		}
		if first >= 0 {
			yield(first+1, line[first:])
		}
	}
}

func isBlank(c rune) bool {
	return c == ' ' || c == '\t' || c == '\r'
}

// word reads the word of a line that has so many ahead of it.
func (r *reader) word(ahead int, word string) api.Errno {
	if r.headed {
		return r.itemWord(ahead, word)
	}
	return r.headWord(ahead, word)
}

// headWord reads a word of the head: the fixed ones, then the numbers.
func (r *reader) headWord(ahead int, word string) api.Errno {
	fixed := strings.Fields(r.kind.head)
	if ahead < len(fixed) {
		if word != fixed[ahead] {
			return api.ErrToken
		}
		return api.OK
	}
	which := ahead - len(fixed)
	if which >= len(r.kind.most) {
		return api.ErrLine
	}
	v, e := upTo(word, r.kind.most[which], api.ErrSize)
	if e != api.OK {
		return e
	}
	if which == 0 && r.kind.ownSize {
		r.vertices = int(v)
	}
	r.want = int(v) // of several the last one holds
	return api.OK
}

// itemWord reads a word of an item: the kind's own, then the numbers.
func (r *reader) itemWord(ahead int, word string) api.Errno {
	switch {
	case ahead == 0 && word != r.kind.item:
		return api.ErrToken
	case ahead == 0 && r.got == r.want:
		return api.ErrList
	case ahead == 0:
		return api.OK
	case ahead > len(r.kind.takes):
		return api.ErrLine
	}
	v, e := r.number(r.kind.takes[ahead-1], word)
	r.item[ahead-1] = v
	return e
}

// number reads a number of an item.
func (r *reader) number(what byte, word string) (uint64, api.Errno) {
	switch what {
	case takesWeight:
		return upTo(word, api.MaxWeight, api.ErrWeight)
	case takesSigned:
		return signed(word)
	}
	v, e := upTo(word, uint64(r.vertices), api.ErrVertex)
	switch {
	case e != api.OK:
		return 0, e
	case v == 0: // texts number from 1 on
		return 0, api.ErrVertex
	case what == takesPlace && r.known(int(v-1)):
		return 0, api.ErrName
	}
	return v - 1, api.OK
}

// endLine ends a line of so many words, in which all was right.
func (r *reader) endLine(count int) api.Errno {
	if count == 0 {
		return api.OK
	}
	if !r.headed {
		if count < len(strings.Fields(r.kind.head))+len(r.kind.most) {
			return api.ErrLine
		}
		r.headed = true
		return api.OK
	}
	if count < 1+len(r.kind.takes) {
		return api.ErrLine
	}
	r.keep(r.item)
	r.got++
	return api.OK
}

// endText tells whether the text may end here.
func (r *reader) endText() api.Errno {
	switch {
	case !r.headed:
		return api.ErrLine
	case r.got < r.want:
		return api.ErrList
	}
	return api.OK
}

// upTo reads a number; past is the error of one that is above most.
func upTo(word string, most uint64, past api.Errno) (uint64, api.Errno) {
	v, e := octet.Number(word)
	if e == api.OK && v > most {
		return 0, past
	}
	return v, e
}

// signed reads a number that may have a minus ahead, modulo 2^64.
func signed(word string) (uint64, api.Errno) {
	digits, below := strings.CutPrefix(word, "-")
	v, e := octet.Number(digits)
	switch {
	case e != api.OK:
		return 0, e
	case !below && v < 1<<63:
		return v, api.OK
	case !below || v > 1<<63:
		return 0, api.ErrLong
	case v == 0: // there is no other 0 than the plain one
		return 0, api.ErrDigits
	}
	return -v, api.OK
}
