package voucher

import (
	"strings"

	"wayfare/api"
	"wayfare/octet"
)

// blanks are the bytes between words.
const blanks = " \t\r"

// words are those of a line, taken from the left.
type words struct {
	line string
	at   int // how much of it was taken
	col  int // the byte, from 1 on, at which the word that was taken last begins
}

// next takes the next word; behind the last one comes an empty one, at the line's end.
func (l *words) next() string {
	rest := strings.TrimLeft(l.line[l.at:], blanks)
	first := len(l.line) - len(rest)
	l.at, l.col = len(l.line), first+1
	if long := strings.IndexAny(rest, blanks); long >= 0 {
		l.at = first + long
	}
	return l.line[first:l.at]
}

// over looks that no word is left.
func (l *words) over() api.Errno {
	if l.next() != "" {
		return api.ErrLine
	}
	return api.OK
}

// number reads a word that must be a number; an empty one is a line that ends too early.
func number(word string) (uint64, api.Errno) {
	if word == "" {
		return 0, api.ErrLine
	}
	return octet.Number(word)
}
