package history

import (
	"strings"

	"wayfare/api"
	"wayfare/octet"
)

// blank is what stands between words; other bytes that look like it are parts of words.
const blank = " "

// Read tells the events that a text is; else the error, its line and its byte in the line.
func Read(text string) ([]api.Event, api.Errno, int, int) {
	var events []api.Event
	row := 0
	for s := range strings.SplitSeq(text, "\n") {
		row++
		if strings.Trim(s, blank) == "" {
			continue
		}
		l := line{text: s}
		x, e := readEvent(&l)
		if e != api.OK {
			return nil, e, row, l.col
		}
		events = append(events, x)
	}
	return events, api.OK, 0, 0
}

// line is one of a text, whose words are taken from the left.
type line struct {
	text string
	at   int // how much of it was taken
	col  int // the byte, from 1 on, at which the word that was taken last begins
}

// next takes the next word; behind the last one comes an empty one, at the line's end.
func (l *line) next() string {
	rest := strings.TrimLeft(l.text[l.at:], blank)
	first := len(l.text) - len(rest)
	word, _, _ := strings.Cut(rest, blank)
	l.at, l.col = first+len(word), first+1
	return word
}

// readEvent reads a line; an error is at the word that was taken last.
func readEvent(l *line) (x api.Event, e api.Errno) {
	if x.At, e = readSmall(l.next()); e != api.OK {
		return x, e
	}
	if x.Who, e = readSmall(l.next()); e != api.OK {
		return x, e
	}
	if x.Kind, e = readKind(l.next()); e != api.OK {
		return x, e
	}
	if hasTask(x.Kind) {
		if x.Task, e = readTask(l); e != api.OK {
			return x, e
		}
	}
	if l.next() != "" {
		return x, api.ErrLine
	}
	return x, api.OK
}

func readSmall(word string) (int, api.Errno) {
	v, e := readNumber(word)
	if e == api.OK && v > greatest {
		return 0, api.ErrSize
	}
	return int(v), e
}

// readNumber reads a number; an empty word is a line that ends too early.
func readNumber(word string) (uint64, api.Errno) {
	if word == "" {
		return 0, api.ErrLine
	}
	v, e := octet.Number(word)
	if e != api.OK { // whatever it is that the number lacks
		return 0, api.ErrDigits
	}
	return v, api.OK
}

func readKind(word string) (int, api.Errno) {
	if word == "" {
		return 0, api.ErrLine
	}
	for kind, w := range words {
		if w == word {
			return kind, api.OK
		}
	}
	return 0, api.ErrToken
}

func readTask(l *line) (t api.Task, e api.Errno) {
	if t.Key, e = readNumber(l.next()); e == api.OK {
		t.Load, e = readNumber(l.next())
	}
	return t, e
}
