package job

import (
	"strings"

	"wayfare/api"
	"wayfare/octet"
)

// Bytes of a text that are no words.
const (
	blanks = " \t"
	ends   = "\n"
	unread = "\r" // right ahead of an end
	remark = "#"
)

// lastLine is the only word of the line behind the lines of a graph, or of a pack.
const lastLine = "end"

// longest is how many bytes a name has at most.
const longest = 32

// reader is how far a text was read.
type reader struct {
	rest   string // what stands behind the present line
	line   string // the present line
	number int    // which one it is
	at     int    // how many of its bytes were taken
	begin  int    // the byte at which the present word begins
}

// readJob reads all commands of a text, or those ahead of the line at which it is refused.
func readJob(text string) (api.Job, error) {
	var j api.Job
	r := reader{rest: text}
	for r.nextLine() {
		if r.says() {
			o, err := r.order()
			if err != nil {
				return j, err
			}
			j.Orders = append(j.Orders, o)
		}
	}
	return j, nil
}

// order reads the command that begins with the present line.
func (r *reader) order() (api.Order, error) {
	o := api.Order{Line: r.number}
	word, _ := r.word()
	c, known := commands[word]
	if !known {
		return o, r.refuse(api.ErrCommand)
	}
	o.Kind = c.kind
	if err := c.read(r, &o); err != nil {
		return o, err
	}
	return o, r.end()
}

// nextLine goes on to the next line; false, if there is none.
func (r *reader) nextLine() bool {
	if r.rest == "" {
		return false
	}
	text, rest, ended := strings.Cut(r.rest, ends)
	if ended {
		text = strings.TrimRight(text, unread)
	}
	r.rest, r.line, r.at = rest, text, 0
	r.number++
	return true
}

// says tells whether the present line is one that is not skipped.
func (r *reader) says() bool {
	return r.more() && !strings.HasPrefix(r.line[r.at:], remark)
}

// more tells whether a word is left in the line, and passes over the blanks ahead of it.
func (r *reader) more() bool {
	r.at = len(r.line) - len(strings.TrimLeft(r.line[r.at:], blanks))
	return r.at < len(r.line)
}

// word takes the next word of the line.
func (r *reader) word() (string, error) {
	if !r.more() {
		r.begin = len(strings.TrimRight(r.line, blanks)) + 1
		return "", r.refuse(api.ErrLine)
	}
	r.begin = r.at + 1
	word := r.line[r.at:]
	if long := strings.IndexAny(word, blanks); long >= 0 {
		word = word[:long]
	}
	r.at += len(word)
	return word, nil
}

// end looks that no word is left in the line.
func (r *reader) end() error {
	if !r.more() {
		return nil
	}
	r.begin = r.at + 1
	return r.refuse(api.ErrLine)
}

// figure takes the next word, which is a number that is at most so great.
func (r *reader) figure(most uint64) (uint64, error) {
	word, err := r.word()
	if err != nil {
		return 0, err
	}
	v, e := octet.Number(word)
	switch {
	case e != api.OK:
		return 0, r.refuse(e)
	case v > most:
		return 0, r.refuse(api.ErrSize)
	}
	return v, nil
}

// choice takes the next word, which is one of these, and tells which.
func (r *reader) choice(of ...string) (int, error) {
	word, err := r.word()
	if err != nil {
		return 0, err
	}
	for i, w := range of {
		if w == word {
			return i, nil
		}
	}
	return 0, r.refuse(api.ErrToken)
}

// text takes the lines up to the one that ends them.
func (r *reader) text() (string, error) {
	var out strings.Builder
	for r.nextLine() {
		if isLast(r.line) {
			r.at = len(r.line)
			return out.String(), nil
		}
		out.WriteString(r.line)
		out.WriteString(ends)
	}
	return "", refusal{api.ErrLine, r.number + 1, 1}
}

// refuse is a refusal at the present word.
func (r *reader) refuse(e api.Errno) error {
	return refusal{e, r.number, r.begin}
}

// isLast tells whether a line ends the lines of a graph, or of a pack.
func isLast(line string) bool {
	return strings.Trim(line, blanks) == lastLine
}

// isName tells whether a word is a name.
func isName(word string) bool {
	if len(word) < 1 || len(word) > longest {
		return false
	}
	for i := range len(word) {
		if !isLetter(word[i]) {
			return false
		}
	}
	return true
}

// isLetter tells whether a byte may stand in a name.
func isLetter(b byte) bool {
	switch {
	case b >= 'A' && b <= 'Z', b >= 'a' && b <= 'z', b >= '0' && b <= '9':
		return true
	}
	return b == '-' || b == '_' || b == '.'
}
