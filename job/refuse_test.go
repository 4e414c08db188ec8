package job_test

import (
	"strings"
	"testing"

	"wayfare/api"
	"wayfare/job"
)

// specs are commands word by word, each word with what it is to be: c the command's, f a fixed one (a KIND, a pool), n a name, s a number up to 2^31 - 1, a any number.
func specs() []string {
	return []string{
		"c:graph n:g", "c:pack n:g", "c:words s:0 a:1 a:2", "c:picks s:1 s:2", "c:run n:g f:from a:1", "c:step s:1", "c:finish", "c:live n:g f:from a:1", "c:serial n:g f:from a:1",
		"c:labels", "c:path a:1", "c:view", "c:check", "c:voucher", "c:history", "c:ranks", "c:log s:1", "c:dump n:g", "c:stats n:g", "c:strong n:g",
		"c:seek n:g f:from a:1 f:to a:2", "c:ladder n:g f:from a:1 f:to a:2",
		"c:plan f:sum f:workers s:1 f:pool f:multi f:per s:1 f:cap s:1 f:arity s:2 f:in s:0 f:out s:1 f:stick s:1 f:tries s:1 f:seed a:0",
		"c:plan f:hops f:workers s:1 f:pool f:ring f:cap s:1 f:seed a:0",
		"c:plan f:max f:workers s:1 f:pool f:steal f:cap s:1 f:tries s:1 f:seed a:0",
		"c:plan f:label f:workers s:1 f:pool f:bucket f:slots s:1 f:cap s:1 f:width a:1 f:seed a:0",
	}
}

// wrong are words that may not stand where another is to be, by that one's class, with the error.
func wrong(class byte) map[string]api.Errno {
	switch class {
	case 'c':
		return map[string]api.Errno{"x": api.ErrCommand, "end": api.ErrCommand, "View": api.ErrCommand, "view,": api.ErrCommand, "1": api.ErrCommand, "keep": api.ErrCommand, "points": api.ErrCommand, "\xff": api.ErrCommand}
	case 'f':
		return map[string]api.Errno{"x": api.ErrToken, "From": api.ErrToken, "froms": api.ErrToken, "1": api.ErrToken, "summ": api.ErrToken, "rin": api.ErrToken, "#": api.ErrToken, "\x00": api.ErrToken, "end": api.ErrToken}
	case 'n':
		return map[string]api.Errno{"a/b": api.ErrName, "g,": api.ErrName, longName + "x": api.ErrName, "\u00e4": api.ErrName, "g\x00": api.ErrName, "#g": api.ErrName, "a\rb": api.ErrName, "@": api.ErrName, "[": api.ErrName, "`": api.ErrName, "{": api.ErrName, "/": api.ErrName, ":": api.ErrName, "\x7f": api.ErrName}
	}
	out := map[string]api.Errno{"x": api.ErrDigits, "01": api.ErrDigits, "00": api.ErrDigits, "-1": api.ErrDigits, "+1": api.ErrDigits, "1x": api.ErrDigits, "0x1": api.ErrDigits, "1_0": api.ErrDigits, "#": api.ErrDigits, "18446744073709551616": api.ErrLong, "99999999999999999999999": api.ErrLong, "018446744073709551616": api.ErrDigits}
	if class == 's' {
		out["2147483648"], out["18446744073709551615"] = api.ErrSize, api.ErrSize
	}
	return out
}

// wordsOf are the words of a spec, and what each is to be.
func wordsOf(spec string) (words, classes []string) {
	for _, w := range strings.Fields(spec) {
		class, word, _ := strings.Cut(w, ":")
		words, classes = append(words, word), append(classes, class)
	}
	return words, classes
}

// wantFaultIn wants a line refused at a byte, as it is and within texts.
func wantFaultIn(t *testing.T, line string, e api.Errno, at int) {
	t.Helper()
	wantFault(t, line, e, 1, at, 0)
	wantFault(t, line+"\n", e, 1, at, 0)
	wantFault(t, line+" \t\r\r\nview\nend\n", e, 1, at, 0)
	wantFault(t, "view\n#\n\t view\r\n\r\n \t"+line+"\nend\nnonsense", e, 5, at+2, 2)
}

func TestWrongWords(t *testing.T) {
	for _, spec := range specs() {
		words, classes := wordsOf(spec)
		for i := range words {
			ahead := strings.Join(words[:i], "  ")
			at := len(ahead) + 3
			if i == 0 {
				at = 1
			}
			for w, e := range wrong(classes[i][0]) {
				if i == 0 && w[0] == '#' {
					continue
				}
				line := ahead + strings.Repeat(" ", at-1-len(ahead)) + w
				wantFaultIn(t, line, e, at)
				wantFaultIn(t, line+" x", e, at)
				wantFaultIn(t, line+"\t"+strings.Join(words[i+1:], " "), e, at)
			}
		}
	}
}

// TestBytesOfNames looks at every byte, alone and within a name.
func TestBytesOfNames(t *testing.T) {
	const letters = "ABCDEFGHIJKLMNOPQRSTUVWXYZabcdefghijklmnopqrstuvwxyz0123456789-_."
	for b := range 256 {
		c := string([]byte{byte(b)})
		switch {
		case strings.Contains(" \t\n", c):
			continue
		case strings.Contains(letters, c):
			wantOrders(t, "stats "+c, api.Order{Kind: api.JobStats, Line: 1, Name: c})
			wantOrders(t, "stats x"+c+"y", api.Order{Kind: api.JobStats, Line: 1, Name: "x" + c + "y"})
		default:
			wantFault(t, "stats "+c, api.ErrName, 1, 7, 0)
			wantFault(t, "stats x"+c+"y\n", api.ErrName, 1, 7, 0)
			wantUnsaid(t, "a name that is none", api.Order{Kind: api.JobStats, Name: c})
		}
	}
}

func TestMissingWords(t *testing.T) {
	for _, spec := range specs() {
		words, _ := wordsOf(spec)
		last := len(words)
		switch words[0] { // these may end behind any word
		case "words":
			last = 2
		case "picks":
			last = 1
		}
		for i := 1; i < last; i++ {
			line := strings.Join(words[:i], " ")
			wantFaultIn(t, line, api.ErrLine, len(line)+1)
		}
	}
	wantFault(t, "  stats  ", api.ErrLine, 1, 8, 0)
	wantFault(t, "run\tg\tfrom\t", api.ErrLine, 1, 11, 0)
}

func TestWordsTooMany(t *testing.T) {
	for _, spec := range specs() {
		words, _ := wordsOf(spec)
		line := strings.Join(words, " ")
		for _, more := range []string{"x", "1", "end", "#", "from", "keeps"} {
			e := api.ErrLine
			switch {
			case words[0] == "words" || words[0] == "picks":
				e = api.ErrDigits
			case words[0] == "plan":
				e = api.ErrToken
			}
			if e == api.ErrDigits && more == "1" {
				continue
			}
			wantFaultIn(t, line+" "+more, e, len(line)+2)
			wantFaultIn(t, line+"\t\t"+more+" y", e, len(line)+3)
			if words[0] == "plan" {
				wantFaultIn(t, line+" keep "+more, api.ErrLine, len(line)+7)
			}
		}
		if words[0] == "plan" {
			wantFaultIn(t, line+" keep keep", api.ErrLine, len(line)+7)
		}
	}
}

func TestWordsOfOtherPools(t *testing.T) {
	for _, c := range []struct {
		text string
		at   int
	}{
		{"plan sum workers 1 pool ring cap 2 tries 1 seed 0", 36},
		{"plan sum workers 1 pool ring seed 0", 30},
		{"plan sum workers 1 pool steal cap 2 seed 0", 37},
		{"plan sum workers 1 pool steal tries 1 cap 2 seed 0", 31},
		{"plan sum workers 1 pool bucket cap 2 slots 1 width 1 seed 0", 32},
		{"plan sum workers 1 pool bucket slots 1 cap 2 seed 0", 46},
		{"plan sum workers 1 pool multi cap 2 seed 0", 31},
		{"plan sum workers 1 ring cap 2 seed 0", 20},
		{"plan workers 1 pool ring cap 2 seed 0", 6},
		{"plan sum pool ring cap 2 seed 0", 10},
	} {
		wantFaultIn(t, c.text, api.ErrToken, c.at)
	}
}

// TestBoundOfNumbers: just at 2^31 - 1 and one above, where it counts and where it does not.
func TestBoundOfNumbers(t *testing.T) {
	for _, spec := range specs() {
		words, classes := wordsOf(spec)
		for i, class := range classes {
			if class != "s" && class != "a" {
				continue
			}
			with := func(n string) string {
				l := append([]string{}, words...)
				l[i] = n
				return strings.Join(l, " ")
			}
			tail := ""
			if words[0] == "graph" || words[0] == "pack" {
				tail = "\nend"
			}
			if _, e, _, _ := job.Read(with("2147483647") + tail); e != api.OK {
				t.Errorf("J1: Read(%q): %d", with("2147483647"), e)
			}
			_, e, line, at := job.Read(with("2147483648") + tail)
			begin := len(strings.Join(words[:i], " ")) + 2
			if class == "a" && e != api.OK || class == "s" && (e != api.ErrSize || line != 1 || at != begin) {
				t.Errorf("J1: Read(%q): %d, %d, %d", with("2147483648"), e, line, at)
			}
		}
	}
}

// TestCommandsAhead: those ahead of a fault are told whole.
func TestCommandsAhead(t *testing.T) {
	for _, r := range rows() {
		for _, s := range []string{"x", "view x", "graph h\n", "graph h\np sp 1 0\n", "picks 1 x", "plan sum"} {
			j, e, _, _ := job.Read(r.text + "\nwords 1 2\n" + s + "\nview")
			first, second := r.order, api.Order{Kind: api.JobWords, Nums: []uint64{1, 2}}
			first.Line, second.Line = 1, 2+strings.Count(r.text, "\n")
			if e == api.OK || !alike(j.Orders, []api.Order{first, second}) {
				t.Errorf("J1: ahead of %q: %v, %d", s, j, e)
			}
		}
	}
}
