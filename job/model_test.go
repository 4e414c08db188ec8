package job_test

import (
	"math/rand"
	"regexp"
	"strings"
	"testing"

	"wayfare/api"
	"wayfare/job"
	"wayfare/octet"
)

// forms are the table of commands: what stands behind the first word, its kind.
var forms = map[string]struct {
	form string
	kind int
}{
	"graph": {"NAME lines", api.JobGraph}, "pack": {"NAME lines", api.JobPack}, "plan": {"KIND workers N pool POOL", api.JobPlan}, "words": {"NUM WORDS", api.JobWords}, "picks": {"PICKS", api.JobPicks},
	"run": {"NAME from VERTEX", api.JobRun}, "step": {"NUM", api.JobStep}, "finish": {"", api.JobFinish}, "live": {"NAME from VERTEX", api.JobLive}, "serial": {"NAME from VERTEX", api.JobSerial},
	"labels": {"", api.JobLabels}, "path": {"VERTEX", api.JobPath}, "view": {"", api.JobView}, "check": {"", api.JobCheck}, "voucher": {"", api.JobVoucher}, "history": {"", api.JobHistory}, "ranks": {"", api.JobRanks},
	"log": {"NUM", api.JobLog}, "dump": {"NAME", api.JobDump}, "stats": {"NAME", api.JobStats}, "strong": {"NAME", api.JobStrong},
	"seek": {"NAME from VERTEX to VERTEX", api.JobSeek}, "ladder": {"NAME from VERTEX to VERTEX", api.JobLadder},
}

// poolForms are the plans' own words.
var poolForms = map[string]string{
	"multi":  "per N cap N arity N in N out N stick N tries N seed N",
	"ring":   "cap N seed N",
	"steal":  "cap N tries N seed N",
	"bucket": "slots N cap N width N seed N",
}

var (
	wordForm = regexp.MustCompile(`[^ \t]+`)
	nameForm = regexp.MustCompile(`^[A-Za-z0-9_.-]{1,32}$`)
	endForm  = regexp.MustCompile(`^[ \t]*end[ \t]*$`)
	lateForm = regexp.MustCompile("\r+\n")
)

// place is a word of a line, and the byte at which it begins.
type place struct {
	word string
	at   int
}

// told is what the chapter says of a text.
type told struct {
	orders   []api.Order
	e        api.Errno
	line, at int
}

// readTold is J1 word by word.
func readTold(text string) told {
	var out told
	lines := strings.Split(lateForm.ReplaceAllString(text, "\n"), "\n")
	if lines[len(lines)-1] == "" {
		lines = lines[:len(lines)-1]
	}
	for i := 0; i < len(lines); i++ {
		var words []place
		for _, at := range wordForm.FindAllStringIndex(lines[i], -1) {
			words = append(words, place{lines[i][at[0]:at[1]], at[0] + 1})
		}
		if len(words) == 0 || words[0].word[0] == '#' {
			continue
		}
		behind := place{"", words[len(words)-1].at + len(words[len(words)-1].word)}
		o := api.Order{Line: i + 1}
		f, known := forms[words[0].word]
		if !known {
			out.e, out.line, out.at = api.ErrCommand, i+1, words[0].at
			return out
		}
		o.Kind = f.kind
		e, at, hasLines := wordsTold(&o, f.form, words[1:], behind)
		if e != api.OK {
			out.e, out.line, out.at = e, i+1, at
			return out
		}
		if hasLines {
			for i++; i < len(lines) && !endForm.MatchString(lines[i]); i++ {
				o.Text += lines[i] + "\n"
			}
			if i >= len(lines) {
				out.e, out.line, out.at = api.ErrLine, len(lines)+1, 1
				return out
			}
		}
		out.orders = append(out.orders, o)
	}
	return out
}

// wordsTold holds the words of a line against a form, one by one.
func wordsTold(o *api.Order, form string, words []place, behind place) (api.Errno, int, bool) {
	want, hasLines, label := strings.Fields(form), false, ""
	for len(want) > 0 {
		w := want[0]
		want = want[1:]
		if w == "lines" {
			hasLines = true
			continue
		}
		if w == "PICKS" || w == "WORDS" {
			for range words {
				want = append(want, strings.TrimSuffix(w, "S"))
			}
			continue
		}
		if w == "KEEP" && len(words) == 0 {
			continue
		}
		if len(words) == 0 {
			return api.ErrLine, behind.at, false
		}
		e, more := wordTold(o, w, label, words[0].word)
		if e != api.OK {
			return e, words[0].at, false
		}
		label = words[0].word
		want, words = append(want, more...), words[1:]
	}
	if len(words) > 0 {
		return api.ErrLine, words[0].at, false
	}
	return api.OK, 0, hasLines
}

// wordTold takes one word, behind another one, as what it is to be; it tells what is to follow beside.
func wordTold(o *api.Order, want, label, word string) (api.Errno, []string) {
	v, bad := octet.Number(word)
	switch want {
	case "NAME":
		if !nameForm.MatchString(word) {
			return api.ErrName, nil
		}
		o.Name = word
	case "KIND":
		o.Plan.Kind = map[string]int{"sum": api.KindSum, "hops": api.KindHops, "max": api.KindMax, "label": api.KindLabel}[word]
		if o.Plan.Kind == 0 {
			return api.ErrToken, nil
		}
	case "POOL":
		o.Plan.Pool = map[string]int{"multi": api.PoolMulti, "ring": api.PoolRing, "steal": api.PoolSteal, "bucket": api.PoolBucket}[word]
		if o.Plan.Pool == 0 {
			return api.ErrToken, nil
		}
		return api.OK, append(strings.Fields(poolForms[word]), "KEEP")
	case "KEEP":
		if word != "keep" {
			return api.ErrToken, nil
		}
		o.Plan.Keep = true
	case "VERTEX", "WORD", "NUM", "PICK", "N":
		free := want == "VERTEX" || want == "WORD" || want == "N" && (label == "seed" || label == "width")
		switch {
		case bad != api.OK:
			return bad, nil
		case !free && v > 1<<31-1:
			return api.ErrSize, nil
		case want == "PICK":
			o.Picks = append(o.Picks, int(v))
		case want != "N":
			o.Nums = append(o.Nums, v)
		case label == "seed":
			o.Plan.Seed = v
		case label == "width":
			o.Plan.Width = v
		default:
			p := &o.Plan
			*map[string]*int{"workers": &p.Workers, "per": &p.Per, "cap": &p.Cap, "arity": &p.Arity, "in": &p.In, "out": &p.Out, "stick": &p.Stick, "tries": &p.Tries, "slots": &p.Slots}[label] = int(v)
		}
	default:
		if word != want {
			return api.ErrToken, nil
		}
	}
	return api.OK, nil
}

// pieces are what texts are put together of.
var pieces = []string{
	"graph", "pack", "plan", "words", "picks", "run", "step", "finish", "live", "serial", "labels", "path", "view", "check", "voucher", "history", "ranks", "log", "dump", "stats", "strong", "seek", "ladder",
	"end", "end", "from", "to", "workers", "pool", "keep", "sum", "ring", "cap", "seed", "g", "h", "0", "1", "2", "2147483647", "2147483648", "18446744073709551615", "18446744073709551616", "01", "x/y", "#", "#x",
	"\r", "\x00", "\xff", "p sp 1 0", longName, longName + "x",
	"run g from 1", "plan sum workers 1 pool ring cap 2 seed 0", "plan max workers 1 pool multi per 1 cap 2 arity 2 in 0 out 1 stick 1 tries 1 seed 0", "plan hops workers 1 pool steal cap 2 tries 1 seed 4", "plan label workers 1 pool bucket slots 1 cap 2 width 3 seed 4 keep", "words 0", "seek g from 1 to",
}

// gaps are what stands between pieces.
var gaps = []string{" ", " ", " ", "  ", "\t", "\n", "\n", "\n", "\n", "\r\n", "\r\r\n", "\n\n", " \n", "\n ", ""}

// someText is a text of pieces, some of them spoilt.
func someText(r *rand.Rand) string {
	var out strings.Builder
	for range r.Intn(14) {
		out.WriteString(pieces[r.Intn(len(pieces))])
		out.WriteString(gaps[r.Intn(len(gaps))])
	}
	b := []byte(out.String())
	if len(b) > 0 && r.Intn(6) == 0 {
		b[r.Intn(len(b))] = " \t\r\n#0gx\x00\xff"[r.Intn(10)]
	}
	return string(b)
}

// someLines is a text of whole commands, some of them spoilt.
func someLines(r *rand.Rand, all []row) string {
	var out strings.Builder
	for range r.Intn(6) {
		s := all[r.Intn(len(all))].text
		switch r.Intn(9) {
		case 0:
			s = strings.Replace(s, " ", gaps[r.Intn(len(gaps))], 1+r.Intn(3))
		case 1:
			words := strings.Split(s, " ")
			words[r.Intn(len(words))] = pieces[r.Intn(len(pieces))]
			s = strings.Join(words, " ")
		case 2:
			words := strings.Split(s, " ")
			s = strings.Join(words[:r.Intn(len(words)+1)], " ")
		case 3:
			s += " " + pieces[r.Intn(len(pieces))]
		case 4:
			words := strings.Split(s, " ")
			words[len(words)-1-r.Intn(min(2, len(words)))] = []string{"2147483648", "18446744073709551616", "01"}[r.Intn(3)]
			s = strings.Join(words, " ")
		}
		out.WriteString(s + []string{"\n", "\n", "\n", "\r\n", "\n#\n", "", " \n\n"}[r.Intn(7)])
	}
	return out.String()
}

func TestReadAsTold(t *testing.T) {
	r := rand.New(rand.NewSource(1))
	all := rows()
	seen := map[api.Errno]int{}
	for i := range 60000 {
		s := someText(r)
		if i%2 == 0 {
			s = someLines(r, all)
		}
		want := readTold(s)
		seen[want.e]++
		j, e, line, at := job.Read(s)
		if e != want.e || line != want.line || at != want.at || !alike(j.Orders, want.orders) {
			t.Fatalf("J1: Read(%q) = %v, %d, %d, %d, want %v", s, j, e, line, at, want)
		}
		if e == api.OK {
			text := show(t, j.Orders...)
			if k, e, _, _ := job.Read(text); e != api.OK || !alike(withoutLines(k.Orders), withoutLines(j.Orders)) {
				t.Fatalf("J3: %q is shown as %q, and read as %v, %d", s, text, k, e)
			}
		}
	}
	for _, e := range []api.Errno{api.OK, api.ErrCommand, api.ErrToken, api.ErrDigits, api.ErrLong, api.ErrName, api.ErrSize, api.ErrLine} {
		if seen[e] < 100 {
			t.Errorf("the error %d came up only %d times", e, seen[e])
		}
	}
}
