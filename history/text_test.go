package history_test

import (
	"math"
	"math/rand"
	"slices"
	"strings"
	"testing"

	"wayfare/api"
	"wayfare/history"
	"wayfare/octet"
)

// wordsOf are the kinds' words.
var wordsOf = []string{"", "insert", "inserted", "take", "task", "empty", "full"}

func TestShow(t *testing.T) {
	for _, c := range []struct {
		events []api.Event
		want   string
	}{
		{nil, ""},
		{[]api.Event{}, ""},
		{exampleA(), "0 0 insert 5 1\n3 1 take\n6 0 inserted\n9 1 task 5 1\n9 1 take\n12 1 empty\n"},
		{[]api.Event{full(7)}, "0 7 full\n"},
		{[]api.Event{insert(0, 0, 0), task(0, 0, 0)}, "0 0 insert 0 0\n0 0 task 0 0\n"},
		{[]api.Event{insert(0, api.Never, 10), task(0, 10, api.Never)}, "0 0 insert 18446744073709551615 10\n0 0 task 10 18446744073709551615\n"},
		{[]api.Event{event(1000000000, 1000000000, api.EvTake), event(0, 0, api.EvTake)}, "1000000000 1000000000 take\n0 0 take\n"}, // no history
	} {
		if s, e := history.Show(c.events); s != c.want || e != api.OK {
			t.Errorf("H8: Show(%v) = %q, %d, want %q", c.events, s, e, c.want)
		}
	}
}

func TestShowRefused(t *testing.T) {
	for _, x := range []api.Event{
		event(-1, 0, api.EvTake), event(math.MinInt, 0, api.EvTake), event(1000000001, 0, api.EvTake), event(math.MaxInt, 0, api.EvInsert),
		event(0, -1, api.EvTake), event(0, math.MinInt, api.EvTake), event(0, 1000000001, api.EvTake), event(0, math.MaxInt, api.EvTask),
		event(0, 0, 0), event(0, 0, 7), event(0, 0, -1), event(0, 0, math.MaxInt), event(0, 0, math.MinInt),
		event(0, 0, api.EvInserted, 1, 0), event(0, 0, api.EvTake, 0, 1), event(0, 0, api.EvEmpty, 1, 1), event(0, 0, api.EvFull, 0, 1),
	} {
		for _, events := range [][]api.Event{{x}, {x, take(0)}, append(exampleA(), x), {event(0, 0, 0), x}} {
			if s, e := history.Show(events); s != "" || e != api.ErrEvents {
				t.Errorf("H8: Show(%v) = %q, %d", events, s, e)
			}
		}
	}
}

func wantRead(t *testing.T, text string, want ...api.Event) {
	t.Helper()
	if l, e, line, at := history.Read(text); !slices.Equal(l, want) || e != api.OK || line != 0 || at != 0 {
		t.Errorf("H9: Read(%q) = %v, %d, %d, %d, want %v", text, l, e, line, at, want)
	}
}

func wantFault(t *testing.T, text string, e api.Errno, line, at int) {
	t.Helper()
	if l, f, row, col := history.Read(text); l != nil || f != e || row != line || col != at {
		t.Errorf("H9: Read(%q) = %v, %d, %d, %d, want %d, %d, %d", text, l, f, row, col, e, line, at)
	}
}

func TestExampleF(t *testing.T) {
	wantRead(t, "0 1 insert 7 2\n12  1  inserted", event(0, 1, api.EvInsert, 7, 2), event(12, 1, api.EvInserted))
	wantFault(t, "0 1 put", api.ErrToken, 1, 5)
	wantFault(t, "0 1 insert 7", api.ErrLine, 1, 13)
	wantFault(t, "0 1 take 7", api.ErrLine, 1, 10)
	wantFault(t, "01 1 take", api.ErrDigits, 1, 1)
	wantFault(t, "0\n", api.ErrLine, 1, 2)
}

func TestRead(t *testing.T) {
	wantRead(t, "")
	wantRead(t, "\n")
	wantRead(t, "\n\n   \n ")
	wantRead(t, "0 0 take", take(0))
	wantRead(t, "0 0 take\n", take(0))
	wantRead(t, "\n  \n0 0 take\n\n \n0 1 full\n", take(0), full(1))
	wantRead(t, "   3  4   task    5 6   ", event(3, 4, api.EvTask, 5, 6))
	wantRead(t, "1000000000 1000000000 empty", event(1000000000, 1000000000, api.EvEmpty))
	wantRead(t, "0 0 insert 18446744073709551615 18446744073709551615", insert(0, api.Never, api.Never))
	for kind := 1; kind <= 6; kind++ {
		text := "1 2 " + wordsOf[kind]
		if kind == api.EvInsert || kind == api.EvTask {
			wantRead(t, text+" 0 0", event(1, 2, kind))
			wantFault(t, text, api.ErrLine, 1, len(text)+1)
			wantFault(t, text+" 0 0 0", api.ErrLine, 1, len(text)+6)
		} else {
			wantRead(t, text, event(1, 2, kind))
			wantFault(t, text+" 0", api.ErrLine, 1, len(text)+2)
		}
	}
	wantRead(t, "5 0 take\n4 0 take", event(5, 0, api.EvTake), event(4, 0, api.EvTake)) // no history
}

func TestReadRefused(t *testing.T) {
	for _, c := range []struct {
		text     string
		e        api.Errno
		line, at int
	}{
		// the first word
		{"x", api.ErrDigits, 1, 1}, {"  x 0 take", api.ErrDigits, 1, 3}, {"-1 0 take", api.ErrDigits, 1, 1}, {"+1 0 take", api.ErrDigits, 1, 1}, {"00 0 take", api.ErrDigits, 1, 1},
		{"18446744073709551616 0 take", api.ErrDigits, 1, 1}, {"18446744073709551615 0 take", api.ErrSize, 1, 1}, {"1000000001 x take", api.ErrSize, 1, 1}, {"99999999999999999999999 0 take", api.ErrDigits, 1, 1},
		// the second
		{"0 x put", api.ErrDigits, 1, 3}, {"0   01 put", api.ErrDigits, 1, 5}, {"0 1000000001 put", api.ErrSize, 1, 3}, {"0 18446744073709551616", api.ErrDigits, 1, 3}, {"0 4294967296 take", api.ErrSize, 1, 3},
		// the third
		{"0 0 takes", api.ErrToken, 1, 5}, {"0 0 Take", api.ErrToken, 1, 5}, {"0 0 tak", api.ErrToken, 1, 5}, {"0 0 3", api.ErrToken, 1, 5}, {"0 0 put x x x", api.ErrToken, 1, 5}, {"0 0   inserte 1 2", api.ErrToken, 1, 7},
		// the next two
		{"0 0 insert x", api.ErrDigits, 1, 12}, {"0 0 insert 1 x", api.ErrDigits, 1, 14}, {"0 0 task 18446744073709551616 1", api.ErrDigits, 1, 10}, {"0 0 task 1 18446744073709551616", api.ErrDigits, 1, 12}, {"0 0 task 01 1", api.ErrDigits, 1, 10}, {"0 0 task 1 00", api.ErrDigits, 1, 12},
		// a word is missing, with blanks at the end and without
		{"7", api.ErrLine, 1, 2}, {" 7  ", api.ErrLine, 1, 5}, {"7 7", api.ErrLine, 1, 4}, {"7 7 ", api.ErrLine, 1, 5}, {"7 7 \n", api.ErrLine, 1, 5}, {"0 0 insert", api.ErrLine, 1, 11}, {"0 0 task ", api.ErrLine, 1, 10}, {"0 0 task 1   ", api.ErrLine, 1, 14},
		// one too many
		{"0 0 take  x y", api.ErrLine, 1, 11}, {"0 0 insert 1 2  x", api.ErrLine, 1, 17}, {"0 0 take take", api.ErrLine, 1, 10},
		// other bytes that look like blanks are parts of words
		{"0\t0 take", api.ErrDigits, 1, 1}, {"0 0 take\t", api.ErrToken, 1, 5}, {"0 0 take\r\n", api.ErrToken, 1, 5}, {"\r\n", api.ErrDigits, 1, 1}, {"0 0 insert 1 2\r", api.ErrDigits, 1, 14}, {"0 0 take \r", api.ErrLine, 1, 10}, {"0\u00a00 take", api.ErrDigits, 1, 1}, {"\t", api.ErrDigits, 1, 1},
		// bytes that are no letters
		{"\x00", api.ErrDigits, 1, 1}, {"0 \xff\xfe 0", api.ErrDigits, 1, 3}, {"0 0 t\xe4ke", api.ErrToken, 1, 5}, {"0 0 \x00", api.ErrToken, 1, 5}, {"٣ 0 take", api.ErrDigits, 1, 1}, {"0 0 größe", api.ErrToken, 1, 5}, {"0 0 take ü", api.ErrLine, 1, 10},
		// lines from 1 on, those without words too
		{"0 0 take\n\n 0 0 put\n0 x", api.ErrToken, 3, 6}, {"0 0 take\n1000000001", api.ErrSize, 2, 1}, {"\n\n\n  1", api.ErrLine, 4, 4}, {"0 0 take\n0 0 put\nx", api.ErrToken, 2, 5},
	} {
		wantFault(t, c.text, c.e, c.line, c.at)
	}
}

// read is H9 once more, byte by byte.
func read(text string) ([]api.Event, api.Errno, int, int) {
	var out []api.Event
	for row, line := range strings.Split(text, "\n") {
		var words []string
		var cols []int
		for i := range len(line) {
			if line[i] == ' ' {
				continue
			}
			if i == 0 || line[i-1] == ' ' {
				words, cols = append(words, ""), append(cols, i+1)
			}
			words[len(words)-1] += line[i : i+1]
		}
		if len(words) == 0 {
			continue
		}
		var nums [5]uint64
		kind, want := 0, 5
		for i := 0; i < want; i++ {
			if i >= len(words) {
				return nil, api.ErrLine, row + 1, len(line) + 1
			}
			v, e := octet.Number(words[i])
			nums[i] = v
			switch {
			case i == 2:
				if kind = slices.Index(wordsOf, words[i]); kind < 1 {
					return nil, api.ErrToken, row + 1, cols[i]
				}
				if kind != api.EvInsert && kind != api.EvTask {
					want = 3
				}
			case e != api.OK:
				return nil, api.ErrDigits, row + 1, cols[i]
			case i < 2 && v > 1000000000:
				return nil, api.ErrSize, row + 1, cols[i]
			}
		}
		if len(words) > want {
			return nil, api.ErrLine, row + 1, cols[want]
		}
		out = append(out, event(int(nums[0]), int(nums[1]), kind, nums[3], nums[4]))
	}
	return out, api.OK, 0, 0
}

// TestAnyText: texts of words and blanks that may be right, with bytes that are not.
func TestAnyText(t *testing.T) {
	r := rand.New(rand.NewSource(11))
	pieces := []string{" ", "  ", "\n", "0 ", "1 ", "0 1 ", "12", "1000000000 ", "1000000001 ", "insert ", "task ", "take\n", "empty", "full", "inserted\n", "0 0 take\n", "3 4 insert 5 6\n", "x", "\t", "\xff", "18446744073709551615 ", "18446744073709551616 ", "\r"}
	var seen [100]int
	for range 40000 {
		var text strings.Builder
		for range r.Intn(8) {
			text.WriteString(pieces[r.Intn(len(pieces))])
		}
		l, e, line, at := history.Read(text.String())
		m, f, row, col := read(text.String())
		if !slices.Equal(l, m) || e != f || line != row || at != col {
			t.Fatalf("H9: Read(%q) = %v, %d, %d, %d, want %v, %d, %d, %d", text.String(), l, e, line, at, m, f, row, col)
		}
		seen[e]++
		if e == api.OK {
			wantBack(t, l)
		}
	}
	for _, e := range []api.Errno{api.OK, api.ErrDigits, api.ErrSize, api.ErrToken, api.ErrLine} {
		if seen[e] < 300 {
			t.Errorf("%d: only %d texts", e, seen[e])
		}
	}
}

// wantBack: what Show writes, Read reads.
func wantBack(t *testing.T, events []api.Event) {
	t.Helper()
	text, e := history.Show(events)
	if e != api.OK {
		t.Fatalf("H13: Show(%v) = %d", events, e)
	}
	l, e, line, at := history.Read(text)
	if !slices.Equal(l, events) || e != api.OK || line != 0 || at != 0 {
		t.Fatalf("H13: Read(%q) = %v, %d, %d, %d, want %v", text, l, e, line, at, events)
	}
	if again, _ := history.Show(l); again != text {
		t.Fatalf("H13: %q, and then %q", text, again)
	}
}

func TestThereAndBack(t *testing.T) {
	r := rand.New(rand.NewSource(12))
	wantBack(t, nil)
	wantBack(t, exampleA())
	for range 2000 {
		events := byChance(r, r.Intn(20), 1+r.Intn(4), 4)
		for i := range events {
			if r.Intn(4) == 0 {
				events[i].At, events[i].Who = r.Intn(1000000001), r.Intn(1000000001) // they need be no history
			}
			if events[i].Kind == api.EvInsert && r.Intn(4) == 0 {
				events[i].Task = pair(r.Uint64(), r.Uint64())
			}
		}
		wantBack(t, events)
	}
	wantBack(t, slices.Repeat(exampleA(), api.MaxEvents)) // more than are looked at
}

func FuzzRead(f *testing.F) {
	f.Add("0 1 insert 7 2\n12  1  inserted")
	f.Add("0 1 put")
	f.Add("1000000001 1 take\n")
	f.Fuzz(func(t *testing.T, text string) {
		l, e, line, at := history.Read(text)
		m, g, row, col := read(text)
		if !slices.Equal(l, m) || e != g || line != row || at != col {
			t.Fatalf("H9: Read(%q) = %v, %d, %d, %d, want %v, %d, %d, %d", text, l, e, line, at, m, g, row, col)
		}
	})
}
