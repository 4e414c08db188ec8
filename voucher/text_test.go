package voucher_test

import (
	"math"
	"math/rand/v2"
	"runtime"
	"slices"
	"strings"
	"testing"

	"wayfare/api"
	"wayfare/voucher"
)

func TestShow(t *testing.T) {
	const top = never - 1
	for i, c := range []struct {
		v    api.Voucher
		want string
		e    api.Errno
	}{
		{made([]uint64{0, 3, 1, never}, []int{-1, 2, 1, -1}, []int{0, 2, 1, 0}), "p voucher 4\nv 1 0\nv 2 3 3 2\nv 3 1 2 1\nv 4 inf\n", api.OK},
		{api.Voucher{}, "p voucher 0\n", api.OK},
		{made([]uint64{}, []int{}, []int{}), "p voucher 0\n", api.OK},
		{made([]uint64{never}, []int{0}, []int{0}), "p voucher 1\nv 1 inf 1 0\n", api.OK},
		{made([]uint64{top, 0}, []int{api.MaxEdges - 1, 0}, []int{math.MaxInt, api.MaxVertices}), "p voucher 2\nv 1 18446744073709551614 4194304 9223372036854775807\nv 2 0 1 1048576\n", api.OK},
		{made([]uint64{0}, nil, nil), "", api.ErrList},
		{made(nil, []int{-1}, nil), "", api.ErrList},
		{made(nil, nil, []int{0}), "", api.ErrList},
		{made([]uint64{0}, []int{-2}, nil), "", api.ErrList},
		{made([]uint64{0}, []int{-2}, []int{0, 0}), "", api.ErrList},
		{made([]uint64{0}, []int{-2}, []int{0}), "", api.ErrPlace},
		{made([]uint64{0}, []int{math.MinInt}, []int{-1}), "", api.ErrPlace},
		{made([]uint64{0}, []int{api.MaxEdges}, []int{0}), "", api.ErrPlace},
		{made([]uint64{0}, []int{math.MaxInt}, []int{-1}), "", api.ErrPlace},
		{made([]uint64{0}, []int{0}, []int{-1}), "", api.ErrOrder},
		{made([]uint64{0}, []int{0}, []int{math.MinInt}), "", api.ErrOrder},
		{made([]uint64{0}, []int{-1}, []int{1}), "", api.ErrOrder},
		{made([]uint64{0}, []int{-1}, []int{-1}), "", api.ErrOrder},
		{made([]uint64{0, 0, 0}, []int{-1, -1, -2}, []int{0, 1, 0}), "", api.ErrOrder},
		{made([]uint64{0, 0, 0}, []int{-1, -2, -1}, []int{0, 0, 1}), "", api.ErrPlace},
	} {
		if s, e := voucher.Show(c.v); s != c.want || e != c.e {
			t.Errorf("V4: %d: %q, %d, want %q, %d", i, s, e, c.want, c.e)
		}
	}
}

func TestShowAtItsSize(t *testing.T) {
	list := func(n int) api.Voucher {
		return made(make([]uint64, n), slices.Repeat([]int{-1}, n), make([]int, n))
	}
	v := list(api.MaxVertices)
	v.Labels[api.MaxVertices-1] = never
	s, e := voucher.Show(v)
	if e != api.OK || !strings.HasPrefix(s, "p voucher 1048576\nv 1 0\n") || !strings.HasSuffix(s, "\nv 1048576 inf\n") {
		t.Errorf("V4: as many vertices as there may be: %d", e)
	}
	if w, e, line, at := voucher.Read(s); !same(v, w) || e != api.OK || line != 0 || at != 0 {
		t.Errorf("V6: as many vertices as there may be: %d at %d, %d", e, line, at)
	}
	v = list(api.MaxVertices + 1)
	v.By[0] = -2
	if s, e := voucher.Show(v); s != "" || e != api.ErrSize {
		t.Errorf("V4: one vertex more: %d", e)
	}
	v.Depth = v.Depth[1:]
	if s, e := voucher.Show(v); s != "" || e != api.ErrList {
		t.Errorf("V4: one vertex more, unlike lengths: %d", e)
	}
}

// told is a text, and what Read answers.
type told struct {
	text     string
	e        api.Errno
	line, at int
}

func TestReadRefuses(t *testing.T) {
	const head = "p voucher 2\n"
	for _, c := range []told{
		// the head
		{"", api.ErrLine, 1, 1},
		{"\n", api.ErrLine, 2, 1},
		{"c only\n  ", api.ErrLine, 2, 3},
		{"c only", api.ErrLine, 1, 7},
		{"v 1 0", api.ErrToken, 1, 1},
		{"c\n\n  cc", api.ErrToken, 3, 3},
		{"P voucher 1", api.ErrToken, 1, 1},
		{"p", api.ErrLine, 1, 2},
		{"p \t", api.ErrLine, 1, 4},
		{"p vouchers 1", api.ErrToken, 1, 3},
		{"p c 1", api.ErrToken, 1, 3},
		{"p sp 1 1", api.ErrToken, 1, 3},
		{"p voucher", api.ErrLine, 1, 10},
		{"p voucher \nv 1 0", api.ErrLine, 1, 11},
		{"p voucher x", api.ErrDigits, 1, 11},
		{"p voucher 01", api.ErrDigits, 1, 11},
		{"p voucher -1", api.ErrDigits, 1, 11},
		{"p voucher inf", api.ErrDigits, 1, 11},
		{"p voucher 18446744073709551616", api.ErrLong, 1, 11},
		{"p voucher 1048577", api.ErrSize, 1, 11},
		{"p voucher 18446744073709551615 1", api.ErrSize, 1, 11},
		{"p voucher 1 1", api.ErrLine, 1, 13},
		{"p voucher 0 c", api.ErrLine, 1, 13},
		// the items
		{head + "p voucher 2", api.ErrToken, 2, 1},
		{head + "a 1 0", api.ErrToken, 2, 1},
		{head + "vv 1 0", api.ErrToken, 2, 1},
		{"p voucher 0\nv", api.ErrList, 2, 1},
		{"p voucher 0\na", api.ErrToken, 2, 1},
		{"p voucher 1\nv 1 0\n\n v x", api.ErrList, 4, 2},
		{"p voucher 1\nv 1 0\np voucher 1", api.ErrToken, 3, 1},
		{head + "v", api.ErrLine, 2, 2},
		{head + "v  \r", api.ErrLine, 2, 5},
		{head + "v x", api.ErrDigits, 2, 3},
		{head + "v 01 0", api.ErrDigits, 2, 3},
		{head + "v 18446744073709551616 0", api.ErrLong, 2, 3},
		{head + "v 0 0", api.ErrOrder, 2, 3},
		{head + "v 2 0", api.ErrOrder, 2, 3},
		{head + "v 1 0\nv 1 0", api.ErrOrder, 3, 3},
		{head + "v 1 0\nv 3 x", api.ErrOrder, 3, 3},
		{head + "v 18446744073709551615", api.ErrOrder, 2, 3},
		{head + "v 1", api.ErrLine, 2, 4},
		{head + "v 1 Inf", api.ErrDigits, 2, 5},
		{head + "v 1 infi", api.ErrDigits, 2, 5},
		{head + "v 1 -1", api.ErrDigits, 2, 5},
		{head + "v 1 00", api.ErrDigits, 2, 5},
		{head + "v 1 18446744073709551615", api.ErrLabel, 2, 5},
		{head + "v 1 18446744073709551615 x", api.ErrLabel, 2, 5},
		{head + "v 1 18446744073709551616", api.ErrLong, 2, 5},
		{head + "v 1 0 x", api.ErrDigits, 2, 7},
		{head + "v 1 0 c", api.ErrDigits, 2, 7},
		{head + "v 1 0 -1 1", api.ErrDigits, 2, 7},
		{head + "v 1 0 18446744073709551616", api.ErrLong, 2, 7},
		{head + "v 1 0 0 1", api.ErrPlace, 2, 7},
		{head + "v 1 0 0", api.ErrPlace, 2, 7},
		{head + "v 1 0 4194305", api.ErrPlace, 2, 7},
		{head + "v 1 0 18446744073709551615", api.ErrPlace, 2, 7},
		{head + "v 1 0 1", api.ErrLine, 2, 8},
		{head + "v 1 0 1 \t\nv 2 0", api.ErrLine, 2, 10},
		{head + "v 1 0 1 x", api.ErrDigits, 2, 9},
		{head + "v 1 0 1 00", api.ErrDigits, 2, 9},
		{head + "v 1 0 1 18446744073709551616", api.ErrLong, 2, 9},
		{head + "v 1 0 1 1048577", api.ErrSize, 2, 9},
		{head + "v 1 0 1 18446744073709551615 1", api.ErrSize, 2, 9},
		{head + "v 1 0 1 1 1", api.ErrLine, 2, 11},
		{head + "v 1 inf 1 0 c", api.ErrLine, 2, 13},
		{head + "v\u00a01 0", api.ErrToken, 2, 1},
		{head + "v 1 \xff", api.ErrDigits, 2, 5},
		{head + "\x00v 1 0", api.ErrToken, 2, 1},
		{head + "v 1 0\vv", api.ErrDigits, 2, 5},
		// the end
		{"p voucher 1", api.ErrList, 1, 12},
		{"p voucher 1\n", api.ErrList, 2, 1},
		{head + "v 1 0", api.ErrList, 2, 6},
		{head + "v 1 0\nc end", api.ErrList, 3, 6},
		{head + "v 1 0\n\n  ", api.ErrList, 4, 3},
	} {
		v, e, line, at := voucher.Read(c.text)
		if e != c.e || line != c.line || at != c.at {
			t.Errorf("V5: Read(%q) = %d at %d, %d, want %d at %d, %d", c.text, e, line, at, c.e, c.line, c.at)
		}
		if v.Labels != nil || v.By != nil || v.Depth != nil {
			t.Errorf("P0.2: Read(%q) = %v beside %d", c.text, v, e)
		}
	}
}

func TestRead(t *testing.T) {
	for _, c := range []struct {
		text string
		want api.Voucher
		show string
	}{
		{"p voucher 1\nv 1 inf 1 0", made([]uint64{never}, []int{0}, []int{0}), "p voucher 1\nv 1 inf 1 0\n"},
		{"p voucher 0", api.Voucher{}, "p voucher 0\n"},
		{"c p\n\n\t p  voucher\t0 \r\n\n c v\xff 1\r\n", api.Voucher{}, "p voucher 0\n"},
		{"p voucher 2\nv 1 0\nv 2 18446744073709551614 4194304 1048576\n", made([]uint64{0, never - 1}, []int{-1, api.MaxEdges - 1}, []int{0, api.MaxVertices}), "p voucher 2\nv 1 0\nv 2 18446744073709551614 4194304 1048576\n"},
		{"p voucher 2\r\n\r\n v 1  7\t1 1\r\nc v 2 0\nv\t2 inf  ", made([]uint64{7, never}, []int{0, -1}, []int{1, 0}), "p voucher 2\nv 1 7 1 1\nv 2 inf\n"},
	} {
		v, e, line, at := voucher.Read(c.text)
		if !same(v, c.want) || e != api.OK || line != 0 || at != 0 {
			t.Errorf("V5: Read(%q) = %v, %d at %d, %d, want %v", c.text, v, e, line, at, c.want)
		}
		if s, e := voucher.Show(v); s != c.show || e != api.OK {
			t.Errorf("V6: shown again: %q, %d, want %q", s, e, c.show)
		}
	}
}

func TestThereAndBack(t *testing.T) {
	dice := rand.New(rand.NewPCG(10, 3))
	for range 3000 {
		var v api.Voucher
		for range dice.IntN(8) {
			label, by, depth := dice.Uint64()>>dice.IntN(64), -1, 0
			if dice.IntN(4) == 0 {
				label = never
			}
			if dice.IntN(2) == 0 {
				by, depth = dice.IntN(api.MaxEdges), dice.IntN(api.MaxVertices+1)
			}
			v.Labels, v.By, v.Depth = append(v.Labels, label), append(v.By, by), append(v.Depth, depth)
		}
		text, e := voucher.Show(v)
		if e != api.OK {
			t.Fatalf("V4: %v: %d", v, e)
		}
		w, e, line, at := voucher.Read(text)
		if !same(v, w) || e != api.OK || line != 0 || at != 0 {
			t.Errorf("V6: %v as %q is %v, %d at %d, %d", v, text, w, e, line, at)
		}
	}
}

// pieces are words and blanks of which texts are made that make no sense.
var pieces = []string{"p", "voucher", "v", "c", "inf", "0", "1", "2", "3", "-1", "01", "18446744073709551615", "18446744073709551616", "4194305", "\n", "\n", "\nv 1 0\n", " ", "\t", "\r", "\x00", "\xff", "\u00a0"}

func TestTextsOfAnyBytes(t *testing.T) {
	dice := rand.New(rand.NewPCG(10, 4))
	for range 50000 {
		text := []string{"", "p voucher 2\n", "p voucher 1\nv 1 "}[dice.IntN(3)]
		for range dice.IntN(10) {
			text += pieces[dice.IntN(len(pieces))]
			if dice.IntN(2) == 0 {
				text += " "
			}
		}
		v, e, line, at := voucher.Read(text)
		lines := strings.Split(text, "\n")
		switch {
		case e == api.OK && (line != 0 || at != 0):
			t.Errorf("P0.7: %q: OK at %d, %d", text, line, at)
		case e == api.OK:
			if s, e := voucher.Show(v); e != api.OK || s != plain(text) {
				t.Errorf("V6: %q shown again: %q, %d", text, s, e)
			}
		case line < 1 || line > len(lines) || at < 1 || at > len(lines[line-1])+1 || !same(v, api.Voucher{}):
			t.Errorf("P0.1, P0.2, P0.7: %q = %v, %d at %d, %d", text, v, e, line, at)
		}
	}
}

// plain is a text without comments, empty lines and needless blanks.
func plain(text string) string {
	out := ""
	for _, line := range strings.Split(text, "\n") {
		words := strings.FieldsFunc(line, func(c rune) bool { return c == ' ' || c == '\t' || c == '\r' })
		if len(words) > 0 && words[0] != "c" {
			out += strings.Join(words, " ") + "\n"
		}
	}
	return out
}

func TestShortTextsMakeNoLongLists(t *testing.T) {
	var ahead, behind runtime.MemStats
	runtime.ReadMemStats(&ahead)
	voucher.Read("p voucher 1048576\nv 1 0\n")
	voucher.Make(api.Graph{N: api.MaxVertices}, api.KindSum, nil)
	voucher.Check(api.Graph{N: api.MaxVertices}, api.KindSum, nil, api.Voucher{})
	voucher.Check(small(), api.KindSum, nil, made(make([]uint64, 5), nil, nil))
	runtime.ReadMemStats(&behind)
	if n := behind.TotalAlloc - ahead.TotalAlloc; n > 1<<16 {
		t.Errorf("P0.9: short arguments take %d bytes", n)
	}
}
