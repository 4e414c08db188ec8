package pack_test

import (
	"bytes"
	"slices"
	"testing"

	"wayfare/api"
	"wayfare/octet"
	"wayfare/pack"
)

// wantSections looks that the sections of a container lie one behind the other and hold what it holds.
func wantSections(t *testing.T, b []byte) {
	t.Helper()
	l, e, at := pack.Sections(b)
	if e != api.OK || at != 0 {
		t.Errorf("K4: %x: %d, %d", b, e, at)
		return
	}
	place := 10
	for _, s := range l {
		place += 12
		if s.At != place || s.At+s.Long+4 > len(b) || s.Tag != string(b[s.At-12:s.At-8]) || s.Sum != octet.Crc(b[s.At:s.At+s.Long]) {
			t.Errorf("K9: %x: %v", b, s)
			return
		}
		place += s.Long + 4
	}
	if place != len(b) || l[len(l)-1].Tag != "DONE" {
		t.Errorf("K9: %x: the sections end at %d", b, place)
	}
}

func TestSections(t *testing.T) {
	b := encoded(t, example())
	wantSections(t, b)
	wantSections(t, encoded(t, full()))
	sum := func(content string) uint32 { return octet.Crc([]byte(content)) }
	want := []api.Section{
		{Tag: "HEAD", At: 22, Long: 4, Sum: sum("\x02\x02\x01g")},
		{Tag: "ROWS", At: 42, Long: 2, Sum: sum("\x02\x00")},
		{Tag: "ENDS", At: 60, Long: 2, Sum: sum("\x02\x01")},
		{Tag: "WGTS", At: 78, Long: 3, Sum: sum("\xac\x02\x00")},
		{Tag: "FROM", At: 97, Long: 2, Sum: sum("\x01\x01")},
		{Tag: "DONE", At: 115, Long: 0, Sum: 0},
	}
	if l, e, at := pack.Sections(b); e != api.OK || at != 0 || !slices.Equal(l, want) {
		t.Errorf("K4: %v, %d, %d", l, e, at)
	}
	b[42], b[26] = 9, 0xAB // a content, and the sum of another: neither is looked at
	want[0].Sum = want[0].Sum&^0xFF | 0xAB
	if l, e, at := pack.Sections(b); e != api.OK || at != 0 || !slices.Equal(l, want) {
		t.Errorf("K4: contents and their sums are not compared: %v, %d, %d", l, e, at)
	}
}

func TestSectionsOfWhatIsNoContainer(t *testing.T) {
	good := encoded(t, example())
	flip := func(at int) []byte {
		b := bytes.Clone(good)
		b[at] ^= 1
		return b
	}
	head := "MORE" + word4(0xffffffff)
	long := []byte(opening + section("HEAD", "x") + head + word4(octet.Crc([]byte(head))) + "rest")
	for _, c := range []struct {
		name string
		b    []byte
		tags []string
		e    api.Errno
		at   int
	}{
		{"nothing", nil, nil, api.ErrShort, 0},
		{"a part of the magic", good[:5], nil, api.ErrShort, 5},
		{"another magic", flip(7), nil, api.ErrMagic, 7},
		{"a part of the version", good[:9], nil, api.ErrShort, 8},
		{"another version", flip(9), nil, api.ErrVersion, 8},
		{"no section", good[:10], nil, api.ErrShort, 10},
		{"a part of a head", good[:21], nil, api.ErrShort, 10},
		{"a head alone", good[:22], nil, api.ErrShort, 22},
		{"a content without its sum", good[:29], nil, api.ErrShort, 22},
		{"one section", good[:30], []string{"HEAD"}, api.ErrShort, 30},
		{"a spoilt head", flip(30), []string{"HEAD"}, api.ErrSum, 30},
		{"a spoilt sum of a head", flip(71 + 4), []string{"HEAD", "ROWS", "ENDS"}, api.ErrSum, 66},
		{"without the last byte", good[:118], []string{"HEAD", "ROWS", "ENDS", "WGTS", "FROM"}, api.ErrShort, 115},
		{"a byte behind", append(bytes.Clone(good), 0), []string{"HEAD", "ROWS", "ENDS", "WGTS", "FROM", "DONE"}, api.ErrTail, 119},
		{"any tags", container("MORE\x01", "ROWS\xff\xff", "MORE", "\x00\x01\xff\n", "DONE"), []string{"MORE", "ROWS", "MORE", "\x00\x01\xff\n", "DONE"}, api.OK, 0},
		{"DONE first", container("DONE"), []string{"DONE"}, api.OK, 0},
		{"a DONE that has something", container("DONEx"), []string{"DONE"}, api.OK, 0},
		{"DONE in the middle", container("MORE\x01", "DONE", "HEAD"), []string{"MORE", "DONE"}, api.ErrTail, 43},
		{"no DONE", container("HEAD", "HEAD"), []string{"HEAD", "HEAD"}, api.ErrShort, 42},
		{"the longest content", long, []string{"HEAD"}, api.ErrShort, 39},
	} {
		l, e, at := pack.Sections(c.b)
		var tags []string
		for _, s := range l {
			tags = append(tags, s.Tag)
		}
		if e != c.e || at != c.at || !slices.Equal(tags, c.tags) {
			t.Errorf("K4: %s: %v, %d, %d, want %v, %d, %d", c.name, l, e, at, c.tags, c.e, c.at)
		}
	}
}

func TestSectionsAndDecodeAgree(t *testing.T) {
	good := encoded(t, full())
	heads := 0
	for at := range good {
		b := bytes.Clone(good)
		b[at] ^= 1
		_, e, place := pack.Decode(b)
		l, f, where := pack.Sections(b)
		if f != api.OK { // what Sections refuses, Decode refuses there
			heads++
			if e != f || place != where {
				t.Errorf("K4: the byte %d: %d, %d, and Decode: %d, %d", at, f, where, e, place)
			}
		} else if e != api.ErrSum || len(l) != 7 {
			t.Errorf("K4: the byte %d: Decode: %d, %d", at, e, place)
		}
	}
	if heads != 10+7*12 {
		t.Errorf("K4: %d bytes of the opening and the heads are looked at", heads)
	}
}
