package pack_test

import (
	"bytes"
	"math/rand/v2"
	"runtime"
	"slices"
	"strings"
	"testing"

	"wayfare/api"
	"wayfare/octet"
	"wayfare/pack"
)

type wanted struct {
	name string
	b    []byte
	e    api.Errno
	at   int
}

func wantAll(t *testing.T, rule string, cases []wanted) {
	t.Helper()
	for _, c := range cases {
		was := bytes.Clone(c.b)
		f, e, at := pack.Decode(c.b)
		if e != c.e || at != c.at || e != api.OK && !nothing(f) {
			t.Errorf("%s: %s: %v, %d, %d, want %d, %d", rule, c.name, f, e, at, c.e, c.at)
		}
		if !bytes.Equal(c.b, was) {
			t.Errorf("P0.4: %s: the bytes have changed", c.name)
		}
	}
}

// turned is the example's container with the byte at a place turned into another.
func turned(t *testing.T, at int) []byte {
	b := encoded(t, example())
	b[at] ^= 0x10
	return b
}

func TestOpening(t *testing.T) {
	good := encoded(t, example())
	cases := []wanted{
		{"none", nil, api.ErrShort, 0},
		{"none, an empty list", []byte{}, api.ErrShort, 0},
		{"a wrong byte in three", []byte{0x57, 0x41, 0x58}, api.ErrMagic, 2},
		{"a wrong byte ahead of a short end", []byte{0x56, 0x41}, api.ErrMagic, 0},
		{"the magic alone", good[:8], api.ErrShort, 8},
		{"a byte of the version", good[:9], api.ErrShort, 8},
		{"a wrong byte of the version", []byte("WAY\r\n\x1a\n\x00\x02"), api.ErrShort, 8},
		{"the version 2", []byte("WAY\r\n\x1a\n\x00\x02\x00"), api.ErrVersion, 8},
		{"the version 0", []byte("WAY\r\n\x1a\n\x00\x00\x00"), api.ErrVersion, 8},
		{"the version 257", []byte("WAY\r\n\x1a\n\x00\x01\x01"), api.ErrVersion, 8},
		{"the version 256", []byte("WAY\r\n\x1a\n\x00\x00\x01"), api.ErrVersion, 8},
		{"no section", good[:10], api.ErrShort, 10},
	}
	for i := range 8 {
		cases = append(cases, wanted{"within the magic", good[:i], api.ErrShort, i}, wanted{"another magic", turned(t, i), api.ErrMagic, i})
	}
	wantAll(t, "K2", cases)
}

func TestHeads(t *testing.T) {
	good := encoded(t, example())
	cut := len(good)
	cases := []wanted{
		{"without its last byte", good[:cut-1], api.ErrShort, 115},
		{"without its last four", good[:cut-4], api.ErrShort, 115},
		{"without a byte of the last head", good[:cut-5], api.ErrShort, 103},
		{"without the last section", good[:103], api.ErrShort, 103},
		{"a byte of the head", good[:104], api.ErrShort, 103},
		{"a head without its content", good[:42], api.ErrShort, 42},
		{"a content without its sum", good[:44], api.ErrShort, 42},
		{"a sum without its last byte", good[:47], api.ErrShort, 42},
		{"a byte 0 behind", append(bytes.Clone(good), 0), api.ErrTail, 119},
		{"a section behind", append(bytes.Clone(good), good[103:]...), api.ErrTail, 119},
		{"the sum of a head is asked ahead of its tag", turned(t, 30), api.ErrSum, 30},
		{"the length of a head", turned(t, 34), api.ErrSum, 30},
		{"the sum of a head", turned(t, 38), api.ErrSum, 30},
		{"a content", turned(t, 42), api.ErrSum, 42},
		{"the sum of a content", turned(t, 44), api.ErrSum, 42},
		{"the sum of no content", turned(t, 115), api.ErrSum, 115},
		{"a content that is wrong and spoilt", spoiltContent(), api.ErrSum, 22},
	}
	head := "ROWS" + word4(0xffffffff)
	long := append(bytes.Clone(good[:30]), head+word4(octet.Crc([]byte(head)))...)
	cases = append(cases, wanted{"the longest content", append(long, good...), api.ErrShort, 42})
	wantAll(t, "K2", cases)
}

// spoiltContent has a first content that is refused, if its sum is not asked first.
func spoiltContent() []byte {
	b := container("HEAD\x80\x00")
	b[24] ^= 1
	return b
}

func TestOrder(t *testing.T) {
	contents := map[string]string{"HEAD": "HEAD\x01\x00\x00", "ROWS": "ROWS\x00", "ENDS": "ENDS", "WGTS": "WGTS", "SPOT": "SPOT\x00\x00", "FROM": "FROM\x01\x00", "DONE": "DONE", "MORE": "MORE", "head": "head\x01\x00\x00", "\x00\x00\x00\x00": "\x00\x00\x00\x00"}
	after := map[string][]string{"": {"HEAD"}, "HEAD": {"ROWS"}, "ROWS": {"ENDS"}, "ENDS": {"WGTS"}, "WGTS": {"SPOT", "FROM", "DONE"}, "SPOT": {"FROM", "DONE"}, "FROM": {"DONE"}}
	ways := [][]string{{"HEAD", "ROWS", "ENDS", "WGTS", "SPOT", "FROM"}, {"HEAD", "ROWS", "ENDS", "WGTS", "FROM"}, {"HEAD", "ROWS", "ENDS", "WGTS", "SPOT"}}
	for _, way := range ways {
		for n := range len(way) + 1 {
			ahead, sections := "", []string{}
			for _, tag := range way[:n] {
				ahead, sections = tag, append(sections, contents[tag])
			}
			at := len(container(sections...))
			for tag, content := range contents {
				b := container(append(slices.Clone(sections), content)...)
				c := wanted{ahead + " and " + tag, b, api.ErrSection, at}
				if slices.Contains(after[ahead], tag) {
					c.e, c.at = api.ErrShort, len(b) // what comes next is missed
				}
				if tag == "DONE" && c.e == api.ErrShort {
					c.e, c.at = api.OK, 0
				}
				wantAll(t, "K2", []wanted{c})
			}
		}
	}
	head := "MORE" + word4(0xffffffff)
	wantAll(t, "K2: the tag ahead of the length", []wanted{{"MORE", []byte(opening + head + word4(octet.Crc([]byte(head)))), api.ErrSection, 10}})
}

func TestHeadContent(t *testing.T) {
	name := strings.Repeat("n", 255)
	wantAll(t, "K3: HEAD", []wanted{
		{"nothing", container("HEAD"), api.ErrShort, 22},
		{"N alone", container("HEAD\x00"), api.ErrShort, 23},
		{"N and M alone", container("HEAD\x00\x00"), api.ErrShort, 24},
		{"a number cut off", container("HEAD\x00\x80"), api.ErrShort, 23},
		{"a number cut off, though bytes follow", container("HEAD\x00\x00\x80", "ROWS"), api.ErrShort, 24},
		{"a loose N", container("HEAD\x80\x00"), api.ErrLoose, 22},
		{"a loose M", container("HEAD\x00\x81\x00"), api.ErrLoose, 23},
		{"a loose length", container("HEAD\x00\x00\x80\x80\x00"), api.ErrLoose, 24},
		{"a long N", container("HEAD" + strings.Repeat("\xff", 9) + "\x02"), api.ErrLong, 22},
		{"the greatest N", container("HEAD" + strings.Repeat("\xff", 9) + "\x01"), api.ErrSize, 22},
		{"N one too many", container("HEAD\x81\x80\x40"), api.ErrSize, 22},
		{"N at its limit", container("HEAD\x80\x80\x40"), api.ErrShort, 25},
		{"M one too many", container("HEAD\x00\x81\x80\x80\x02"), api.ErrSize, 23},
		{"M at its limit", container("HEAD\x00\x80\x80\x80\x02"), api.ErrShort, 27},
		{"a length of 256", container("HEAD\x00\x00\x80\x02" + name + "n"), api.ErrSize, 24},
		{"a length of 255", container("HEAD\x00\x00\xff\x01" + name), api.ErrShort, 10 + 16 + 4 + 255},
		{"a short name", container("HEAD\x00\x00\x02a"), api.ErrShort, 25},
		{"a short long name", container("HEAD\x00\x00\xff\x01" + name[1:]), api.ErrShort, 26},
		{"a byte behind", container("HEAD\x00\x00\x00\x00"), api.ErrTail, 25},
		{"a byte behind the name", container("HEAD\x00\x00\x01ab"), api.ErrTail, 26},
		{"N ahead of what is missed", container("HEAD\x81\x80\x40\x80"), api.ErrSize, 22},
	})
}

func TestRowsContent(t *testing.T) {
	head := "HEAD\x02\x03\x00" // 2 vertices, 3 edges; the content of ROWS is at 41
	wantAll(t, "K3: ROWS", []wanted{
		{"nothing", container(head, "ROWS"), api.ErrShort, 41},
		{"one number", container(head, "ROWS\x03"), api.ErrShort, 42},
		{"a number cut off", container(head, "ROWS\x01\x80"), api.ErrShort, 42},
		{"a loose number", container(head, "ROWS\x01\x82\x00"), api.ErrLoose, 42},
		{"a long number", container(head, "ROWS\x01"+strings.Repeat("\x80", 10)), api.ErrLong, 42},
		{"one above", container(head, "ROWS\x04\x00"), api.ErrRows, 41},
		{"both above", container(head, "ROWS\x02\x02"), api.ErrRows, 42},
		{"a sum that would wrap", container(head, "ROWS\x01"+strings.Repeat("\xff", 9)+"\x01"), api.ErrRows, 42},
		{"a number that looks below 0", container(head, "ROWS\x01"+strings.Repeat("\x80", 9)+"\x01"), api.ErrRows, 42},
		{"below", container(head, "ROWS\x02\x00"), api.ErrRows, 41},
		{"below, and a byte behind", container(head, "ROWS\x02\x00\x01"), api.ErrRows, 41},
		{"a byte behind", container(head, "ROWS\x02\x01\x00"), api.ErrTail, 43},
		{"right", container(head, "ROWS\x00\x03"), api.ErrShort, 47},
		{"edges of no vertices", container("HEAD\x00\x01\x00", "ROWS"), api.ErrRows, 41},
		{"edges of no vertices, and a byte behind", container("HEAD\x00\x01\x00", "ROWS\x00"), api.ErrRows, 41},
		{"a byte of no vertices", container("HEAD\x00\x00\x00", "ROWS\x00"), api.ErrTail, 41},
	})
}

func TestEndsContent(t *testing.T) {
	head, rows := "HEAD\x03\x03\x00", "ROWS\x00\x02\x01" // the content of ENDS is at 60
	least := strings.Repeat("\xff", 9) + "\x01"          // -2^63
	most := "\xfe" + strings.Repeat("\xff", 8) + "\x01"  // 2^63 - 1
	wantAll(t, "K3: ENDS", []wanted{
		{"nothing", container(head, rows, "ENDS"), api.ErrShort, 60},
		{"two numbers", container(head, rows, "ENDS\x00\x00"), api.ErrShort, 62},
		{"a loose number", container(head, rows, "ENDS\x00\x80\x00"), api.ErrLoose, 61},
		{"a long number", container(head, rows, "ENDS"+strings.Repeat("\xff", 10)), api.ErrLong, 60},
		{"below 0", container(head, rows, "ENDS\x03\x00\x00"), api.ErrVertex, 60},
		{"N", container(head, rows, "ENDS\x04\x00\x00"), api.ErrVertex, 60},
		{"0 and N - 1", container(head, rows, "ENDS\x01\x04\x03"), api.ErrShort, 67},
		{"the second above", container(head, rows, "ENDS\x02\x02\x00"), api.ErrVertex, 61},
		{"the second below", container(head, rows, "ENDS\x01\x01\x00"), api.ErrVertex, 61},
		{"the first of a row goes by its vertex", container(head, rows, "ENDS\x01\x00\x02"), api.ErrVertex, 62},
		{"the first of a row goes by its vertex, right", container(head, rows, "ENDS\x02\x00\x03"), api.ErrShort, 67},
		{"the least", container(head, rows, "ENDS"+least), api.ErrVertex, 60},
		{"the most", container(head, rows, "ENDS"+most), api.ErrVertex, 60},
		{"the most behind one", container(head, rows, "ENDS\x02"+most), api.ErrVertex, 61},
		{"2^62", container(head, rows, "ENDS"+strings.Repeat("\x80", 9)+"\x01"), api.ErrVertex, 60},
		{"a byte behind", container(head, rows, "ENDS\x00\x00\x00\x00"), api.ErrTail, 63},
	})
}

func TestWeightsContent(t *testing.T) {
	head, rows, ends := "HEAD\x01\x02\x00", "ROWS\x02", "ENDS\x00\x00" // the content of WGTS is at 76
	wantAll(t, "K3: WGTS", []wanted{
		{"nothing", container(head, rows, ends, "WGTS"), api.ErrShort, 76},
		{"one", container(head, rows, ends, "WGTS\x05"), api.ErrShort, 77},
		{"a loose one", container(head, rows, ends, "WGTS\x85\x00\x05"), api.ErrLoose, 76},
		{"a long one", container(head, rows, ends, "WGTS\x05"+strings.Repeat("\xff", 10)), api.ErrLong, 77},
		{"the greatest", container(head, rows, ends, "WGTS\xff\xff\xff\xff\x0f\x00", "DONE"), api.OK, 0},
		{"one above", container(head, rows, ends, "WGTS\x00\x80\x80\x80\x80\x10", "DONE"), api.ErrWeight, 77},
		{"the greatest word", container(head, rows, ends, "WGTS"+strings.Repeat("\xff", 9)+"\x01\x00", "DONE"), api.ErrWeight, 76},
		{"a byte behind", container(head, rows, ends, "WGTS\x00\x00\x00"), api.ErrTail, 78},
	})
}

func TestOtherContents(t *testing.T) {
	ahead := []string{"HEAD\x02\x00\x00", "ROWS\x00\x00", "ENDS", "WGTS"} // the next content is at 91
	with := func(more ...string) []byte { return container(append(slices.Clone(ahead), more...)...) }
	empty := []string{"HEAD\x00\x00\x00", "ROWS", "ENDS", "WGTS"} // the next content is at 89
	none := func(more ...string) []byte { return container(append(slices.Clone(empty), more...)...) }
	wantAll(t, "K3: SPOT", []wanted{
		{"nothing", with("SPOT", "DONE"), api.ErrShort, 91},
		{"an X alone", with("SPOT\x00", "DONE"), api.ErrShort, 92},
		{"a vertex alone", with("SPOT\x00\x00", "DONE"), api.ErrShort, 93},
		{"a loose number", with("SPOT\x00\x00\x00\x80\x00", "DONE"), api.ErrLoose, 94},
		{"a long number", with("SPOT\x00"+strings.Repeat("\xff", 10), "DONE"), api.ErrLong, 92},
		{"a byte behind", with("SPOT\x00\x00\x00\x00\x00", "DONE"), api.ErrTail, 95},
		{"right", with("SPOT\x00\x00\x00\x00", "DONE"), api.OK, 0},
		{"of no vertices", none("SPOT", "DONE"), api.ErrList, 89},
		{"a byte of no vertices", none("SPOT\x00", "DONE"), api.ErrList, 89},
	})
	wantAll(t, "K3: FROM", []wanted{
		{"nothing", with("FROM", "DONE"), api.ErrShort, 91},
		{"the count 0", with("FROM\x00", "DONE"), api.ErrList, 91},
		{"the count 0, and a byte behind", with("FROM\x00\x00", "DONE"), api.ErrList, 91},
		{"a loose count", with("FROM\x80\x00", "DONE"), api.ErrLoose, 91},
		{"a count too great", with("FROM\x81\x80\x40", "DONE"), api.ErrSize, 91},
		{"the greatest count", with("FROM"+strings.Repeat("\xff", 9)+"\x01", "DONE"), api.ErrSize, 91},
		{"a count at its limit", with("FROM\x80\x80\x40\x01", "DONE"), api.ErrShort, 95},
		{"too few", with("FROM\x02\x01", "DONE"), api.ErrShort, 93},
		{"no such vertex", with("FROM\x02\x01\x02", "DONE"), api.ErrVertex, 93},
		{"the greatest word", with("FROM\x01"+strings.Repeat("\xff", 9)+"\x01", "DONE"), api.ErrVertex, 92},
		{"a loose source", with("FROM\x01\x81\x00", "DONE"), api.ErrLoose, 92},
		{"a byte behind", with("FROM\x01\x01\x01", "DONE"), api.ErrTail, 93},
		{"right", with("FROM\x02\x01\x01", "DONE"), api.OK, 0},
		{"of no vertices", none("FROM\x01\x00", "DONE"), api.ErrVertex, 90},
	})
	wantAll(t, "K3: DONE", []wanted{
		{"a byte", with("DONE\x00"), api.ErrTail, 91},
		{"a byte, and another behind", append(with("DONE\x00"), 0), api.ErrTail, 91},
		{"right", none("DONE"), api.OK, 0},
	})
}

func TestEveryByteSpoilt(t *testing.T) {
	for _, f := range []api.File{example(), full()} {
		good := encoded(t, f)
		for at := range good {
			b := bytes.Clone(good)
			for x := 1; x < 256; x++ {
				b[at] = good[at] ^ byte(x)
				wantBroken(t, "K7: a byte", b)
			}
		}
		for n := range good {
			wantBroken(t, "K8: cut off", good[:n])
		}
	}
}

func wantBroken(t *testing.T, rule string, b []byte) {
	t.Helper()
	if f, e, at := pack.Decode(b); e == api.OK || at < 0 || at > len(b) || !nothing(f) {
		t.Errorf("%s: %x: %v, %d, %d", rule, b, f, e, at)
	}
}

func TestBursts(t *testing.T) {
	dice := rand.New(rand.NewPCG(8, 2))
	good := encoded(t, full())
	for first := range 8 * len(good) {
		for range 60 {
			burst := dice.Uint64()>>(32+dice.IntN(32)) | 1
			b := bytes.Clone(good)
			for i := range 32 {
				if at := first + i; at < 8*len(b) {
					b[at/8] ^= byte(burst>>i&1) << (at % 8)
				}
			}
			wantBroken(t, "K7", b)
		}
	}
}

// TestAnyBytes turns contents into others with right sums, so that all of a container is read.
func TestAnyBytes(t *testing.T) {
	dice := rand.New(rand.NewPCG(8, 3))
	right := 0
	for range 30000 {
		f := anyFile(dice)
		b := encoded(t, f)
		sections, _, _ := pack.Sections(b)
		parts := []string{}
		for _, s := range sections {
			content := bytes.Clone(b[s.At : s.At+s.Long])
			switch dice.IntN(12) {
			case 0:
				content = append(content, byte(dice.IntN(3)))
			case 1:
				content = content[:len(content)/2]
			case 2, 3:
				if len(content) > 0 {
					content[dice.IntN(len(content))] = byte(dice.Uint32()) >> dice.IntN(8)
				}
			}
			if dice.IntN(40) > 0 {
				parts = append(parts, s.Tag+string(content))
			}
		}
		b = container(parts...)
		got, e, at := pack.Decode(b)
		if e != api.OK {
			if at < 0 || at > len(b) || !nothing(got) {
				t.Errorf("K8: %x: %v, %d, %d", b, got, e, at)
			}
			continue
		}
		right++
		if again, e := pack.Encode(got); at != 0 || e != api.OK || !bytes.Equal(again, b) {
			t.Errorf("K6, K8: %x is %v and %x, %d", b, got, again, e)
		}
	}
	if right < 1000 {
		t.Errorf("K8: only %d containers were right", right)
	}
	for range 20000 {
		b := make([]byte, dice.IntN(40))
		for i := range b {
			b[i] = byte(dice.Uint32())
		}
		wantBroken(t, "K8", b)
		if l, e, at := pack.Sections(b); e == api.OK || at < 0 || at > len(b) || l != nil {
			t.Errorf("K4: %x: %v, %d, %d", b, l, e, at)
		}
	}
}

func TestPromisesMakeNoLongLists(t *testing.T) {
	most, edges := "\x80\x80\x40", "\x80\x80\x80\x02"
	for _, b := range [][]byte{
		container("HEAD"+most+edges+"\x00", "ROWS\x00\x00"),
		container("HEAD\x01"+edges+"\x00", "ROWS"+edges, "ENDS\x00"),
		container("HEAD\x01\x00\x00", "ROWS\x00", "ENDS", "WGTS", "FROM"+most+"\x00"),
	} {
		var ahead, behind runtime.MemStats
		runtime.ReadMemStats(&ahead)
		_, e, _ := pack.Decode(b)
		runtime.ReadMemStats(&behind)
		if n := behind.TotalAlloc - ahead.TotalAlloc; e != api.ErrShort || n > 1<<15 {
			t.Errorf("K3: %x: %d, and takes %d bytes", b, e, n)
		}
	}
}
