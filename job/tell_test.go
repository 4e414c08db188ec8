package job_test

import (
	"encoding/hex"
	"fmt"
	"strings"
	"testing"

	"wayfare/api"
	"wayfare/job"
	"wayfare/pack"
)

func TestQuestionsOfAGraphThatIsNotKnown(t *testing.T) {
	for _, ask := range []string{"dump h", "stats h", "strong h", "seek h from 0 to 9", "ladder h from 0 to 9", "dump G"} {
		wantRun(t, "J4", ask, "error 1 1 name\n")
		behind(t, "J4", little(), ask, "error 7 1 name\n")
		behind(t, "J4", little(), "plan label workers 1 pool ring cap 2 seed 0\n"+ask, "error 8 1 name\n")
	}
}

func TestStats(t *testing.T) {
	for _, c := range [][2]string{
		{"p sp 0 0", "0 0 0 0 0"},
		{"p sp 1 0", "1 0 0 1 0"},
		{"p sp 1 2\na 1 1 0\na 1 1 4294967295", "1 2 2 1 4294967295"},
		{"p sp 4 3\na 2 1 3\na 2 3 9\na 3 4 1", "4 3 2 1 9"},
		{"p sp 4 3\na 1 2 3\na 2 1 9\na 4 1 1", "4 3 1 2 9"},
		{"p sp 3 2\na 3 2 0\na 3 1 0", "3 2 2 1 0"},
	} {
		got := job.Run("graph g-1\n" + c[0] + "\nend\nstats g-1")
		if _, last, _ := strings.Cut(got, "\n"); last != "stats g-1 "+c[1]+"\n" {
			t.Errorf("J4, JobStats: %q: %q", c[0], got)
		}
	}
}

func TestStrong(t *testing.T) {
	for _, c := range [][2]string{
		{"p sp 0 0", "strong g 0\norder\n"},
		{"p sp 1 0", "strong g 1\n1 1\norder 1\n"},
		{"p sp 1 1\na 1 1 5", "strong g 1\n1 1\ncircle\n"},
		{"p sp 3 1\na 3 1 5", "strong g 3\n1 1\n2 2\n3 3\norder 2 3 1\n"},
		{"p sp 5 6\na 1 2 3\na 2 3 1\na 3 2 4\na 3 5 9\na 2 5 2\na 4 4 0", "strong g 4\n1 1\n2 2\n3 2\n4 3\n5 4\ncircle\n"},
		{"p sp 4 4\na 1 2 1\na 2 3 1\na 3 1 1\na 4 1 1", "strong g 2\n1 1\n2 1\n3 1\n4 2\ncircle\n"},
	} {
		got := job.Run("graph g\n" + c[0] + "\nend\nstrong g")
		if _, rest, _ := strings.Cut(got, "\n"); rest != c[1] {
			t.Errorf("J4, JobStrong: %q: %q, want %q", c[0], got, c[1])
		}
	}
}

func TestSeek(t *testing.T) {
	graph := text("graph g", "p sp 4 4", "a 1 2 5", "a 1 3 1", "a 2 3 0", "a 3 2 2", "end", "graph none", "p sp 0 0", "end")
	for _, c := range [][2]string{
		{"seek g from 1 to 2", "seek 3 guided 3\n"},
		{"seek g from 2 to 2", "seek 0 guided 0\n"},
		{"seek g from 4 to 4", "seek 0 guided 0\n"},
		{"seek g from 0 to 1", "error 11 1 vertex\n"},
		{"seek g from 1 to 0", "error 11 1 vertex\n"},
		{"seek g from 5 to 1", "error 11 1 vertex\n"},
		{"seek g from 1 to 5", "error 11 1 vertex\n"},
		{"seek g from 18446744073709551615 to 1", "error 11 1 vertex\n"},
		{"seek g from 1 to 18446744073709551615", "error 11 1 vertex\n"},
		{"seek none from 1 to 1", "error 11 1 vertex\n"},
		{"seek g from 2 to 1", "error 11 1 reach\n"},
		{"seek g from 1 to 4", "error 11 1 reach\n"},
		{"plan hops workers 0 pool ring cap 0 seed 0\nseek g from 1 to 2", "seek 1\n"},
		{"plan max workers 0 pool ring cap 0 seed 0\nseek g from 1 to 2", "seek 2\n"},
		{"plan max workers 0 pool ring cap 0 seed 0\nseek g from 2 to 1", "error 12 1 reach\n"},
		{"plan label workers 1 pool ring cap 9 seed 0\nseek g from 1 to 2", "error 12 1 kind\n"},
		{"plan label workers 1 pool ring cap 9 seed 0\nseek g from 0 to 2", "error 12 1 vertex\n"},
		{"plan sum workers 0 pool ring cap 0 seed 0\nseek g from 1 to 3", "seek 1 guided 1\n"},
	} {
		behind(t, "J4, JobSeek", graph, c[0], c[1])
	}
}

func TestLadder(t *testing.T) {
	graph := text("graph g", "p sp 4 6", "a 1 2 1", "a 1 3 9", "a 2 3 1", "a 2 4 1", "a 3 4 1", "a 4 1 2", "end", "graph none", "p sp 0 0", "end", "graph lone", "p sp 2 1", "a 1 1 3", "end")
	for _, c := range [][2]string{
		{"ladder g from 1 to 4", "ladder 9 2 2\n"},
		{"ladder g from 4 to 2", "ladder 9 3 3\n"},
		{"ladder g from 3 to 3", "ladder 9 0 0\n"},
		{"ladder lone from 1 to 1", "ladder 0 0 0\n"},
		{"ladder lone from 1 to 2", "error 17 1 reach\n"},
		{"ladder none from 1 to 1", "error 17 1 vertex\n"},
		{"ladder g from 0 to 1", "error 17 1 vertex\n"},
		{"ladder g from 1 to 0", "error 17 1 vertex\n"},
		{"ladder g from 5 to 1", "error 17 1 vertex\n"},
		{"ladder g from 1 to 5", "error 17 1 vertex\n"},
		{"ladder g from 1 to 18446744073709551615", "error 17 1 vertex\n"},
		{"plan hops workers 0 pool ring cap 0 seed 0\nladder g from 4 to 3", "ladder 8 2 2\n"},
		{"plan max workers 0 pool ring cap 0 seed 0\nladder g from 1 to 3", "ladder 9 1 1\n"},
		{"plan label workers 1 pool ring cap 9 seed 0\nladder g from 1 to 1", "error 18 1 kind\n"},
		{"plan label workers 1 pool ring cap 9 seed 0\nladder g from 1 to 5", "error 18 1 vertex\n"},
	} {
		behind(t, "J4, JobLadder", graph, c[0], c[1])
	}
}

func TestLaddersThatAreTooGreat(t *testing.T) {
	great := "graph g\np sp 1025 0\nend\n"
	behind(t, "J4, JobLadder", great, "ladder g from 1025 to 1", "error 4 1 size\n")
	behind(t, "J4, JobLadder", great, "ladder g from 1026 to 1", "error 4 1 vertex\n")
	behind(t, "J4, JobLadder", great, "plan label workers 1 pool ring cap 9 seed 0\nladder g from 1 to 1", "error 5 1 size\n")
	behind(t, "J4, JobLadder", "graph g\np sp 1024 0\nend\n", "ladder g from 1024 to 1024", "ladder 0 0 0\n")
}

// dumped are the bytes that a dump tells.
func dumped(t *testing.T, report string) []byte {
	t.Helper()
	_, rest, _ := strings.Cut(report, "\ndump ")
	count, digits, _ := strings.Cut(rest, "\n")
	for i, l := range strings.Split(strings.TrimSuffix(digits, "\n"), "\n") {
		if last := strings.Count(digits, "\n") - 1; len(l) > 64 || len(l) == 0 || i < last && len(l) != 64 {
			t.Errorf("J4, JobDump: a line of %d digits", len(l))
		}
	}
	b, err := hex.DecodeString(strings.ReplaceAll(digits, "\n", ""))
	if err != nil || count != fmt.Sprint(len(b)) || strings.ToLower(digits) != digits {
		t.Errorf("J4, JobDump: %q: %v", report, err)
	}
	return b
}

func TestDump(t *testing.T) {
	lengths := map[int]bool{}
	for n := range 70 {
		s := path("g."+fmt.Sprint(n), n+1)
		b := dumped(t, job.Run(s+"dump g."+fmt.Sprint(n)))
		f, e, _ := pack.Decode(b)
		if e != api.OK || f.Name != "g."+fmt.Sprint(n) || len(f.Points) != 0 || len(f.Sources) != 0 || f.Graph.N != n+1 || len(f.Graph.To) != n {
			t.Errorf("J4, JobDump: %v, %d", f, e)
		}
		lengths[len(b)%32] = true
	}
	if !lengths[0] || !lengths[1] || !lengths[31] {
		t.Error("no dump ends with a whole line, or just one byte off")
	}
	wantRun(t, "J4, JobDump", "graph g\np sp 0 0\nend\ndump g",
		"graph g 0 0\ndump 94\n"+hexRows("5741590d0a1a0a000100", api.File{Name: "g", Graph: api.Graph{Start: []int{0}}}))
}

// hexRows are the bytes of a file, which begin with these, in rows.
func hexRows(begin string, f api.File) string {
	b, _ := pack.Encode(f)
	s := hex.EncodeToString(b)
	if !strings.HasPrefix(s, begin) {
		return "the container begins otherwise"
	}
	out := ""
	for ; len(s) > 64; s = s[64:] {
		out += s[:64] + "\n"
	}
	return out + s + "\n"
}
