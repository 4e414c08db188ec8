package job_test

import (
	"encoding/hex"
	"fmt"
	"strings"
	"testing"

	"wayfare/api"
	"wayfare/job"
	"wayfare/octet"
	"wayfare/pack"
)

// behind wants what a job answers behind what it answers without its last lines.
func behind(t *testing.T, promise, ahead, lines, want string) {
	t.Helper()
	wantRun(t, promise, ahead+lines, job.Run(ahead)+want)
}

// path is a graph of n vertices, one behind the other.
func path(name string, n int) string {
	var out strings.Builder
	fmt.Fprintf(&out, "graph %s\np sp %d %d\n", name, n, n-1)
	for v := 1; v < n; v++ {
		fmt.Fprintf(&out, "a %d %d 1\n", v, v+1)
	}
	return out.String() + "end\n"
}

func TestGraphs(t *testing.T) {
	for _, c := range [][2]string{
		{"graph g\np sp 0 0\nend", "graph g 0 0\n"},
		{"graph g\np sp 2 3\na 1 2 0\na 2 2 4294967295\na 1 2 7\nend", "graph g 2 3\n"},
		{"graph g\nc a remark\n\np sp 1 0\nend", "graph g 1 0\n"},
		{"graph g\np sp 1 0\nend\ngraph h\np sp 2 0\nend\ngraph G\np sp 3 0\nend", "graph g 1 0\ngraph h 2 0\ngraph G 3 0\n"},
		{"graph g\np sp 1 0\nend\ngraph g\nnonsense\nend\nview", "graph g 1 0\nerror 4 1 name\n"},
		{"graph g\nend", "error 1 1 line\n"},
		{"\n graph g\n# no remark\nend", "error 2 1 token\n"},
		{"graph g\np sp 1048577 0\nend", "error 1 1 size\n"},
		{"graph g\np sp 1 x\nend", "error 1 1 digits\n"},
		{"graph g\np sp 1 18446744073709551616\nend", "error 1 1 long\n"},
		{"graph g\np sp 1 1\na 1 2 0\nend", "error 1 1 vertex\n"},
		{"graph g\np sp 1 1\na 1 1 4294967296\nend", "error 1 1 weight\n"},
		{"graph g\np sp 1 1\nend", "error 1 1 list\n"},
	} {
		wantRun(t, "J4, JobGraph", c[0], c[1])
	}
}

// container are the bytes of a small graph, spoilt, as digits.
func container(t *testing.T, spoil func([]byte) []byte) string {
	t.Helper()
	b, e := pack.Encode(api.File{Name: "any", Graph: api.Graph{N: 2, Start: []int{0, 1, 1}, To: []int{1}, Weight: []uint64{9}}, Points: []api.Point{{X: 1, Y: 2}, {X: 3, Y: 4}}, Sources: []int{1}})
	if e != api.OK {
		t.Fatal(e)
	}
	if spoil != nil {
		b = spoil(b)
	}
	return hex.EncodeToString(b)
}

// sealed makes the sums of the first section right again.
func sealed(b []byte) []byte {
	w := octet.NewWriter()
	w.Bytes(b[10:18])
	w.Seal(0)
	copy(b[10:], w.Out())
	long := int(b[14])
	w = octet.NewWriter()
	w.Bytes(b[22 : 22+long])
	w.Seal(0)
	copy(b[22:], w.Out())
	return b
}

func TestPacks(t *testing.T) {
	whole := container(t, nil)
	spread := ""
	for i := range whole {
		spread += whole[i:i+1] + []string{"", " ", "\t", "\n", "\r\n", " \n\n "}[i%6]
	}
	const after = "\nend\nstats g"
	for _, digits := range []string{whole, strings.ToUpper(whole), spread, whole[:3] + "\n" + whole[3:]} {
		wantRun(t, "J4, JobPack", "pack g\n"+digits+after, "graph g 2 1\nstats g 2 1 1 2 9\n")
	}
	for _, c := range [][2]string{
		{"", "short"}, {"5", "digits"}, {"57", "short"}, {whole + "0", "digits"}, {whole + "00", "tail"}, {whole[1:], "digits"},
		{"g" + whole, "digits"}, {"5x", "digits"}, {"5 7 G", "digits"}, {"0x57", "digits"}, {"57,41", "digits"}, {"57\r41", "digits"}, {"57#\n", "digits"}, {"`5", "digits"}, {"@@", "digits"}, {"\x00\x00", "digits"}, {"57\v41", "digits"},
		{container(t, func(b []byte) []byte { b[1]++; return b }), "magic"},
		{container(t, func(b []byte) []byte { b[8]++; return b }), "version"},
		{container(t, func(b []byte) []byte { b[10]++; return b }), "sum"},
		{container(t, func(b []byte) []byte { b[22]++; return b }), "sum"},
		{container(t, func(b []byte) []byte { b[10]++; return sealed(b) }), "section"},
		{container(t, func(b []byte) []byte { b[23] = 2; return sealed(b) }), "rows"},
		{container(t, func(b []byte) []byte { b[24] = 99; return sealed(b) }), "short"},
		{container(t, func(b []byte) []byte { b[22], b[23] = 128, 0; return sealed(b) }), "loose"},
	} {
		wantRun(t, "J4, JobPack", "pack g\n"+c[0]+after, "error 1 1 "+c[1]+"\n")
	}
	wantRun(t, "J4, JobPack", "graph g\np sp 1 0\nend\npack g\nx\nend", "graph g 1 0\nerror 4 1 name\n")
	wantRun(t, "J4, JobPack", "pack g\n"+whole+"\nend\npack g\n"+whole+"\nend\n", "graph g 2 1\nerror 4 1 name\n")
	wantRun(t, "J4, JobPack", "pack g\n"+whole+"\nend\ngraph g\nx\nend\n", "graph g 2 1\nerror 4 1 name\n")
}

// TestDigitsOfPacks looks at every byte in the place of a digit: a container begins with the bytes 57 41.
func TestDigitsOfPacks(t *testing.T) {
	for b := range 256 {
		c, want := string([]byte{byte(b)}), "digits"
		switch {
		case c == "1":
			want = "short"
		case strings.Contains("023456789abcdefABCDEF", c):
			want = "magic"
		}
		wantRun(t, "J4, JobPack", "pack g\n574"+c+"\nend", "error 1 1 "+want+"\n")
	}
}

func TestPlansWordsAndPicksAnswerNothing(t *testing.T) {
	for _, r := range rows() {
		switch r.order.Kind {
		case api.JobPlan, api.JobPicks:
			wantRun(t, "J4", r.text, "")
		}
	}
	for _, c := range [][2]string{
		{"words 0", ""}, {"words 63 1 2 3", ""}, {"words 64", "error 1 1 size\n"}, {"words 64 1\nview", "error 1 1 size\n"}, {"\n\nwords 2147483647 1", "error 3 1 size\n"},
	} {
		wantRun(t, "J4, JobWords", c[0], c[1])
	}
}

func TestFirstPlan(t *testing.T) {
	for _, asks := range []string{"finish\nlabels\nvoucher\n", "step 30\nview\n", "history\n", "log 1\n", "seek g from 1 to 2\n", "finish\nlive g from 1\n", "serial g from 1\n"} {
		a := job.Run(little() + "run g from 1\n" + asks)
		b := job.Run(little() + "plan sum workers 1 pool ring cap 65536 seed 0\nrun g from 1\n" + asks)
		if strings.Replace(b, "error 9 ", "error 8 ", 1) != a {
			t.Errorf("J4: the first plan: %q, %q", a, b)
		}
	}
	for leaves, want := range map[int]string{65536: "\nrun done ", 65537: "\nrun failed "} { // the ring has room for 65536
		var star strings.Builder
		fmt.Fprintf(&star, "graph g\np sp %d %d\n", leaves+1, leaves)
		for v := range leaves {
			fmt.Fprintf(&star, "a 1 %d 1\n", v+2)
		}
		if got := job.Run(star.String() + "end\nrun g from 1\nfinish\n"); !strings.Contains(got, want) {
			t.Errorf("J4: the first plan, with %d tasks: %q", leaves, got)
		}
	}
	wantRun(t, "J4", path("g", 3)+"run g from 1\nfinish\nlive g from 1\n", "graph g 3 2\nrun open steps 0 picks 0\nrun done steps 51 picks 51\nlive done\n1 0\n2 1\n3 2\n")
}

func TestRuns(t *testing.T) {
	const ring = "plan sum workers 1 pool ring cap 8 seed 0\n"
	for _, c := range [][2]string{
		{"run h from 0\n", "error 7 1 name\n"},
		{"run g from 0\n", "error 7 1 vertex\n"},
		{"run g from 4\n", "error 7 1 vertex\n"},
		{"run g from 18446744073709551615\n", "error 7 1 vertex\n"},
		{"run g from 9223372036854775809\n", "error 7 1 vertex\n"},
		{"run g from 4294967297\n", "error 7 1 vertex\n"},
		{ring + "run g from 3\n", "run open steps 0 picks 0\n"},
		{"plan sum workers 0 pool ring cap 8 seed 0\nrun g from 4\n", "error 8 1 vertex\n"},
		{"plan sum workers 0 pool ring cap 8 seed 0\nrun g from 1\n", "error 8 1 shape\n"},
		{"plan sum workers 65 pool ring cap 8 seed 0\nrun g from 1\n", "error 8 1 shape\n"},
		{"plan sum workers 64 pool ring cap 8 seed 0\nrun g from 1\n", "run open steps 0 picks 0\n"},
		{"plan sum workers 1 pool ring cap 3 seed 0\nrun g from 1\n", "run open steps 0 picks 0\n"},
		{"plan sum workers 1 pool ring cap 0 seed 0\nrun g from 1\n", "error 8 1 shape\n"},
		{"plan sum workers 1 pool ring cap 2147483647 seed 0\nrun g from 1\n", "error 8 1 shape\n"},
		{"plan sum workers 1 pool bucket slots 1025 cap 1 width 1 seed 0\nrun g from 1\n", "error 8 1 shape\n"},
		{"plan label workers 1 pool ring cap 2 seed 0\nrun g from 1\n", "error 8 1 full\n"},
		{"plan label workers 1 pool steal cap 2 tries 1 seed 0\nlive g from 1\n", "error 8 1 full\n"},
		{"live h from 1\n", "error 7 1 name\n"},
		{"live g from 0\n", "error 7 1 vertex\n"},
		{"live g from 4\n", "error 7 1 vertex\n"},
		{"plan sum workers 0 pool ring cap 8 seed 0\nlive g from 1\n", "error 8 1 shape\n"},
		{"serial h from 1\n", "error 7 1 name\n"},
		{"serial g from 0\n", "error 7 1 vertex\n"},
		{"serial g from 4\n", "error 7 1 vertex\n"},
		{"plan sum workers 0 pool ring cap 8 seed 0\nserial g from 3\n", "serial\n1 -\n2 2\n3 0\n"},
		{"plan hops workers 1 pool ring cap 8 seed 0\nserial g from 1\n", "serial\n1 0\n2 1\n3 1\n"},
		{"plan max workers 1 pool ring cap 8 seed 0\nserial g from 1\n", "serial\n1 0\n2 2\n3 1\n"},
		{"plan label workers 1 pool ring cap 8 seed 0\nserial g from 3\n", "serial\n1 0\n2 0\n3 0\n"},
		{ring + "live g from 3\n", "live done\n1 -\n2 2\n3 0\n"},
	} {
		behind(t, "J4", little(), c[0], c[1])
	}
}

func TestPicks(t *testing.T) {
	ahead := little() + "plan sum workers 2 pool ring cap 8 seed 0\n"
	for _, c := range [][2]string{
		{"run g from 1\n", "run open steps 0 picks 0\n"},
		{"picks\nrun g from 1\n", "run open steps 0 picks 0\n"},
		{"picks 0 1\npicks\npicks 1 0 2147483647\nrun g from 1\nview\n", "run open steps 5 picks 5\nview born 1 ended 0 held 1 pending 1 done 0 fault 0\nworker 0 take\nworker 1 take\ntask 0 1\n"},
		{"picks 0 1 0\nrun g from 1\nrun g from 1\n", "run open steps 3 picks 3\nrun open steps 0 picks 0\n"},
		{"picks 0 1 0\nplan sum workers 2 pool ring cap 8 seed 1\nwords 0 1\nrun g from 1\n", "run open steps 3 picks 3\n"},
		{"picks 0 1 0\nserial g from 3\nlive g from 3\nrun g from 1\n", "serial\n1 -\n2 2\n3 0\nlive done\n1 -\n2 2\n3 0\nrun open steps 3 picks 3\n"},
		{"run g from 1\npicks 0 1 0\nstep 1\nrun g from 1\n", "run open steps 0 picks 0\nrun open steps 1 picks 1\nrun open steps 3 picks 3\n"},
		{"picks" + strings.Repeat(" 0 1", 300) + "\nrun g from 1\nfinish\nstep 9\n", "run done steps 107 picks 108\nrun done steps 107 picks 108\nrun done steps 107 picks 108\n"},
	} {
		behind(t, "J4", ahead, c[0], c[1])
	}
}

func TestSteps(t *testing.T) {
	ahead := little() + "plan sum workers 3 pool steal cap 8 tries 1 seed 0 keep\n"
	for _, c := range [][2]string{
		{"step 1\n", "error 8 1 state\n"},
		{"step 1048577\n", "error 8 1 state\n"},
		{"finish\n", "error 8 1 state\n"},
		{"run g from 1\nstep 1048577\n", "run open steps 0 picks 0\nerror 9 1 size\n"},
		{"run g from 1\nstep 2147483647\n", "run open steps 0 picks 0\nerror 9 1 size\n"},
		{"run g from 1\nstep 0\n", "run open steps 0 picks 0\nrun open steps 0 picks 0\n"},
		{"run g from 1\nstep 4\nlog 4\n", "run open steps 0 picks 0\nrun open steps 4 picks 4\nlog 4\n0 load 2 0 0\n1 load 2 0 0\n2 load 2 0 0\n0 load 1 0 0\n"},
		{"run g from 1\nstep 2\nstep 1\nlog 9\n", "run open steps 0 picks 0\nrun open steps 2 picks 2\nrun open steps 3 picks 3\nlog 3\n0 load 2 0 0\n1 load 2 0 0\n0 load 1 0 0\n"},
		{"run g from 1\nlive g from 1\nstep 1\n", "run open steps 0 picks 0\nlive done\n1 0\n2 3\n3 1\nerror 10 1 state\n"},
		{"run g from 1\nlive g from 1\nview\n", "run open steps 0 picks 0\nlive done\n1 0\n2 3\n3 1\nerror 10 1 state\n"},
	} {
		behind(t, "J4", ahead, c[0], c[1])
	}
	a, b := job.Run(ahead+"run g from 1\nstep 1048576\n"), job.Run(ahead+"run g from 1\nfinish\n")
	if a != b || !strings.Contains(a, "run done") {
		t.Errorf("J4: step 1048576: %q, finish: %q", a, b)
	}
}

// TestPlanOfTheSearch: what is asked of a search is asked by the plan that it was begun with.
func TestPlanOfTheSearch(t *testing.T) {
	ahead := little() + "plan hops workers 2 pool steal cap 8 tries 1 seed 0 keep\nrun g from 1\nfinish\n"
	other := "plan sum workers 1 pool ring cap 4 seed 9\nwords 0 7\npicks 0 0\n"
	for _, asks := range []string{"labels\npath 2\ncheck\nvoucher\n", "view\n", "history\n", "ranks\n", "log 100\n", "step 3\n"} {
		plain := strings.TrimPrefix(job.Run(ahead+asks), job.Run(ahead))
		behind(t, "J4", ahead, other+asks, plain)
	}
	behind(t, "J4", ahead, "plan sum workers 1 pool ring cap 4 seed 9\nseek g from 1 to 2\nserial g from 1\nlabels\n", "seek 3 guided 3\nserial\n1 0\n2 3\n3 1\nlabels\n1 0\n2 1\n3 1\n")
	none := little() + "plan hops workers 2 pool steal cap 8 tries 1 seed 0\nrun g from 1\n"
	behind(t, "J4", none, "plan hops workers 2 pool steal cap 8 tries 1 seed 0 keep\nlog 1\n", "error 10 1 state\n")
}

// TestWordsOfLaterRuns: words are drawn by the worker whom they are for, in every run from there on, until others come in their place.
func TestWordsOfLaterRuns(t *testing.T) {
	ahead := text("graph g", "p sp 5 4", "a 1 2 1", "a 1 3 1", "a 1 4 1", "a 1 5 1", "end", "plan sum workers 2 pool multi per 3 cap 8 arity 2 in 0 out 1 stick 1 tries 1 seed 3 keep")
	run := func(lines string) string {
		return strings.TrimPrefix(job.Run(ahead+lines+"run g from 1\nfinish\nlog 1000\n"), job.Run(ahead))
	}
	plain, zero, other := run(""), run("words 0 5 4 3 2 1\n"), run("words 1 5 4 3 2 1\n")
	if plain == zero || plain == other || zero == other {
		t.Fatal("the words make no difference here")
	}
	for _, c := range [][2]string{
		{"words 0\nwords 63 1\nwords 2 1\n", plain},
		{"words 0 5 4 3 2 1\nwords 0\n", plain},
		{"words 0 1 2 3\nwords 0 5 4 3 2 1\n", zero},
		{"words 0 5 4 3 2 1\nplan sum workers 2 pool multi per 3 cap 8 arity 2 in 0 out 1 stick 1 tries 1 seed 3 keep\n", zero},
		{"words 1 9\nwords 1 5 4 3 2 1\nwords 2 5\n", other},
	} {
		if got := run(c[0]); got != c[1] {
			t.Errorf("J4: the words of %q: %q, want %q", c[0], got, c[1])
		}
	}
	twice := job.Run(ahead + "words 0 5 4 3 2 1\nrun g from 1\nfinish\nrun g from 1\nfinish\nlog 1000\n")
	if !strings.HasSuffix(twice, zero) {
		t.Errorf("J4: the words of a second run: %q, want %q", twice, zero)
	}
}

func TestLiveFailed(t *testing.T) {
	wantRun(t, "J4, JobLive", text("graph g", "p sp 6 5", "a 1 2 1", "a 1 3 1", "a 1 4 1", "a 1 5 1", "a 1 6 1", "end", "plan hops workers 1 pool steal cap 2 tries 1 seed 0", "live g from 1", "live g from 2", "labels"),
		text("graph g 6 5", "live failed", "live done", "1 -", "2 0", "3 -", "4 -", "5 -", "6 -", "error 12 1 state"))
}

func TestNothingBehindARefusal(t *testing.T) {
	for _, s := range []string{
		"view", "labels", "path 1", "check", "voucher", "history", "ranks", "log 1", "step 1", "finish", "words 64", "run h from 1", "live h from 1", "serial h from 1", "dump h", "stats h", "strong h", "seek h from 1 to 1", "ladder h from 1 to 1",
		"graph g\nend", "pack g\nend", "graph h\nx\nend", "pack h\nx\nend",
	} {
		ahead := "graph g\np sp 1 0\nend\n"
		refused := job.Run(ahead + s)
		if strings.Count(refused, "\n") != 2 || !strings.Contains(refused, "\nerror 4 1 ") {
			t.Errorf("J4: %q answers %q", s, refused)
		}
		for _, more := range []string{"\nstats g\n", "\nnonsense\n", "\n" + s + "\n", "\ngraph z\np sp 1 0\nend\n", "\nserial g from 1\nview x"} {
			wantRun(t, "J4", ahead+s+more, refused)
		}
	}
}

func TestTextThatIsRefusedAtItsEnd(t *testing.T) {
	for _, c := range [][2]string{
		{"nonsense", "error 7 1 command\n"},
		{"\n  stats  g  h\n", "error 8 13 line\n"},
		{"stats g\nstats g h\nstats g\n", "stats g 3 3 2 3 5\nerror 8 9 line\n"},
		{"stats g\nstats", "stats g 3 3 2 3 5\nerror 8 6 line\n"},
		{"stats a,b", "error 7 7 name\n"},
		{"step 2147483648", "error 7 6 size\n"},
		{"path 18446744073709551616", "error 7 6 long\n"},
		{"path 01", "error 7 6 digits\n"},
		{"plan sum workers 1 pool rings", "error 7 25 token\n"},
		{"stats g\ngraph h\np sp 1 0\n", "stats g 3 3 2 3 5\nerror 10 1 line\n"},
		{"view\nstats g h\n", "error 7 1 state\n"},
	} {
		behind(t, "J4", little(), c[0], c[1])
	}
}
