package job_test

import (
	"fmt"
	"math/rand"
	"runtime"
	"strings"
	"testing"

	"wayfare/api"
	"wayfare/job"
)

// parted are the lines of a report ahead of one that tells an error, and that line's words.
func parted(report string) (string, []string) {
	at := strings.LastIndex(strings.TrimSuffix(report, "\n"), "\n") + 1
	if words := strings.Fields(report[at:]); len(words) == 4 && words[0] == "error" {
		return report[:at], words
	}
	return report, nil
}

// wantSameReport holds the report of a text against that of what Show writes of what Read gave.
func wantSameReport(t *testing.T, s string) {
	t.Helper()
	j, fault, _, _ := job.Read(s)
	shown, e := job.Show(j)
	if e != api.OK {
		t.Fatalf("J3: Show of what Read gave of %q: %d", s, e)
	}
	a, b := job.Run(s), job.Run(shown)
	answers, refused := parted(a)
	same, again := parted(b)
	switch {
	case answers != same:
		t.Fatalf("J6: the report of %q is %q, that of what is shown of it %q", s, a, b)
	case fault == api.OK && (refused == nil) != (again == nil):
		t.Fatalf("J6: %q: %v, %v", s, refused, again)
	case again != nil && (refused == nil || refused[3] != again[3] || refused[2] != "1" || again[2] != "1"):
		t.Fatalf("J6: %q: %v, %v", s, refused, again)
	case fault != api.OK && again == nil && (refused == nil || refused[3] != nameOf(fault)):
		t.Fatalf("J6: %q: %v", s, refused)
	}
}

func TestReportOfWhatIsShown(t *testing.T) {
	r := rand.New(rand.NewSource(6))
	for range 1500 {
		s := someJob(r, true)
		if r.Intn(2) == 0 {
			s = strings.ReplaceAll(strings.ReplaceAll(s, " ", "\t "), "\n", " \r\n")
		}
		if r.Intn(3) == 0 {
			s = "# a remark\n\n" + s
		}
		wantSameReport(t, s)
	}
	all := rows()
	for i := range 6000 {
		if i%2 == 0 {
			wantSameReport(t, someText(r))
		} else {
			wantSameReport(t, someLines(r, all))
		}
	}
}

// spoilt is a text of which some bytes are others, or away, or twice.
func spoilt(r *rand.Rand, s string) string {
	b := []byte(s)
	for range 1 + r.Intn(4) {
		if len(b) == 0 {
			break
		}
		i := r.Intn(len(b))
		switch r.Intn(4) {
		case 0:
			b[i] = byte(r.Intn(256))
		case 1:
			b = append(b[:i], b[i+1:]...)
		case 2:
			b = append(b[:i+1], b[i:]...)
		case 3:
			b[i] = "0123456789 \n\r\t"[r.Intn(14)]
		}
	}
	return string(b)
}

// wantReport looks that a report is one: whole lines, at most one that tells an error, the last one; and the same at each call.
func wantReport(t *testing.T, s string) {
	t.Helper()
	a := job.Run(s)
	if a != "" && !strings.HasSuffix(a, "\n") {
		t.Fatalf("J5: the report of %q does not end with a byte 10: %q", s, a)
	}
	answers, _ := parted(a)
	if strings.HasPrefix(answers, "error ") || strings.Contains(answers, "\nerror ") {
		t.Fatalf("J4: the report of %q tells an error ahead of its end: %q", s, a)
	}
	if b := job.Run(s); a != b && !strings.Contains(a+b, "live failed\n") { // whether there is room for live is left to the machine
		t.Fatalf("J5: two reports of %q: %q, %q", s, a, b)
	}
}

func TestRunEndsOnAnyText(t *testing.T) {
	r := rand.New(rand.NewSource(7))
	all := rows()
	for i := range 4000 {
		switch i % 4 {
		case 0:
			b := make([]byte, r.Intn(60))
			for i := range b {
				b[i] = byte(r.Intn(256))
			}
			wantReport(t, string(b))
		case 1:
			wantReport(t, someText(r))
		case 2:
			wantReport(t, someLines(r, all))
		case 3:
			wantReport(t, spoilt(r, someJob(r, true)))
		}
	}
}

// TestOneAnswer: behind a search that is done, check is right, and the labels are those of serial and of live, whatever the plan, the picks and the words.
func TestOneAnswer(t *testing.T) {
	r := rand.New(rand.NewSource(8))
	done := 0
	for i := range 400 {
		graph := ""
		for !strings.Contains(graph, "\na 1 ") {
			graph = someGraph(r, "g")
		}
		kind := []string{"sum", "hops", "max", "label"}[r.Intn(4)]
		serial := strings.SplitN(job.Run(graph+"plan "+kind+" workers 1 pool ring cap 1 seed 0\nserial g from 1\n"), "serial\n", 2)[1]
		plan := ""
		for !strings.HasPrefix(plan, "plan "+kind) {
			plan = somePlan(r, i%3 > 0)
		}
		lines := ""
		for who := range 3 {
			lines += fmt.Sprintf("words %d %d %d\n", who, r.Uint64(), r.Uint64())
		}
		lines += "picks"
		for range r.Intn(200) {
			lines += fmt.Sprint(" ", r.Intn(3))
		}
		got := job.Run(graph + plan + lines + fmt.Sprintf("\nrun g from 1\nstep %d\nfinish\ncheck\nlabels\nlive g from 1\n", r.Intn(99)))
		if !strings.Contains(got, "run done") { // there was no room
			continue
		}
		done++
		_, got, _ = strings.Cut(got, "check ")
		if want := "right\nlabels\n" + serial + "live done\n" + serial; got != want && got != strings.Replace(want, "live done\n"+serial, "live failed\n", 1) {
			t.Fatalf("J7: %q: %q, want %q", graph+plan+lines, got, want)
		}
		if i%3 > 0 && !strings.Contains(got, "live done") {
			t.Fatalf("J7: %q: no room for live", graph+plan+lines)
		}
	}
	if done < 200 {
		t.Errorf("only %d of 400 searches are done", done)
	}
}

// TestDumpsAreReadAgain: what dump tells, pack reads in another job, as a graph with the same numbers and the same bytes.
func TestDumpsAreReadAgain(t *testing.T) {
	r := rand.New(rand.NewSource(9))
	for range 300 {
		first := job.Run(someGraph(r, "g") + "stats g\nstrong g\ndump g\n")
		_, rest, _ := strings.Cut(first, "\ndump ")
		_, digits, _ := strings.Cut(rest, "\n")
		if r.Intn(2) == 0 {
			digits = strings.ToUpper(digits)
		}
		if second := job.Run("pack g\n" + digits + "end\nstats g\nstrong g\ndump g\n"); first != second {
			t.Fatalf("J8: %q, and again %q", first, second)
		}
		other := job.Run("pack another\n" + digits + "end\nstats another\n")
		_, numbers, _ := strings.Cut(first, "\nstats g ")
		numbers, _, _ = strings.Cut(numbers, "\n")
		if !strings.HasSuffix(other, "\nstats another "+numbers+"\n") {
			t.Fatalf("J8: %q, and under another name %q", first, other)
		}
	}
}

// TestRefusedJobsMakeNoLists: numbers in a text that are above limits make no lists.
func TestRefusedJobsMakeNoLists(t *testing.T) {
	const g = "graph g\np sp 1 0\nend\n"
	for _, s := range []string{
		"graph g\np sp 1048577 4194305\nend",
		"graph g\np sp 1048576 4194304\nend",
		g + "plan sum workers 2147483647 pool ring cap 2147483647 seed 0\nrun g from 1",
		g + "plan sum workers 2147483647 pool ring cap 2147483647 seed 0\nlive g from 1",
		g + "plan sum workers 64 pool multi per 2147483647 cap 65536 arity 2 in 0 out 1 stick 1 tries 1 seed 0\nrun g from 1",
		g + "plan sum workers 64 pool steal cap 2147483647 tries 1 seed 0\nrun g from 1",
		g + "plan sum workers 64 pool bucket slots 1024 cap 65536 width 1 seed 0\nrun g from 1",
		"words 2147483647 1",
		"picks 2147483648",
		g + "plan sum workers 1 pool ring cap 2 seed 0 keep\nrun g from 1\nstep 2147483647",
		g + "plan sum workers 1 pool ring cap 2 seed 0 keep\nrun g from 1\nlog 2147483647",
		g + "plan sum workers 1 pool ring cap 2 seed 0 keep\nrun g from 1\nstep 1048576",
		g + "run g from 18446744073709551615",
		g + "seek g from 18446744073709551615 to 18446744073709551615",
	} {
		var ahead, behind runtime.MemStats
		runtime.ReadMemStats(&ahead)
		job.Run(s)
		runtime.ReadMemStats(&behind)
		if n := behind.TotalAlloc - ahead.TotalAlloc; n > 1<<16 {
			t.Errorf("P0.9: Run(%q) takes %d bytes", s, n)
		}
	}
}
