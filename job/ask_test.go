package job_test

import (
	"fmt"
	"strings"
	"testing"

	"wayfare/job"
)

// finished is the chapter's graph, and a search in it that is done.
func finished() string {
	return little() + "plan sum workers 1 pool ring cap 8 seed 0\nrun g from 3\nfinish\n"
}

// failed is a search that has failed.
func failed() string {
	return text("graph g", "p sp 4 3", "a 1 2 1", "a 1 3 1", "a 1 4 1", "end", "plan hops workers 1 pool ring cap 2 seed 0 keep", "run g from 1", "finish")
}

func TestQuestionsWithoutASearch(t *testing.T) {
	for _, ask := range []string{"labels", "path 0", "path 1", "view", "check", "voucher", "history", "ranks", "log 0", "step 0", "finish"} {
		behind(t, "J4", little(), ask, "error 7 1 state\n")
		behind(t, "J4", little(), "plan sum workers 1 pool ring cap 8 seed 0 keep\nserial g from 1\n"+ask, "serial\n1 0\n2 3\n3 1\nerror 9 1 state\n")
	}
}

func TestQuestionsOfLabels(t *testing.T) {
	open := little() + "plan sum workers 1 pool ring cap 8 seed 0 keep\nrun g from 1\nstep 20\n"
	for _, ask := range []string{"labels", "path 0", "path 1", "path 9", "check", "voucher"} {
		behind(t, "J4", open, ask, "error 10 1 state\n")
		behind(t, "J4", failed(), ask, "error 10 1 state\n")
	}
	for _, c := range [][2]string{
		{"labels\n", "labels\n1 -\n2 2\n3 0\n"},
		{"path 0\n", "error 10 1 vertex\n"},
		{"path 4\n", "error 10 1 vertex\n"},
		{"path 18446744073709551615\n", "error 10 1 vertex\n"},
		{"path 1\n", "error 10 1 reach\n"},
		{"path 2\n", "path 2 3 2\n"},
		{"path 3\n", "path 0 3\n"},
		{"check\n", "check right\n"},
		{"voucher\n", "voucher\np voucher 3\nv 1 inf\nv 2 2 3 1\nv 3 0\n"},
		{"labels\nlabels\ncheck\ncheck\n", "labels\n1 -\n2 2\n3 0\nlabels\n1 -\n2 2\n3 0\ncheck right\ncheck right\n"},
	} {
		behind(t, "J4", finished(), c[0], c[1])
	}
}

// TestPathsByKind: the way is that of the search's kind and starts; of KindLabel it begins anywhere.
func TestPathsByKind(t *testing.T) {
	graph := text("graph g", "p sp 5 5", "a 1 2 5", "a 1 3 1", "a 3 2 2", "a 5 4 1", "a 4 5 9", "end")
	for _, c := range [][3]string{
		{"sum", "1", "path 3 1 3 2\n"}, {"hops", "1", "path 1 1 2\n"}, {"max", "1", "path 2 1 3 2\n"}, {"label", "1", "path 0 1 2\n"}, {"label", "5", "path 0 1 2\n"}, {"sum", "3", "path 2 3 2\n"}, {"max", "2", "path 0 2\n"},
	} {
		behind(t, "J4, JobPath", graph+"plan "+c[0]+" workers 1 pool ring cap 16 seed 0\nrun g from "+c[1]+"\nfinish\n", "path 2\n", c[2])
	}
	behind(t, "J4, JobPath", graph+"plan label workers 1 pool ring cap 16 seed 0\nrun g from 1\nfinish\n", "path 5\npath 4\nlabels\n", "path 3 4 5\npath 3 4\nlabels\n1 0\n2 0\n3 0\n4 3\n5 3\n")
}

func TestView(t *testing.T) {
	ahead := little() + "plan sum workers 1 pool ring cap 4 seed 0\nrun g from 1\n"
	view := func(steps int) string {
		return strings.SplitN(job.Run(ahead+fmt.Sprintf("step %d\nview\n", steps)), "\n", 4)[3]
	}
	head := "view born %d ended %d held %d pending %d done 0 fault 0\nworker 0 %s\n%s"
	for _, c := range []struct {
		steps, born, ended, held, pending int
		phase, tasks                      string
	}{
		{0, 1, 0, 1, 1, "ask", "task 0 1\n"},
		{2, 1, 0, 1, 1, "take", "task 0 1\n"},
		{8, 1, 0, 1, 1, "look", "task 0 1\n"},
		{9, 1, 0, 1, 1, "read", "task 0 1\n"},
		{10, 1, 0, 1, 1, "lower", "task 0 1\n"},
		{11, 2, 0, 2, 1, "raise", "task 0 1\ntask 5 2\n"},
		{12, 2, 0, 2, 2, "insert", "task 0 1\ntask 5 2\n"},
		{27, 3, 0, 3, 3, "end", "task 0 1\ntask 1 3\ntask 5 2\n"},
		{28, 3, 1, 2, 2, "ask", "task 1 3\ntask 5 2\n"},
	} {
		if got, want := view(c.steps), fmt.Sprintf(head, c.born, c.ended, c.held, c.pending, c.phase, c.tasks); got != want {
			t.Errorf("J4, JobView: behind %d steps: %q, want %q", c.steps, got, want)
		}
	}
	behind(t, "J4, JobView", finished(), "view\n", "view born 2 ended 2 held 0 pending 0 done 1 fault 0\nworker 0 over\n")
	behind(t, "J4, JobView", failed(), "view\n", "view born 4 ended 0 held 4 pending 4 done 0 fault 1\nworker 0 over\ntask 0 1\ntask 1 2\ntask 1 3\ntask 1 4\n")
	// one step ahead of that end
	steps := strings.Fields(job.Run(failed()))
	n := 0
	for i, w := range steps {
		if w == "failed" {
			fmt.Sscan(steps[i+2], &n)
		}
	}
	last := strings.Replace(failed(), "finish\n", fmt.Sprintf("step %d\nview\n", n-1), 1)
	if got := job.Run(last); !strings.Contains(got, "done 0 fault 0\nworker 0 fail\n") {
		t.Errorf("J4, JobView: one step ahead of the end: %q", got)
	}
}

func TestKept(t *testing.T) {
	none := little() + "plan sum workers 1 pool ring cap 4 seed 0\nrun g from 1\nfinish\n"
	for _, ask := range []string{"history", "ranks", "log 0", "log 5"} {
		behind(t, "J4", none, ask, "error 10 1 state\n")
		behind(t, "J4", none, "plan sum workers 1 pool ring cap 4 seed 0 keep\n"+ask, "error 11 1 state\n")
	}
	begun := little() + "plan sum workers 2 pool ring cap 4 seed 0 keep\nrun g from 1\n"
	behind(t, "J4, JobHistory", begun, "history\nranks\nlog 3\n", "history 1 bag yes queue yes\n0 2 insert 0 0\n0 2 inserted\nranks 0 0 0 0 0\nlog 0\n")
	behind(t, "J4, JobHistory", begun, "step 4\nhistory\n", "run open steps 4 picks 4\nhistory 3 bag yes queue yes\n0 2 insert 0 0\n0 2 inserted\n3 0 take\n4 1 take\n")
}

// TestHistoryOfEachPool: queue is told of a ring alone.
func TestHistoryOfEachPool(t *testing.T) {
	graph := path("g", 3)
	for pool, queue := range map[string]string{
		"ring cap 4 seed 0": " queue yes", "steal cap 4 tries 1 seed 0": "", "bucket slots 2 cap 4 width 1 seed 0": "", "multi per 1 cap 4 arity 2 in 0 out 1 stick 1 tries 1 seed 0": "",
	} {
		got := job.Run(graph + "plan label workers 1 pool " + pool + " keep\nrun g from 1\nhistory\nfinish\nhistory\nranks\n")
		start := "history 3 bag yes" + queue + "\n0 1 insert 0 0\n0 1 inserted\n0 1 insert 1 1\n0 1 inserted\n0 1 insert 2 2\n0 1 inserted\n"
		if !strings.HasPrefix(got, "graph g 3 2\nrun open steps 0 picks 0\n"+start+"run done ") {
			t.Errorf("J4, JobHistory: %s: %q", pool, got)
		}
		if strings.Count(got, " bag yes"+queue+"\n") != 2 || strings.Count(got, "queue") != 2*(len(queue)/10) || !strings.Contains(got, "\nranks ") {
			t.Errorf("J4, JobHistory: %s: %q", pool, got)
		}
	}
}

func TestManyEvents(t *testing.T) {
	plan := "plan sum workers 1 pool ring cap 4 seed 0 keep\nrun g from 1\nfinish\n"
	for _, ask := range []string{"history", "ranks"} {
		if got := job.Run(path("g", 500) + plan + ask); strings.Contains(got, "error") {
			t.Errorf("J4: %s of 2000 events: %q", ask, got)
		}
		behind(t, "J4", path("g", 501)+plan, ask, fmt.Sprintf("error %d 1 many\n", 502+4+1))
		// the insertions at the start count too
		label := "graph g\np sp 1000 0\nend\nplan label workers 1 pool ring cap 1024 seed 0 keep\nrun g from 1\n"
		if got := job.Run(label + "step 1\n" + ask); strings.Contains(got, "error") {
			t.Errorf("J4: %s of 2000 events: %q", ask, got)
		}
		behind(t, "J4", label+"step 2\n", ask, "error 7 1 many\n")
		behind(t, "J4", strings.Replace(label, " keep", "", 1)+"step 2\n", ask, "error 7 1 state\n")
	}
}

// TestRanks: a deque gives what came last first, a ring what came first; thousandths are cut off.
func TestRanks(t *testing.T) {
	graph := text("graph g", "p sp 4 3", "a 1 2 7", "a 1 3 8", "a 1 4 9", "end")
	for pool, want := range map[string]string{
		"steal cap 4 tries 1 seed 0":                                  "ranks 4 2 3 750 687\n", // ranks 0 2 1 0: the mean 0.75, the variance 0.6875
		"ring cap 4 seed 0":                                           "ranks 4 0 0 0 0\n",
		"bucket slots 4 cap 4 width 1 seed 0":                         "ranks 4 1 2 500 250\n", // the keys 8 and 9 go to lower stacks than 7
		"bucket slots 9 cap 4 width 9 seed 0":                         "ranks 4 1 1 250 187\n", // 7 and 8 are in one stack
		"multi per 1 cap 4 arity 2 in 0 out 1 stick 1 tries 1 seed 0": "ranks 4 0 0 0 0\n",
	} {
		if got := job.Run(graph + "plan sum workers 1 pool " + pool + " keep\nrun g from 1\nfinish\nranks\n"); !strings.HasSuffix(got, "\n"+want) {
			t.Errorf("J4, JobRanks: %s: %q, want %q", pool, got, want)
		}
	}
	three := text("graph g", "p sp 3 2", "a 1 2 7", "a 1 3 8", "end", "plan sum workers 1 pool steal cap 4 tries 1 seed 0 keep", "run g from 1", "finish", "ranks")
	if got := job.Run(three); !strings.HasSuffix(got, "\nranks 3 1 1 333 222\n") { // ranks 0 1 0
		t.Errorf("J4, JobRanks: %q", got)
	}
}

func TestLog(t *testing.T) {
	ahead := little() + "plan sum workers 1 pool ring cap 4 seed 0 keep\nrun g from 1\nstep 12\n"
	all := []string{"0 load 2 0 0", "0 load 1 0 0", "0 load 7 0 0", "0 load 8 1 1", "0 cas 7 0 1", "0 load 9 0 0", "0 load 10 0 0", "0 store 8 1 4", "0 load 3 0 0", "0 load 4 18446744073709551615 18446744073709551615", "0 cas 4 18446744073709551615 5", "0 add 0 1 2"}
	for n := range 15 {
		behind(t, "J4, JobLog", ahead, fmt.Sprintf("log %d\n", n), "log 12\n"+text(all[max(0, 12-n):]...))
	}
	behind(t, "J4, JobLog", ahead, "log 2147483647\nlog 1\n", "log 12\n"+text(all...)+"log 12\n0 add 0 1 2\n")
	// two want the same slot: one of them does not get it
	two := little() + "plan sum workers 2 pool ring cap 4 seed 0 keep\npicks 0 0 0 0 1 1 1 1 0 1\nrun g from 1\n"
	behind(t, "J4, JobLog", two, "log 2\n", "log 10\n0 cas 7 0 1\n1 cas 7 1 1 no\n")
	swap := job.Run(little() + "plan sum workers 2 pool multi per 1 cap 8 arity 2 in 0 out 1 stick 1 tries 1 seed 0 keep\nrun g from 1\nfinish\nlog 999\n")
	for _, kind := range []string{"load", "store", "cas", "add"} {
		if !strings.Contains(swap, " "+kind+" ") {
			t.Errorf("J4, JobLog: no %s in %q", kind, swap)
		}
	}
}
