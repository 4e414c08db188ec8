package job_test

import (
	"fmt"
	"math/rand"
	"strings"
	"testing"

	"wayfare/job"
)

// begun is a job with a graph, a plan, words and picks, and a run that is not refused.
func begun(r *rand.Rand, roomy bool, keep string) string {
	plan := strings.Replace(somePlan(r, roomy), " keep\n", "\n", 1)
	s := someGraph(r, "g") + strings.Replace(plan, "\n", keep+"\n", 1) + fmt.Sprintf("words 0 %d\npicks", r.Uint64())
	for range r.Intn(120) {
		s += fmt.Sprint(" ", r.Intn(3))
	}
	s += "\nrun g from 1\n"
	if strings.Contains(job.Run(s), "error ") {
		return begun(r, roomy, keep)
	}
	return s
}

// from are the lines of a report behind one that begins so.
func from(report, begin string) string {
	_, rest, _ := strings.Cut(report, "\n"+begin)
	return rest
}

// TestTasksOfARun: at every step the tasks born are those ended and those held, and pending counts them; done comes only when none is held.
func TestTasksOfARun(t *testing.T) {
	r := rand.New(rand.NewSource(11))
	for i := range 120 {
		s := begun(r, i%2 == 0, "")
		report := job.Run(s + strings.Repeat("view\nstep 1\n", 150) + "finish\nview\n")
		wasDone := false
		for _, view := range strings.Split("\n"+report, "\nview ")[1:] {
			var born, ended, held, pending, done, fault int
			if n, err := fmt.Sscanf(view, "born %d ended %d held %d pending %d done %d fault %d\n", &born, &ended, &held, &pending, &done, &fault); n != 6 {
				t.Fatalf("J4, JobView: %q: %v", view, err)
			}
			raising := strings.Count(view, " raise\n")
			tasks := map[string]bool{}
			for l := range strings.Lines(view) {
				if strings.HasPrefix(l, "task ") {
					tasks[l] = true
				}
			}
			if born != ended+held || len(tasks) != held || pending != held-raising || pending < 0 {
				t.Fatalf("P0.11: %q in %q", view, s)
			}
			if done != 0 && held != 0 || wasDone && done == 0 {
				t.Fatalf("P0.12: %q in %q", view, s)
			}
			wasDone = done != 0
		}
		last := report[strings.LastIndex(report, "\nview "):]
		failed := strings.Contains(report, "\nrun failed ")
		if !failed && !strings.Contains(report, "\nrun done ") {
			t.Fatalf("P0.13: %q has no end: %q", s, report)
		}
		if failed != strings.Contains(last, "fault 1") {
			t.Fatalf("P0.14: %q: %q", s, report)
		}
	}
}

// TestTurnsOfARun: each access sees what the one ahead has left in its cell.
func TestTurnsOfARun(t *testing.T) {
	r := rand.New(rand.NewSource(12))
	for i := range 100 {
		s := begun(r, i%2 == 0, " keep") + "finish\nlog 2147483647\n"
		report := job.Run(s)
		var steps, logged int
		fmt.Sscanf(report[strings.LastIndex(report, " steps "):], " steps %d", &steps)
		left, lines := map[int]uint64{}, 0
		rest := from(report, "log ")
		fmt.Sscan(rest, &logged)
		for _, l := range strings.Split(strings.TrimSuffix(rest, "\n"), "\n")[1:] {
			var who, cell int
			var kind string
			var seen, leaves uint64
			if n, err := fmt.Sscanf(l, "%d %s %d %d %d", &who, &kind, &cell, &seen, &leaves); n != 5 {
				t.Fatalf("J4, JobLog: %q: %v", l, err)
			}
			if was, known := left[cell]; known && was != seen {
				t.Fatalf("P0.16: %q sees not what was left: %q", l, s)
			}
			if (kind == "load" || strings.HasSuffix(l, " no")) && seen != leaves {
				t.Fatalf("P0.16: %q changes the cell: %q", l, s)
			}
			left[cell] = leaves
			lines++
		}
		if steps != logged || logged != lines {
			t.Fatalf("J4: %d steps, %d accesses, %d lines: %q", steps, logged, lines, s)
		}
	}
}

// TestHistoriesOfRuns: at any point of a run its history is one of a bag, over a ring one of a queue.
func TestHistoriesOfRuns(t *testing.T) {
	r := rand.New(rand.NewSource(13))
	for i := range 150 {
		s := begun(r, i%2 == 0, " keep") + fmt.Sprintf("history\nstep %d\nhistory\nranks\nfinish\nhistory\nranks\n", r.Intn(80))
		report := job.Run(s)
		yes := " bag yes\n"
		if strings.Contains(s, " pool ring ") {
			yes = " bag yes queue yes\n"
		}
		if strings.Count(report, yes) != 3 || strings.Count(report, "\nranks ") != 2 {
			t.Fatalf("P0.19: %q: %q", s, report)
		}
	}
}

// TestWaysAgree: seek and ladder tell the label that serial tells, and refuse just where it tells none; parts are what serial reaches both ways.
func TestWaysAgree(t *testing.T) {
	r := rand.New(rand.NewSource(14))
	for range 100 {
		var n int
		graph := ""
		for n == 0 {
			graph = someGraph(r, "g")
			fmt.Sscanf(graph, "graph g\np sp %d", &n)
		}
		kind := []string{"sum", "hops", "max"}[r.Intn(3)]
		ahead := graph + "plan " + kind + " workers 1 pool ring cap 1 seed 0\n"
		labels := make([][]string, n+1)
		for v := 1; v <= n; v++ {
			lines := from(job.Run(ahead+fmt.Sprintf("serial g from %d\n", v)), "serial\n")
			for l := range strings.Lines("0 0\n" + lines) {
				labels[v] = append(labels[v], strings.Fields(l)[1])
			}
		}
		parts := strings.Fields(from(job.Run(ahead+"strong g\n"), "strong g "))[1:]
		for u := 1; u <= n; u++ {
			for v := 1; v <= n; v++ {
				both := labels[u][v] != "-" && labels[v][u] != "-"
				if (parts[2*u-1] == parts[2*v-1]) != both {
					t.Fatalf("P0.20: the parts of %d and %d: %q", u, v, graph)
				}
				seek := job.Run(ahead + fmt.Sprintf("seek g from %d to %d\n", u, v))
				ladder := strings.Fields(job.Run(ahead + fmt.Sprintf("ladder g from %d to %d\n", u, v)))
				ladder = ladder[len(ladder)-3:]
				want := "\nseek " + labels[u][v] + "\n"
				if kind == "sum" {
					want = "\nseek " + labels[u][v] + " guided " + labels[u][v] + "\n"
				}
				if labels[u][v] == "-" {
					if !strings.HasSuffix(seek, " 1 reach\n") || ladder[2] != "reach" {
						t.Fatalf("P0.20: from %d to %d: %q, %v", u, v, seek, ladder)
					}
				} else if !strings.HasSuffix(seek, want) || ladder[1] != labels[u][v] || ladder[2] != labels[u][v] {
					t.Fatalf("P0.20: from %d to %d: %q, %v, want %q", u, v, seek, ladder, want)
				}
			}
		}
	}
}

// TestSpoiltPacks: a container in which a burst of up to 32 bits is spoilt is told.
func TestSpoiltPacks(t *testing.T) {
	r := rand.New(rand.NewSource(15))
	for range 3000 {
		spoil := func(b []byte) []byte {
			first := r.Intn(8 * len(b))
			for i := first; i < min(first+1+r.Intn(32), 8*len(b)); i++ {
				if i == first || r.Intn(2) == 0 {
					b[i/8] ^= 1 << (i % 8)
				}
			}
			return b
		}
		s := "pack g\n" + container(t, spoil) + "\nend\n"
		if got := job.Run(s); !strings.HasPrefix(got, "error 1 1 ") {
			t.Fatalf("P0.18: %q: %q", s, got)
		}
	}
}
