package job_test

import (
	"strings"
	"testing"

	"wayfare/api"
	"wayfare/job"
)

// text is lines with a byte 10 behind each.
func text(lines ...string) string {
	if len(lines) == 0 {
		return ""
	}
	return strings.Join(lines, "\n") + "\n"
}

func wantRun(t *testing.T, promise, order, want string) {
	t.Helper()
	if got := job.Run(order); got != want {
		t.Errorf("%s: Run(%q) =\n%s\nwant\n%s", promise, order, got, want)
	}
}

// little is the graph of the chapter's example.
func little() string {
	return text("graph g", "p sp 3 3", "a 1 2 5", "a 1 3 1", "a 3 2 2", "end")
}

func TestChapterExample(t *testing.T) {
	wantRun(t, "J4", little()+text("plan sum workers 2 pool ring cap 8 seed 0 keep", "picks 0 1 0 1", "run g from 1", "finish", "labels", "path 2", "check", "path 9"),
		text("graph g 3 3", "run open steps 4 picks 4", "run done steps 107 picks 108", "labels", "1 0", "2 3", "3 1", "path 3 1 3 2", "check right", "error 14 1 vertex"))
	for _, c := range [][2]string{
		{"run h from 1", "error 1 1 name\n"},
		{"plan sum worker 2", "error 1 10 token\n"},
		{"picks 1 x", "error 1 9 digits\n"},
		{"graph g", "error 2 1 line\n"},
		{"graph g\n", "error 2 1 line\n"},
	} {
		wantRun(t, "J1, J4", c[0], c[1])
	}
}

func TestWholeExampleOfMulti(t *testing.T) {
	wantRun(t, "J4", text("graph g", "p sp 4 4", "a 1 2 3", "a 2 3 1", "a 3 4 1", "a 1 4 9", "end",
		"plan max workers 2 pool multi per 1 cap 8 arity 2 in 0 out 1 stick 1 tries 1 seed 5 keep",
		"run g from 1", "step 9", "view", "finish", "labels", "voucher", "ranks", "log 3"),
		text("graph g 4 4", "run open steps 0 picks 0", "run open steps 9 picks 9",
			"view born 1 ended 0 held 1 pending 1 done 0 fault 0", "worker 0 take", "worker 1 take", "task 0 1",
			"run done steps 190 picks 192", "labels", "1 0", "2 3", "3 3", "4 3",
			"voucher", "p voucher 4", "v 1 0", "v 2 3 1 1", "v 3 3 3 2", "v 4 3 4 3",
			"ranks 5 1 1 200 160", "log 190",
			"0 load 27 18446744073709551615 18446744073709551615", "0 load 2 0 0", "0 load 1 1 1"))
}

func TestWholeExampleOfSteal(t *testing.T) {
	wantRun(t, "J4", text("graph g", "p sp 6 5", "a 1 2 1", "a 1 3 1", "a 1 4 1", "a 1 5 1", "a 1 6 1", "end",
		"plan hops workers 2 pool steal cap 2 tries 1 seed 0", "picks"+strings.Repeat(" 0", 40), "run g from 1", "finish", "view", "labels"),
		text("graph g 6 5", "run open steps 32 picks 40", "run failed steps 33 picks 42",
			"view born 4 ended 0 held 4 pending 4 done 0 fault 1", "worker 0 over", "worker 1 over", "task 0 1", "task 1 2", "task 1 3", "task 1 4",
			"error 14 1 state"))
}

func TestWholeExampleOfHistory(t *testing.T) {
	wantRun(t, "J4", text("graph g", "p sp 3 2", "a 1 2 4", "a 2 3 4", "end", "plan sum workers 1 pool ring cap 2 seed 0 keep", "run g from 1", "finish", "history"),
		text("graph g 3 2", "run open steps 0 picks 0", "run done steps 51 picks 51", "history 6 bag yes queue yes",
			"0 1 insert 0 0", "0 1 inserted", "2 0 take", "8 0 task 0 0", "12 0 insert 4 1", "18 0 inserted", "21 0 take", "27 0 task 4 1",
			"31 0 insert 8 2", "37 0 inserted", "40 0 take", "46 0 task 8 2"))
}

func TestTextsWithoutCommands(t *testing.T) {
	for _, s := range []string{"", "\n", "\n\n", " ", "\t \n", "# nothing", "#\n\n  # end\n#graph g\n", "\r\n", "\r\r\n \r\n"} {
		if j, e, line, at := job.Read(s); len(j.Orders) != 0 || e != api.OK || line != 0 || at != 0 {
			t.Errorf("J1: Read(%q) = %v, %d, %d, %d", s, j, e, line, at)
		}
		wantRun(t, "J5", s, "")
	}
	if s, e := job.Show(api.Job{}); s != "" || e != api.OK {
		t.Errorf("J2: Show of no orders: %q, %d", s, e)
	}
}
