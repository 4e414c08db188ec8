package job_test

import (
	"math"
	"reflect"
	"slices"
	"strings"
	"testing"

	"wayfare/api"
	"wayfare/job"
)

// bare is an order in which an empty list is nil.
func bare(o api.Order) api.Order {
	if len(o.Nums) == 0 {
		o.Nums = nil
	}
	if len(o.Picks) == 0 {
		o.Picks = nil
	}
	if len(o.Plan.Starts) == 0 {
		o.Plan.Starts = nil
	}
	if len(o.Plan.Words) == 0 {
		o.Plan.Words = nil
	}
	return o
}

// alike tells whether two lists of orders are the same.
func alike(a, b []api.Order) bool {
	return slices.EqualFunc(a, b, func(x, y api.Order) bool { return reflect.DeepEqual(bare(x), bare(y)) })
}

func wantOrders(t *testing.T, s string, want ...api.Order) {
	t.Helper()
	if j, e, line, at := job.Read(s); !alike(j.Orders, want) || e != api.OK || line != 0 || at != 0 {
		t.Errorf("J1: Read(%q) = %v, %d, %d, %d, want %v", s, j, e, line, at, want)
	}
}

// wantFault wants a text refused, behind so many views.
func wantFault(t *testing.T, s string, e api.Errno, line, at, views int) {
	t.Helper()
	j, f, row, col := job.Read(s)
	if f != e || row != line || col != at || len(j.Orders) != views {
		t.Errorf("J1: Read(%q) = %v, %d, %d, %d, want %d, %d, %d behind %d orders", s, j, f, row, col, e, line, at, views)
	}
	for i, o := range j.Orders {
		if o.Kind != api.JobView {
			t.Errorf("J1: Read(%q): the order %d ahead of the fault is %v", s, i, o)
		}
	}
}

// longName has the most bytes that a name may have.
const longName = "abcdefghijklmnop-QRSTUVWXYZ.0_89"

// row is a row of the table of commands.
type row struct {
	text  string
	order api.Order
}

// rows are the table of commands, each in the form in which Show writes it.
func rows() []row {
	return append(planRows(),
		row{"graph g\nend", api.Order{Kind: api.JobGraph, Name: "g"}},
		row{"graph a-b_c.9Z\np sp 1 0\nend", api.Order{Kind: api.JobGraph, Name: "a-b_c.9Z", Text: "p sp 1 0\n"}},
		row{"graph g\n\n # no remark\nend of it\n end x\n\nend", api.Order{Kind: api.JobGraph, Name: "g", Text: "\n # no remark\nend of it\n end x\n\n"}},
		row{"pack p\nend", api.Order{Kind: api.JobPack, Name: "p"}},
		row{"pack p\n00 fF\n\nxyz\nend", api.Order{Kind: api.JobPack, Name: "p", Text: "00 fF\n\nxyz\n"}},
		row{"words 0", api.Order{Kind: api.JobWords, Nums: []uint64{0}}},
		row{"words 2147483647 0 18446744073709551615", api.Order{Kind: api.JobWords, Nums: []uint64{math.MaxInt32, 0, math.MaxUint64}}},
		row{"picks", api.Order{Kind: api.JobPicks}},
		row{"picks 0 3 2147483647", api.Order{Kind: api.JobPicks, Picks: []int{0, 3, math.MaxInt32}}},
		row{"run g from 1", api.Order{Kind: api.JobRun, Name: "g", Nums: []uint64{1}}},
		row{"run g from 18446744073709551615", api.Order{Kind: api.JobRun, Name: "g", Nums: []uint64{math.MaxUint64}}},
		row{"run from from 0", api.Order{Kind: api.JobRun, Name: "from", Nums: []uint64{0}}},
		row{"step 0", api.Order{Kind: api.JobStep, Nums: []uint64{0}}},
		row{"step 2147483647", api.Order{Kind: api.JobStep, Nums: []uint64{math.MaxInt32}}},
		row{"finish", api.Order{Kind: api.JobFinish}},
		row{"live g from 7", api.Order{Kind: api.JobLive, Name: "g", Nums: []uint64{7}}},
		row{"live g from 2147483648", api.Order{Kind: api.JobLive, Name: "g", Nums: []uint64{1 << 31}}},
		row{"serial " + longName + " from 9", api.Order{Kind: api.JobSerial, Name: longName, Nums: []uint64{9}}},
		row{"labels", api.Order{Kind: api.JobLabels}},
		row{"path 3", api.Order{Kind: api.JobPath, Nums: []uint64{3}}},
		row{"path 18446744073709551615", api.Order{Kind: api.JobPath, Nums: []uint64{math.MaxUint64}}},
		row{"view", api.Order{Kind: api.JobView}},
		row{"check", api.Order{Kind: api.JobCheck}},
		row{"voucher", api.Order{Kind: api.JobVoucher}},
		row{"history", api.Order{Kind: api.JobHistory}},
		row{"ranks", api.Order{Kind: api.JobRanks}},
		row{"log 0", api.Order{Kind: api.JobLog, Nums: []uint64{0}}},
		row{"log 2147483647", api.Order{Kind: api.JobLog, Nums: []uint64{math.MaxInt32}}},
		row{"dump end", api.Order{Kind: api.JobDump, Name: "end"}},
		row{"stats 1", api.Order{Kind: api.JobStats, Name: "1"}},
		row{"strong graph", api.Order{Kind: api.JobStrong, Name: "graph"}},
		row{"seek g from 1 to 2", api.Order{Kind: api.JobSeek, Name: "g", Nums: []uint64{1, 2}}},
		row{"seek g from 0 to 18446744073709551615", api.Order{Kind: api.JobSeek, Name: "g", Nums: []uint64{0, math.MaxUint64}}},
		row{"ladder . from 2 to 1", api.Order{Kind: api.JobLadder, Name: ".", Nums: []uint64{2, 1}}},
		row{"ladder - from 4294967296 to 0", api.Order{Kind: api.JobLadder, Name: "-", Nums: []uint64{1 << 32, 0}}},
	)
}

// planRows are the rows of plans: every pool and every kind, with and without keep.
func planRows() []row {
	const most = math.MaxInt32
	multi := api.Plan{Workers: 3, Pool: api.PoolMulti, Per: 1, Cap: 2, Arity: 3, In: 4, Out: 5, Stick: 6, Tries: 7, Seed: 8}
	ring := api.Plan{Workers: 1, Pool: api.PoolRing, Cap: 2}
	steal := api.Plan{Workers: 64, Pool: api.PoolSteal, Cap: 4, Tries: 5, Seed: math.MaxUint64}
	bucket := api.Plan{Workers: 2, Pool: api.PoolBucket, Slots: 6, Cap: 7, Width: math.MaxUint64, Seed: 1 << 31}
	great := api.Plan{Workers: most, Pool: api.PoolMulti, Per: most, Cap: most, Arity: most, In: most, Out: most, Stick: most, Tries: most, Seed: most}
	var out []row
	for kind, word := range []string{api.KindSum: "sum", api.KindHops: "hops", api.KindMax: "max", api.KindLabel: "label"} {
		if word == "" {
			continue
		}
		for _, r := range []struct {
			text string
			plan api.Plan
		}{
			{" workers 3 pool multi per 1 cap 2 arity 3 in 4 out 5 stick 6 tries 7 seed 8", multi},
			{" workers 1 pool ring cap 2 seed 0", ring},
			{" workers 64 pool steal cap 4 tries 5 seed 18446744073709551615", steal},
			{" workers 2 pool bucket slots 6 cap 7 width 18446744073709551615 seed 2147483648", bucket},
			{" workers 2147483647 pool multi per 2147483647 cap 2147483647 arity 2147483647 in 2147483647 out 2147483647 stick 2147483647 tries 2147483647 seed 2147483647", great},
			{" workers 0 pool bucket slots 0 cap 0 width 0 seed 0", api.Plan{Pool: api.PoolBucket}},
		} {
			r.plan.Kind = kind
			out = append(out, row{"plan " + word + r.text, api.Order{Kind: api.JobPlan, Plan: r.plan}})
			r.plan.Keep = true
			out = append(out, row{"plan " + word + r.text + " keep", api.Order{Kind: api.JobPlan, Plan: r.plan}})
		}
	}
	return out
}

func TestEachRow(t *testing.T) {
	for _, r := range rows() {
		o := r.order
		o.Line = 1
		wantOrders(t, r.text, o)
		wantOrders(t, r.text+"\n", o)
		o.Line = 3
		lines := strings.Count(r.text, "\n")
		view := func(line int) api.Order { return api.Order{Kind: api.JobView, Line: line} }
		wantOrders(t, "# a remark\nview\n"+r.text+"\n\nview", view(2), o, view(5+lines))
		wantOrders(t, strings.ReplaceAll("\nview\n"+r.text+"\n", "\n", "\r\n"), view(2), o)
		wantOrders(t, strings.ReplaceAll("\nview\n"+r.text+"\n", "\n", "\r\r\r\n"), view(2), o)
		first, rest, more := strings.Cut(r.text, "\n")
		wide := "\t " + strings.ReplaceAll(first, " ", " \t ") + " \t"
		if more {
			wide += "\n" + strings.TrimSuffix(rest, "end") + "  end\t"
		}
		wantOrders(t, "view\n\n"+wide, view(1), o)
	}
}

func TestEveryCommandHasARow(t *testing.T) {
	seen := map[int]bool{}
	for _, r := range rows() {
		seen[r.order.Kind] = true
	}
	for kind := api.JobGraph; kind <= api.JobLadder; kind++ {
		if !seen[kind] {
			t.Errorf("the kind %d has no row", kind)
		}
	}
}

func TestLines(t *testing.T) {
	view := api.Order{Kind: api.JobView, Line: 1}
	wantOrders(t, "view", view)
	wantOrders(t, "view\r\n", view)
	wantOrders(t, "view \r\r\n", view)
	wantOrders(t, "view\n#x\n", view)
	wantFault(t, "view\r", api.ErrCommand, 1, 1, 0)
	wantFault(t, "view\n\r", api.ErrCommand, 2, 1, 1)
	wantFault(t, "view\n \t\r", api.ErrCommand, 2, 3, 1)
	wantFault(t, "view\r \n", api.ErrCommand, 1, 1, 0)
	wantFault(t, "view \r \n", api.ErrLine, 1, 6, 0)
	wantFault(t, "vi\rew\n", api.ErrCommand, 1, 1, 0)
	wantFault(t, "view\n\rview\n", api.ErrCommand, 2, 1, 1)
	wantFault(t, "view #x\n", api.ErrLine, 1, 6, 0)
	wantFault(t, "view\v\n", api.ErrCommand, 1, 1, 0)
	wantFault(t, "\x00view\n", api.ErrCommand, 1, 1, 0)
	wantFault(t, "view\u00a0\n", api.ErrCommand, 1, 1, 0)
	wantFault(t, "view\nview\n\n# x\n \tVIEW\n", api.ErrCommand, 5, 3, 2)
	wantFault(t, "view\r\nview\r\n\r\nviews", api.ErrCommand, 4, 1, 2)
}

func TestLinesWithin(t *testing.T) {
	for word, kind := range map[string]int{"graph": api.JobGraph, "pack": api.JobPack} {
		got := func(s string, inner string) {
			t.Helper()
			wantOrders(t, word+" g\n"+s, api.Order{Kind: kind, Line: 1, Name: "g", Text: inner})
		}
		got("end", "")
		got("end\n", "")
		got("\tend \r\r\n", "")
		got("\nend", "\n")
		got("#\n# end\nend", "#\n# end\n")
		got("a\r\nb\r\r\n\r\nc\rd\ne \r \nend\r\n", "a\nb\n\nc\rd\ne \r \n")
		got("End\nends\nend end\nen d\n#end\nend", "End\nends\nend end\nen d\n#end\n")
		got("graph h\nview\n\x00\xff\nend", "graph h\nview\n\x00\xff\n")
		got("end\r x\nend", "end\r x\n")
		for _, c := range []struct {
			text string
			line int
		}{
			{"", 2}, {"\n", 2}, {"\n\n", 3}, {"\nx", 3}, {"\nx\n", 3}, {"\nx\n\n", 4}, {"\nend\r", 3}, {"\nx\nend\r", 4}, {"\n#", 3}, {"\nends\nview\n", 4}, {"\n\r", 3}, {"\n\r\n", 3},
		} {
			wantFault(t, word+" g"+c.text, api.ErrLine, c.line, 1, 0)
			wantFault(t, "view\n\nview\n"+word+" g"+c.text, api.ErrLine, c.line+3, 1, 2)
		}
		wantFault(t, word+" g h\n", api.ErrLine, 1, len(word)+4, 0)
		wantFault(t, word+" g end", api.ErrLine, 1, len(word)+4, 0)
		wantFault(t, word+" g/\nend", api.ErrName, 1, len(word)+2, 0)
		wantFault(t, word+"\nend", api.ErrLine, 1, len(word)+1, 0)
		wantFault(t, word+" g\n#end\n", api.ErrLine, 3, 1, 0)
	}
}
