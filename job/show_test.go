package job_test

import (
	"math"
	"math/rand"
	"strings"
	"testing"

	"wayfare/api"
	"wayfare/job"
)

func show(t *testing.T, orders ...api.Order) string {
	t.Helper()
	s, e := job.Show(api.Job{Orders: orders})
	if e != api.OK {
		t.Errorf("J2: Show(%v) is refused: %d", orders, e)
	}
	return s
}

func wantUnsaid(t *testing.T, why string, o api.Order) {
	t.Helper()
	view := api.Order{Kind: api.JobView}
	for _, orders := range [][]api.Order{{o}, {view, o}, {o, view}, {view, o, {Kind: -1}}} {
		if s, e := job.Show(api.Job{Orders: orders}); s != "" || e != api.ErrCommand {
			t.Errorf("J2: %s: Show(%v) = %q, %d", why, orders, s, e)
		}
	}
}

func TestShowEachRow(t *testing.T) {
	all, want := []api.Order{}, ""
	for _, r := range rows() {
		for _, line := range []int{0, 1, -7, math.MaxInt, math.MinInt} {
			o := r.order
			o.Line = line
			if s := show(t, o); s != r.text+"\n" {
				t.Errorf("J2: Show(%v) = %q, want %q", o, s, r.text+"\n")
			}
		}
		all, want = append(all, r.order), want+r.text+"\n"
	}
	if s := show(t, all...); s != want {
		t.Errorf("J2: all rows: %q, want %q", s, want)
	}
}

func TestKindsThatAreNone(t *testing.T) {
	for _, kind := range []int{0, -1, 24, 25, 100, math.MaxInt, math.MinInt} {
		wantUnsaid(t, "a kind that is none", api.Order{Kind: kind})
		wantUnsaid(t, "a kind that is none", api.Order{Kind: kind, Name: "g"})
	}
}

// TestNothingBeside: an order of each kind with one thing beside what its form has.
func TestNothingBeside(t *testing.T) {
	for _, r := range rows() {
		o := r.order
		named := o.Name != ""
		o.Name = ""
		if named {
			wantUnsaid(t, "without a name", o)
		}
		for _, name := range []string{"g", "x y", " ", "\n"} {
			o.Name = name
			if !named || name != "g" {
				wantUnsaid(t, "a name", o)
			}
		}

		o = r.order
		if o.Kind != api.JobGraph && o.Kind != api.JobPack {
			for _, text := range []string{"\n", "x\n", "x", " "} {
				o.Text = text
				wantUnsaid(t, "text", o)
			}
		}

		o = r.order
		if o.Kind != api.JobWords {
			o.Nums = append(append([]uint64{}, r.order.Nums...), 0)
			wantUnsaid(t, "a number too many", o)
			o.Nums = append(o.Nums, 1)
			wantUnsaid(t, "two numbers too many", o)
		}
		if len(r.order.Nums) > 0 {
			o.Nums = r.order.Nums[:0]
			wantUnsaid(t, "no numbers", o)
			if len(r.order.Nums) > 1 && o.Kind != api.JobWords {
				o.Nums = r.order.Nums[:1]
				wantUnsaid(t, "a number too few", o)
			}
		}

		o = r.order
		if o.Kind != api.JobPicks {
			o.Picks = []int{0}
			wantUnsaid(t, "picks", o)
		}

		if o.Kind != api.JobPlan {
			for _, spoil := range planSpoilers() {
				o = r.order
				spoil(&o.Plan)
				wantUnsaid(t, "a plan", o)
			}
		}
	}
}

// planSpoilers make something of a plan other than zero, one by one.
func planSpoilers() []func(*api.Plan) {
	return []func(*api.Plan){
		func(p *api.Plan) { p.Kind = 1 }, func(p *api.Plan) { p.Kind = -1 },
		func(p *api.Plan) { p.Starts = []api.Start{{}} },
		func(p *api.Plan) { p.Workers = 1 }, func(p *api.Plan) { p.Workers = math.MinInt },
		func(p *api.Plan) { p.Pool = 2 },
		func(p *api.Plan) { p.Per = 1 }, func(p *api.Plan) { p.Cap = 1 }, func(p *api.Plan) { p.Arity = 1 },
		func(p *api.Plan) { p.In = 1 }, func(p *api.Plan) { p.Out = 1 }, func(p *api.Plan) { p.Stick = 1 }, func(p *api.Plan) { p.Tries = 1 },
		func(p *api.Plan) { p.Slots = 1 }, func(p *api.Plan) { p.Slots = -1 << 40 },
		func(p *api.Plan) { p.Width = 1 }, func(p *api.Plan) { p.Width = 1 << 63 }, func(p *api.Plan) { p.Seed = 1 }, func(p *api.Plan) { p.Seed = math.MaxUint64 },
		func(p *api.Plan) { p.Words = [][]uint64{nil} }, func(p *api.Plan) { p.Words = [][]uint64{{1}} },
		func(p *api.Plan) { p.Keep = true },
	}
}

func TestTextsThatCannotBeWritten(t *testing.T) {
	for _, kind := range []int{api.JobGraph, api.JobPack} {
		for _, text := range []string{
			"x", "x\ny", " ", "end", "\nend", "\r", "x\n\r",
			"end\n", "end\nx\n", "x\nend\n", " end\t\n", "\t end\nx\n", "x\n end \ny\n",
			"x\r\n", "\r\n", "x\r\ny\n", "x\r\r\n", "x\n\r\n", "end\r\n",
		} {
			wantUnsaid(t, "text", api.Order{Kind: kind, Name: "g", Text: text})
		}
		for _, text := range []string{"", "\n", "\n\n", "x\n", "end x\n", "x end\n", "End\n", "en\nd\n", "\rend\n", "x\ry\n", "\r \n", "#end\n", "\x00\xff\n"} {
			if s := show(t, api.Order{Kind: kind, Name: "g", Text: text}); !strings.HasSuffix(s, " g\n"+text+"end\n") {
				t.Errorf("J2: Show of the text %q: %q", text, s)
			}
		}
	}
}

func TestNamesThatAreNone(t *testing.T) {
	for _, name := range []string{"", " ", "a b", "a/b", "g\n", "\tg", longName + "x", "\u00e4", "g\x00", "g#"} {
		for _, r := range rows() {
			if o := r.order; o.Name != "" {
				o.Name = name
				wantUnsaid(t, "a name that is none", o)
			}
		}
	}
}

func TestNumbersThatAreTooGreat(t *testing.T) {
	for _, n := range []uint64{1 << 31, 1 << 32, 1 << 63, math.MaxUint64} {
		for _, o := range []api.Order{
			{Kind: api.JobStep, Nums: []uint64{n}},
			{Kind: api.JobLog, Nums: []uint64{n}},
			{Kind: api.JobWords, Nums: []uint64{n}},
			{Kind: api.JobWords, Nums: []uint64{n, 0}},
			{Kind: api.JobPicks, Picks: []int{int(n)}},
			{Kind: api.JobPicks, Picks: []int{0, 1, int(n), 2}},
		} {
			wantUnsaid(t, "a number that is too great", o)
		}
	}
	for _, n := range []int{-1, -5, math.MinInt, math.MaxInt, math.MinInt32} {
		wantUnsaid(t, "a pick", api.Order{Kind: api.JobPicks, Picks: []int{n}})
		wantUnsaid(t, "a pick", api.Order{Kind: api.JobPicks, Picks: []int{3, n}})
	}
}

func TestPlansThatCannotBeSaid(t *testing.T) {
	for _, r := range planRows() {
		numbers := func(p *api.Plan) []*int {
			return []*int{&p.Workers, &p.Per, &p.Cap, &p.Arity, &p.In, &p.Out, &p.Stick, &p.Tries, &p.Slots}
		}
		for i := range numbers(&api.Plan{}) {
			for _, n := range []int{-1, math.MinInt, 1 << 31, math.MaxInt, -1 << 31} {
				o := r.order
				*numbers(&o.Plan)[i] = n
				wantUnsaid(t, "a number of a plan", o)
			}
		}
		for _, n := range []int{0, 5, -1, math.MaxInt, math.MinInt} {
			o := r.order
			o.Plan.Kind = n
			wantUnsaid(t, "a kind that is none", o)
			o = r.order
			o.Plan.Pool = n
			wantUnsaid(t, "a pool that is none", o)
		}
		o := r.order
		o.Plan.Starts = []api.Start{{}}
		wantUnsaid(t, "starts", o)
		o = r.order
		o.Plan.Words = [][]uint64{{}}
		wantUnsaid(t, "words", o)
	}
}

// TestNumbersOfOtherPools: a number that a pool has no use for is 0.
func TestNumbersOfOtherPools(t *testing.T) {
	base := api.Plan{Kind: api.KindSum, Workers: 1, Cap: 2}
	unused := map[int][]func(*api.Plan){
		api.PoolMulti: {func(p *api.Plan) { p.Slots = 1 }, func(p *api.Plan) { p.Width = 1 }},
		api.PoolRing: {
			func(p *api.Plan) { p.Per = 1 }, func(p *api.Plan) { p.Arity = 1 }, func(p *api.Plan) { p.In = 1 }, func(p *api.Plan) { p.Out = 1 }, func(p *api.Plan) { p.Stick = 1 }, func(p *api.Plan) { p.Tries = 1 },
			func(p *api.Plan) { p.Slots = 1 }, func(p *api.Plan) { p.Width = 1 },
		},
		api.PoolSteal: {
			func(p *api.Plan) { p.Per = 1 }, func(p *api.Plan) { p.Arity = 1 }, func(p *api.Plan) { p.In = 1 }, func(p *api.Plan) { p.Out = 1 }, func(p *api.Plan) { p.Stick = 1 },
			func(p *api.Plan) { p.Slots = 1 }, func(p *api.Plan) { p.Width = 1 },
		},
		api.PoolBucket: {
			func(p *api.Plan) { p.Per = 1 }, func(p *api.Plan) { p.Arity = 1 }, func(p *api.Plan) { p.In = 1 }, func(p *api.Plan) { p.Out = 1 }, func(p *api.Plan) { p.Stick = 1 }, func(p *api.Plan) { p.Tries = 1 },
		},
	}
	for pool, spoilers := range unused {
		p := base
		p.Pool = pool
		show(t, api.Order{Kind: api.JobPlan, Plan: p})
		for _, spoil := range spoilers {
			q := p
			spoil(&q)
			wantUnsaid(t, "a number of another pool", api.Order{Kind: api.JobPlan, Plan: q})
		}
	}
}

// someOrder is an order of any kind, right or with something wrong.
func someOrder(r *rand.Rand, all []row) api.Order {
	o := all[r.Intn(len(all))].order
	other := all[r.Intn(len(all))].order
	o.Line = r.Intn(9) - 2
	switch r.Intn(12) {
	case 0:
		o.Kind = r.Intn(30) - 3
	case 1:
		o.Name = other.Name
	case 2:
		o.Text = []string{"", "end\n", "x\r\n", "x", "a\nb\n", "\r\rx\n", " end x\n"}[r.Intn(7)]
	case 3:
		o.Nums = other.Nums
	case 4:
		o.Picks = other.Picks
	case 5:
		o.Plan = other.Plan
	case 6:
		s := planSpoilers()
		s[r.Intn(len(s))](&o.Plan)
	}
	return o
}

// TestWrittenAndRead: whatever is shown is read as it was; whatever is read can be shown, and is read so again.
func TestWrittenAndRead(t *testing.T) {
	r := rand.New(rand.NewSource(19))
	all, shown := rows(), 0
	for range 20000 {
		var j api.Job
		for range r.Intn(4) {
			j.Orders = append(j.Orders, someOrder(r, all))
		}
		s, e := job.Show(j)
		if e != api.OK {
			continue
		}
		shown++
		k, e, line, at := job.Read(s)
		if e != api.OK || line != 0 || at != 0 || !alike(withoutLines(j.Orders), withoutLines(k.Orders)) {
			t.Fatalf("J3: Read of %q: %v, %d, %d, %d, want %v", s, k, e, line, at, j)
		}
		if again := show(t, k.Orders...); again != s {
			t.Fatalf("J3: %q is shown as %q", s, again)
		}
	}
	if shown < 5000 {
		t.Errorf("only %d of 20000 jobs could be shown: the test looks at one side alone", shown)
	}
}

func withoutLines(orders []api.Order) []api.Order {
	var out []api.Order
	for _, o := range orders {
		o.Line = 0
		out = append(out, o)
	}
	return out
}
