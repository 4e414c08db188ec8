package job_test

import (
	"reflect"
	"runtime"
	"slices"
	"strings"
	"testing"

	"wayfare/api"
	"wayfare/job"
)

// roomy is a list with spare room, filled with one thing.
func roomy[T any](list []T, fill T) []T {
	return append(slices.Clone(list), fill, fill, fill)[:len(list)]
}

// open is a list with its spare room.
func open[T any](l []T) []T { return slices.Clone(l[:cap(l)]) }

// spoil writes over a list and its spare room.
func spoil[T any](l []T, with T) {
	l = l[:cap(l)]
	for i := range l {
		l[i] = with
	}
}

// makeJob is a job whose lists all have spare room.
func makeJob() api.Job {
	var out []api.Order
	for _, r := range rows() {
		o := r.order
		o.Nums, o.Picks = roomy(o.Nums, 77), roomy(o.Picks, 77)
		o.Plan.Starts, o.Plan.Words = roomy(o.Plan.Starts, api.Start{Vertex: 77}), roomy(o.Plan.Words, []uint64{77})
		out = append(out, o)
	}
	return api.Job{Orders: roomy(out, api.Order{Kind: 77})}
}

// laidOpen is a job with all spare room.
func laidOpen(j api.Job) []api.Order {
	out := open(j.Orders)
	for i := range out {
		o := &out[i]
		o.Nums, o.Picks, o.Plan.Starts, o.Plan.Words = open(o.Nums), open(o.Picks), open(o.Plan.Starts), open(o.Plan.Words)
	}
	return out
}

func TestShowChangesNothing(t *testing.T) {
	j := makeJob()
	first, e := job.Show(j)
	second, f := job.Show(j)
	if e != api.OK || f != api.OK || first != second {
		t.Errorf("P0.5: two calls answer %d, %d", e, f)
	}
	if !reflect.DeepEqual(laidOpen(j), laidOpen(makeJob())) {
		t.Error("P0.4: Show has changed its argument")
	}
	bad := makeJob()
	bad.Orders = append(bad.Orders[:len(bad.Orders):len(bad.Orders)], api.Order{Kind: api.JobWords, Nums: roomy([]uint64{1 << 31, 2}, 77)}, api.Order{Kind: api.JobPicks, Picks: roomy([]int{3, -1}, 77)})
	want := laidOpen(bad)
	if s, e := job.Show(bad); s != "" || e != api.ErrCommand || !reflect.DeepEqual(laidOpen(bad), want) {
		t.Errorf("P0.4: a refused Show has changed its argument, or answers %q, %d", s, e)
	}
}

// TestWhatIsReadIsApart: each list that Read answers is spoilt with its spare room, and all others stay.
func TestWhatIsReadIsApart(t *testing.T) {
	text := ""
	for _, r := range rows() {
		text += r.text + "\n"
	}
	text += "picks 1\npicks 2 3 4\nwords 1 2\nwords 3 4 5\nnonsense"
	read := func() []api.Order {
		j, e, _, _ := job.Read(text)
		if e != api.ErrCommand {
			t.Fatalf("the text is refused: %d", e)
		}
		return j.Orders
	}
	want := read()
	for i := range want {
		for _, bad := range []func(*api.Order){
			func(o *api.Order) { spoil(o.Nums, 99) },
			func(o *api.Order) { spoil(o.Picks, 99) },
		} {
			got := read()
			bad(&got[i])
			for k := range got {
				if k != i && !reflect.DeepEqual(got[k], want[k]) {
					t.Errorf("P0.4: lists of the orders %d and %d share memory", i, k)
				}
			}
		}
	}
	first := read()
	for i := range first {
		spoil(first[i].Nums, 99)
		spoil(first[i].Picks, 99)
	}
	spoil(first, api.Order{Kind: 99})
	if !reflect.DeepEqual(read(), want) {
		t.Error("P0.5: what is read hangs on what was done with an earlier answer")
	}
}

func TestNilAndEmptyAreAlike(t *testing.T) {
	for _, r := range rows() {
		o := r.order
		if o.Nums == nil {
			o.Nums = []uint64{}
		}
		if o.Picks == nil {
			o.Picks = []int{}
		}
		o.Plan.Starts, o.Plan.Words = []api.Start{}, [][]uint64{}
		if s := show(t, o); s != r.text+"\n" {
			t.Errorf("P0.3: Show(%v) = %q", o, s)
		}
	}
	if s, e := job.Show(api.Job{Orders: []api.Order{}}); s != "" || e != api.OK {
		t.Errorf("P0.3: Show of no orders: %q, %d", s, e)
	}
}

// TestRunsKnowNothingOfOneAnother: names, plans and searches of one job are not those of another, also if they go at the same time.
func TestRunsKnowNothingOfOneAnother(t *testing.T) {
	s := little() + "plan sum workers 2 pool ring cap 8 seed 0 keep\nwords 0 1\npicks 0 1\nrun g from 1\nfinish\nhistory\nlabels\n"
	want := job.Run(s)
	wantRun(t, "P0.5", "stats g", "error 1 1 name\n")
	wantRun(t, "P0.5", "view", "error 1 1 state\n")
	reports := make(chan string)
	for range 8 {
		go func() { reports <- job.Run(s) }()
	}
	for range 8 {
		if got := <-reports; got != want {
			t.Errorf("P0.5: %q, want %q", got, want)
		}
	}
}

// TestReadingIsNotSlow: a long line and many lines take room in proportion to their bytes.
func TestReadingIsNotSlow(t *testing.T) {
	for _, s := range []string{
		"picks" + strings.Repeat(" 1", 1<<18),
		"words 0" + strings.Repeat(" 1", 1<<18),
		strings.Repeat("view\n", 1<<16),
		strings.Repeat(" \t", 1<<18) + "view",
		"graph g\n" + strings.Repeat("x\n", 1<<18) + "end",
		strings.Repeat("\r", 1<<19) + "\n",
		strings.Repeat("\r\n", 1<<18),
		strings.Repeat("#", 1<<19),
	} {
		var ahead, behind runtime.MemStats
		runtime.ReadMemStats(&ahead)
		j, e, _, _ := job.Read(s)
		shown, f := job.Show(j)
		runtime.ReadMemStats(&behind)
		if e != api.OK || f != api.OK || len(shown) > len(s)+2 {
			t.Errorf("J1: a long text: %d, %d", e, f)
		}
		if n := behind.TotalAlloc - ahead.TotalAlloc; n > 1<<27 {
			t.Errorf("P0.9: a text of %d bytes takes %d bytes", len(s), n)
		}
	}
}
