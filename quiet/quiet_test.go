package quiet_test

import (
	"fmt"
	"math"
	"runtime"
	"slices"
	"strings"
	"testing"

	"wayfare/api"
	"wayfare/arena"
	"wayfare/quiet"
)

const (
	never = api.Never
	most  = math.MaxUint64
)

// kind is one of the four operations.
type kind struct {
	name  string
	begin func(q api.Quiet) (*quiet.Op, api.Errno)
}

func failing(code uint64) kind {
	return kind{fmt.Sprintf("Fail %d", code), func(q api.Quiet) (*quiet.Op, api.Errno) { return quiet.Fail(q, code) }}
}

var (
	raising  = kind{"Raise", quiet.Raise}
	lowering = kind{"Lower", quiet.Lower}
	asking   = kind{"Ask", quiet.Ask}
	kinds    = []kind{raising, lowering, asking, failing(7), failing(most)}
)

func begin(t *testing.T, k kind, base int) *quiet.Op {
	t.Helper()
	o, e := k.begin(api.Quiet{Base: base})
	if o == nil || e != api.OK {
		t.Fatalf("Q1: %s at %d = %d", k.name, base, e)
	}
	return o
}

func arenaWith(cells ...uint64) *arena.Arena {
	a, _ := arena.New(len(cells), true)
	for i, v := range cells {
		a.Poke(i, v)
	}
	return a
}

func portOf(a *arena.Arena, who int) *arena.Port {
	p, _ := a.Port(who)
	return p
}

// step makes a step of an operation that is not over: just one access.
func step(t *testing.T, a *arena.Arena, o *quiet.Op) {
	t.Helper()
	ahead, p := a.Count(), portOf(a, 0)
	p.Grant()
	if o.Step(p); a.Count() != ahead+1 || p.Granted() {
		t.Fatalf("Q3: a step makes %d accesses", a.Count()-ahead)
	}
}

// text is an access as the chapter's examples write it.
func text(x api.Access) string {
	switch x.Kind {
	case api.AccLoad:
		return fmt.Sprintf("Load %d: %d", x.Cell, x.Seen)
	case api.AccStore:
		return fmt.Sprintf("Store %d %d", x.Cell, x.Put)
	case api.AccAdd:
		return fmt.Sprintf("Add %d %d: was %d", x.Cell, int64(x.Put), x.Seen)
	}
	if x.Ok {
		return fmt.Sprintf("Cas %d: %d to %d", x.Cell, x.Want, x.Put)
	}
	return fmt.Sprintf("Cas %d: %d to %d fails", x.Cell, x.Want, x.Put)
}

// play plays an operation to its end, and tells its accesses.
func play(t *testing.T, a *arena.Arena, o *quiet.Op) string {
	t.Helper()
	from := a.Count()
	for i := 0; !o.Over(); i++ {
		wantReply(t, o, api.StOpen)
		if step(t, a, o); i > 2 {
			t.Fatal("Q2: an operation without an end")
		}
	}
	var out []string
	for _, x := range a.Log()[from:] {
		out = append(out, text(x))
	}
	return strings.Join(out, "; ")
}

func wantReply(t *testing.T, o *quiet.Op, status int) {
	t.Helper()
	if r := o.Reply(); o.Over() == (status == api.StOpen) || r.Status != status || len(r.Tasks) != 0 {
		t.Errorf("Q3: Over %v, Reply = %v, want %d", o.Over(), r, status)
	}
}

// TestExamples: row by row, one behind the other.
func TestExamples(t *testing.T) {
	a := arenaWith(1, 0, 0)
	for i, c := range []struct {
		k                    kind
		accesses             string
		pending, done, fault uint64
		status               int
	}{
		{raising, "Add 0 1: was 1", 2, 0, 0, api.StDone},
		{asking, "Load 2: 0; Load 1: 0", 2, 0, 0, api.StGo},
		{lowering, "Add 0 -1: was 2", 1, 0, 0, api.StDone},
		{lowering, "Add 0 -1: was 1; Store 1 1", 0, 1, 0, api.StDone},
		{asking, "Load 2: 0; Load 1: 1", 0, 1, 0, api.StDone},
		{failing(7), "Cas 2: 0 to 7", 0, 1, 7, api.StDone},
		{failing(9), "Cas 2: 0 to 9 fails", 0, 1, 7, api.StDone},
		{asking, "Load 2: 7", 0, 1, 7, api.StFail},
		{lowering, "Add 0 -1: was 0", most, 1, 7, api.StDone},
	} {
		o := begin(t, c.k, 0)
		if got := play(t, a, o); got != c.accesses {
			t.Errorf("Q2: row %d, %s: %s, want %s", i, c.k.name, got, c.accesses)
		}
		wantReply(t, o, c.status)
		if got, want := a.Image(), []uint64{c.pending, c.done, c.fault}; !slices.Equal(got, want) {
			t.Errorf("Q2: row %d, %s: %v, want %v", i, c.k.name, got, want)
		}
	}
}

// TestAnyCells: the operations go by what they read, whoever wrote it, and touch no other cell.
func TestAnyCells(t *testing.T) {
	words := []uint64{0, 1, 2, 7, never - 1, never}
	for _, pending := range words {
		for _, done := range words {
			for _, fault := range words {
				for _, k := range kinds {
					wantPlayed(t, k, pending, done, fault)
				}
			}
		}
	}
}

// wantPlayed holds an operation, played alone, against Q2.
func wantPlayed(t *testing.T, k kind, pending, done, fault uint64) {
	t.Helper()
	const base = 2
	a := arenaWith(40, 41, pending, done, fault, 45)
	o := begin(t, k, base)
	got := play(t, a, o)
	text, status, cells := "", api.StDone, []uint64{40, 41, pending, done, fault, 45}
	switch k.name {
	case "Raise":
		text = fmt.Sprintf("Add 2 1: was %d", pending)
		cells[2]++
	case "Lower":
		text = fmt.Sprintf("Add 2 -1: was %d", pending)
		cells[2]--
		if pending == 1 {
			text += "; Store 3 1"
			cells[3] = 1
		}
	case "Ask":
		text = fmt.Sprintf("Load 4: %d", fault)
		if fault != 0 {
			status = api.StFail
			break
		}
		text += fmt.Sprintf("; Load 3: %d", done)
		if done == 0 {
			status = api.StGo
		}
	default:
		var code uint64
		fmt.Sscanf(k.name, "Fail %d", &code)
		text = fmt.Sprintf("Cas 4: 0 to %d", code)
		if fault != 0 {
			text += " fails"
		} else {
			cells[4] = code
		}
	}
	if got != text || !slices.Equal(a.Image(), cells) {
		t.Errorf("Q2: %s over %d %d %d: %s, want %s; %v, want %v", k.name, pending, done, fault, got, text, a.Image(), cells)
	}
	wantReply(t, o, status)
}

func TestShapes(t *testing.T) {
	for _, k := range kinds {
		for _, base := range []int{0, 1, 1000, api.MaxCells - 4, api.MaxCells - 3} {
			if o := begin(t, k, base); o.Over() {
				t.Errorf("Q1: %s at %d stands at no access", k.name, base)
			}
		}
		for _, base := range []int{-1, -3, math.MinInt, api.MaxCells - 2, api.MaxCells - 1, api.MaxCells, math.MaxInt - 2, math.MaxInt} {
			if o, e := k.begin(api.Quiet{Base: base}); o != nil || e != api.ErrShape {
				t.Errorf("Q1: %s at %d = %v, %d", k.name, base, o, e)
			}
		}
	}
	for _, base := range []int{0, -1, api.MaxCells - 3, api.MaxCells} {
		if o, e := quiet.Fail(api.Quiet{Base: base}, 0); o != nil || e != api.ErrShape {
			t.Errorf("Q1: Fail at %d with the code 0 = %v, %d", base, o, e)
		}
	}
}

// TestStepsOfWhatIsOver make no access, and use no grant.
func TestStepsOfWhatIsOver(t *testing.T) {
	for _, k := range kinds {
		for _, pending := range []uint64{0, 1, 2} {
			a := arenaWith(pending, 0, 0)
			o := begin(t, k, 0)
			play(t, a, o)
			cells, count, r, p := a.Image(), a.Count(), o.Reply(), portOf(a, 3)
			p.Grant()
			for range 3 {
				o.Step(p)
			}
			if !slices.Equal(a.Image(), cells) || a.Count() != count || !p.Granted() || !o.Over() || o.Reply().Status != r.Status {
				t.Errorf("Q3: %s goes on behind its end", k.name)
			}
		}
	}
}

// TestStoppedArena: at whatever access it is stopped, the operation goes on with 0 and false.
func TestStoppedArena(t *testing.T) {
	for _, k := range kinds {
		for _, cells := range [][]uint64{{1, 0, 0}, {2, 1, 0}, {0, 0, 7}} {
			for at := range 2 {
				a := arenaWith(cells...)
				o := begin(t, k, 0)
				for range at {
					if !o.Over() {
						step(t, a, o)
					}
				}
				over := o.Over()
				a.Stop(api.Fault{Who: 9})
				was, count, p := a.Image(), a.Count(), portOf(a, 0)
				p.Grant()
				for i := 0; !o.Over(); i++ {
					if o.Step(p); i > 2 {
						t.Fatalf("Q4: %s does not end", k.name)
					}
				}
				if !slices.Equal(a.Image(), was) || a.Count() != count || !p.Granted() {
					t.Errorf("Q4: %s makes an access to a stopped arena", k.name)
				}
				if want := map[bool]int{true: api.StGo, false: api.StDone}[k.name == "Ask"]; !over && o.Reply().Status != want {
					t.Errorf("Q4: %s comes to %d, not to what 0 and false lead to, %d", k.name, o.Reply().Status, want)
				}
			}
		}
	}
}

// TestCellsThatAreNotThere are the arena's fault, with the first of them.
func TestCellsThatAreNotThere(t *testing.T) {
	for _, k := range kinds {
		a := arenaWith(0)
		o, p := begin(t, k, 1), portOf(a, 4)
		cell := map[bool]int{true: 1, false: 3}[k.name == "Raise" || k.name == "Lower"]
		for !o.Over() {
			p.Grant()
			o.Step(p)
		}
		if f, is := a.Fault(); !is || f != (api.Fault{Who: 4, Kind: api.FaultCell, Cell: cell}) {
			t.Errorf("Q1: %s: %v, %v", k.name, f, is)
		}
	}
}

// TestPortsThatLeadNowhere: no call breaks by them, nor by operations that are none.
func TestPortsThatLeadNowhere(t *testing.T) {
	for _, p := range []*arena.Port{nil, {}} {
		for _, k := range kinds {
			o := begin(t, k, 0)
			for range 3 {
				o.Step(p)
			}
			if !o.Over() {
				t.Errorf("P0.1: %s does not end", k.name)
			}
		}
	}
	a := arenaWith(1, 0, 0)
	p := portOf(a, 0)
	p.Grant()
	for _, o := range []*quiet.Op{nil, {}} {
		if o.Step(p); !o.Over() || len(o.Reply().Tasks) != 0 || a.Count() != 0 {
			t.Error("P0.1: an operation that is none does something")
		}
	}
}

// TestLittleIsTaken: neither refused bases nor great ones make a list.
func TestLittleIsTaken(t *testing.T) {
	var ahead, behind runtime.MemStats
	runtime.ReadMemStats(&ahead)
	for _, k := range kinds {
		for _, base := range []int{api.MaxCells - 3, api.MaxCells, math.MaxInt} {
			k.begin(api.Quiet{Base: base})
		}
	}
	runtime.ReadMemStats(&behind)
	if n := behind.TotalAlloc - ahead.TotalAlloc; n > 1<<16 {
		t.Errorf("P0.9: %d bytes are taken", n)
	}
}
