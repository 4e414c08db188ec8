package arena_test

import (
	"math/rand"
	"slices"
	"testing"

	"wayfare/api"
	"wayfare/arena"
)

// wantReplay looks at the place and the cells, and that nothing that was handed in is changed or handed out.
func wantReplay(t *testing.T, name string, image []uint64, log []api.Access, at int, cells ...uint64) {
	t.Helper()
	i, l := slices.Clone(image), slices.Clone(log)
	room := append(slices.Clone(image), 77, 78)[:len(image)]
	got, end := arena.Replay(room, log)
	if got != at || !slices.Equal(end, cells) {
		t.Errorf("A7: %s: Replay = %d, %v, want %d, %v", name, got, end, at, cells)
	}
	spoil(end)
	if !slices.Equal(room[:len(image)], i) || room[:len(image)+2][len(image)] != 77 || !slices.Equal(log, l) {
		t.Errorf("P0.4: %s: Replay changes or hands out what it was given", name)
	}
}

func TestReplayTellsEachNumber(t *testing.T) {
	const seen = 6
	first := api.Access{Who: 1, Kind: api.AccStore, Cell: 0, Put: 4, Left: 4, Ok: true}
	for _, x := range accesses {
		right := x.want(3, 1, seen)
		image, behind := []uint64{0, seen}, []uint64{4, right.Left}
		wantReplay(t, x.name, image, []api.Access{first, right}, -1, behind...)

		who := right
		who.Who = -9
		wantReplay(t, x.name+" of another", image, []api.Access{first, who}, -1, behind...)

		for _, c := range []struct {
			name  string
			spoil func(a *api.Access)
		}{
			{"Kind 0", func(a *api.Access) { a.Kind = 0 }},
			{"Kind 6", func(a *api.Access) { a.Kind = 6 }},
			{"Kind -1", func(a *api.Access) { a.Kind = -1 }},
			{"Cell behind the last", func(a *api.Access) { a.Cell = 2 }},
			{"Cell -1", func(a *api.Access) { a.Cell = -1 }},
			{"another Cell", func(a *api.Access) { a.Cell = 0 }},
			{"Seen", func(a *api.Access) { a.Seen++ }},
			{"Left", func(a *api.Access) { a.Left++ }},
			{"Ok", func(a *api.Access) { a.Ok = !a.Ok }},
		} {
			wrong := right
			c.spoil(&wrong)
			wantReplay(t, x.name+": "+c.name, image, []api.Access{first, wrong, first}, 1, 4, seen)
		}
		if right.Kind != api.AccCas {
			wrong := right
			wrong.Want = 1
			wantReplay(t, x.name+": Want", image, []api.Access{wrong}, 0, 0, seen)
		}
		if right.Kind == api.AccLoad || right.Kind == api.AccStore || right.Kind == api.AccAdd || right.Kind == api.AccSwap || right.Ok {
			wrong := right
			wrong.Put++
			wantReplay(t, x.name+": Put", image, []api.Access{wrong}, 0, 0, seen)
		}
	}
	// a Cas that did not exchange may have been asked to put anything, and to find anything but what it found
	cas := api.Access{Kind: api.AccCas, Cell: 0, Want: 5, Put: 9, Seen: 6, Left: 6}
	wantReplay(t, "Cas", []uint64{6}, []api.Access{cas}, -1, 6)
	cas.Want = 6
	wantReplay(t, "Cas of what is there", []uint64{6}, []api.Access{cas}, 0, 6)
}

func TestReplayEdges(t *testing.T) {
	load := api.Access{Kind: api.AccLoad, Ok: true}
	wantReplay(t, "nothing", nil, nil, -1)
	wantReplay(t, "no log", []uint64{1, 2}, nil, -1, 1, 2)
	wantReplay(t, "no cells", nil, []api.Access{load}, 0)
	wantReplay(t, "the example", []uint64{0}, []api.Access{{Kind: api.AccStore, Put: 4, Left: 4, Ok: true}, {Who: 3, Kind: api.AccLoad, Seen: 5, Left: 5, Ok: true}}, 1, 4)
	wantReplay(t, "a zero access", []uint64{0}, []api.Access{{}}, 0, 0)
	wantReplay(t, "the last of three", []uint64{0}, []api.Access{load, load, {}}, 2, 0)
	add := api.Access{Kind: api.AccAdd, Put: most, Seen: 1, Ok: true}
	wantReplay(t, "an Add that wraps", []uint64{1}, []api.Access{add}, -1, 0)
}

// play makes accesses by chance over an arena, and tells the cells that it began with.
func play(t *testing.T, a *arena.Arena, r *rand.Rand, times int) []uint64 {
	t.Helper()
	for cell := range a.Len() {
		a.Poke(cell, uint64(r.Intn(3)))
	}
	first := a.Image()
	ports := []*arena.Port{newPort(t, a, 0), newPort(t, a, 1), newPort(t, a, 1)}
	for range times {
		p, cell, v := ports[r.Intn(3)], r.Intn(a.Len()), uint64(r.Intn(3))
		p.Grant()
		switch r.Intn(5) {
		case 0:
			p.Load(cell)
		case 1:
			p.Store(cell, v)
		case 2:
			p.Cas(cell, v, v+1)
		case 3:
			p.Add(cell, v-1)
		case 4:
			p.Swap(cell, v)
		}
	}
	return first
}

func TestLogComesOutTheSame(t *testing.T) {
	for seed := range int64(20) {
		a := newArena(t, 3, true)
		first := play(t, a, rand.New(rand.NewSource(seed)), 400)
		log := a.Log()
		if len(log) != 400 || a.Count() != 400 {
			t.Fatalf("A4: a log of %d, Count %d", len(log), a.Count())
		}
		if at, end := arena.Replay(first, log); at != -1 || !slices.Equal(end, a.Image()) {
			t.Errorf("A8: Replay = %d, %v, want -1, %v", at, end, a.Image())
		}
		last := slices.Clone(first)
		for i, x := range log {
			if x.Seen != last[x.Cell] {
				t.Fatalf("A8: the access %d saw %d, the one ahead left %d", i, x.Seen, last[x.Cell])
			}
			last[x.Cell] = x.Left
		}
	}
}

// TestReplayStopsAtTheFirst: of a log that was spoilt at one place, the cells ahead of it are told.
func TestReplayStopsAtTheFirst(t *testing.T) {
	a := newArena(t, 2, true)
	first := play(t, a, rand.New(rand.NewSource(5)), 60)
	log := a.Log()
	for i := range log {
		_, ahead := arena.Replay(first, log[:i])
		wrong := slices.Clone(log)
		wrong[i].Left ^= 1 << 40
		wantReplay(t, "spoilt", first, wrong, i, ahead...)
	}
}
