package voucher_test

import (
	"math"
	"math/rand/v2"
	"reflect"
	"slices"
	"testing"

	"wayfare/api"
	"wayfare/voucher"
)

// spare makes a list whose spare room is filled with one number.
func spare[T any](fill T, list ...T) []T {
	room := append(slices.Clone(list), fill, fill, fill)
	return room[:len(list)]
}

// given are arguments whose lists all have spare room.
type given struct {
	g      api.Graph
	starts []api.Start
	v      api.Voucher
}

func makeGiven() given {
	return given{
		g:      api.Graph{N: 4, Start: spare(77, 0, 2, 2, 3, 4), To: spare(77, 1, 2, 1, 0), Weight: spare[uint64](77, 4, 1, 2, 5)},
		starts: spare(start(77, 77), start(0, 0), start(0, 6)),
		v:      made(spare(77, 0, 3, 1, never), spare(77, -1, 2, 1, -1), spare(77, 0, 2, 1, 0)),
	}
}

// whole is a given with all spare room laid open.
func whole(a given) given {
	a.g.Start, a.g.To, a.g.Weight = full(a.g.Start), full(a.g.To), full(a.g.Weight)
	a.starts = full(a.starts)
	a.v = made(full(a.v.Labels), full(a.v.By), full(a.v.Depth))
	return a
}

func full[T any](l []T) []T { return slices.Clone(l[:cap(l)]) }

// spoil writes over a list and its spare room.
func spoil[T any](l []T, with T) {
	l = l[:cap(l)]
	for i := range l {
		l[i] = with
	}
}

func TestNothingIsSharedOrChanged(t *testing.T) {
	a := makeGiven()
	first, e := voucher.Make(a.g, api.KindSum, a.starts)
	second, f := voucher.Make(a.g, api.KindSum, a.starts)
	text, h := voucher.Show(a.v)
	if i, at := voucher.Check(a.g, api.KindSum, a.starts, a.v); e != api.OK || f != api.OK || h != api.OK || i != api.OK || at != 0 {
		t.Fatalf("refused: %d, %d, %d, %d", e, f, h, i)
	}
	voucher.Check(a.g, api.KindHops, a.starts, a.v)
	voucher.Make(a.g, api.KindSum, []api.Start{start(9, 0)})
	if !reflect.DeepEqual(whole(a), whole(makeGiven())) {
		t.Errorf("P0.4: arguments were changed: %v", whole(a))
	}
	spoil(first.Labels, 8)
	spoil(first.By, 8)
	if !slices.Equal(first.Depth, []int{0, 2, 1, 0}) {
		t.Errorf("P0.4: two lists of one answer share memory: %v", first)
	}
	spoil(first.Depth, 8)
	if !reflect.DeepEqual(whole(a), whole(makeGiven())) {
		t.Errorf("P0.4: an answer shares memory with arguments: %v", whole(a))
	}
	spoil(a.g.Start, 9)
	spoil(a.g.To, 9)
	spoil(a.g.Weight, 9)
	spoil(a.starts, start(9, 9))
	spoil(a.v.Labels, 9)
	if !same(second, makeGiven().v) || text != "p voucher 4\nv 1 0\nv 2 3 3 2\nv 3 1 2 1\nv 4 inf\n" {
		t.Errorf("P0.4: arguments were kept: %v, %q", second, text)
	}
}

func TestReadsAreNotShared(t *testing.T) {
	const text = "p voucher 3\nv 1 0\nv 2 3 3 2\nv 3 1 2 1\n"
	one, _, _, _ := voucher.Read(text)
	two, _, _, _ := voucher.Read(text)
	spoil(one.Labels, 9)
	spoil(one.By, 8)
	if !slices.Equal(one.Depth, []int{0, 2, 1}) {
		t.Errorf("P0.4: two lists of one answer share memory: %v", one)
	}
	if !same(two, made([]uint64{0, 3, 1}, []int{-1, 2, 1}, []int{0, 2, 1})) {
		t.Errorf("P0.5: a Read has changed with an answer of another: %v", two)
	}
}

func TestWhateverIsGiven(t *testing.T) {
	dice := rand.New(rand.NewPCG(10, 5))
	number := func() int {
		switch dice.IntN(20) {
		case 0:
			return math.MaxInt
		case 1:
			return math.MinInt
		}
		return dice.IntN(6) - 1
	}
	numbers := func(n int) []int {
		list := make([]int, n)
		for i := range list {
			list[i] = number()
		}
		return list
	}
	words := func(n int) []uint64 {
		list := make([]uint64, n)
		for i := range list {
			list[i] = uint64(number())
		}
		return list
	}
	for range 50000 {
		g := api.Graph{N: number(), Start: numbers(dice.IntN(5)), To: numbers(dice.IntN(5)), Weight: words(dice.IntN(5))}
		v := made(words(dice.IntN(5)), numbers(dice.IntN(5)), numbers(dice.IntN(5)))
		if dice.IntN(2) == 0 {
			g, v = small(), made(words(4), numbers(4), numbers(4))
		}
		starts := []api.Start{start(number(), uint64(number()))}
		voucher.Make(g, number(), starts)
		voucher.Check(g, number(), starts, v)
		voucher.Show(v)
	}
}
