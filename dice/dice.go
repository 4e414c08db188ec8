// Package dice: draws: see DOC.md.
package dice

import (
	"math/bits"
	"slices"

	"wayfare/api"
)

// golden is the golden word, by which the seeds of a state's words are apart.
const golden = 0x9E3779B97F4A7C15

// mostFair is how many words Fair draws at most, so that it ends whatever words were given.
const mostFair = 128

// Dice draws words: given ones first, then those of a generator.
type Dice struct {
	from  func(*Dice) uint64 // where the next word comes from; it is handed the dice, so that a copy of them draws its own
	words []uint64           // given ones that are left
	state [4]uint64
	used  int
}

// New is dice of a seed.
func New(seed uint64, words []uint64) *Dice {
	var state [4]uint64
	for i := range state {
		seed += golden
		state[i] = Mix(seed)
	}
	return of(state, words)
}

// From is dice of a generator's state.
func From(state [4]uint64, words []uint64) (*Dice, api.Errno) {
	if state == [4]uint64{} {
		return nil, api.ErrBelow
	}
	return of(state, words), api.OK
}

// For is the dice of a worker.
func For(seed uint64, worker int, words []uint64) (*Dice, api.Errno) {
	if worker < 0 {
		return nil, api.ErrPlace
	}
	return New(Mix(seed^Mix(uint64(worker)+1)), words), api.OK
}

func of(state [4]uint64, words []uint64) *Dice {
	return &Dice{from: given, words: slices.Clone(words), state: state}
}

// given hands out given words; when none is left it puts the generator into its own place.
func given(d *Dice) uint64 {
	if len(d.words) == 0 {
		d.from, d.words = generated, nil
		return d.from(d)
	}
	w := d.words[0]
	d.words = d.words[1:]
	return w
}

// generated hands out the word of the state, and goes on to the state behind it.
func generated(d *Dice) uint64 {
	w := wordOf(d.state)
	d.state = behind(d.state)
	return w
}

// Next draws a word.
func (d *Dice) Next() uint64 {
	if d.from == nil { // dice that no call here made: they draw 0 each time
		d.from = given
	}
	d.used++
	return d.from(d)
}

// Below draws a number below n, from one word.
func (d *Dice) Below(n uint64) (uint64, api.Errno) {
	if n == 0 {
		return 0, api.ErrBelow
	}
	high, _ := bits.Mul64(d.Next(), n)
	return high, api.OK
}

// Fair draws a number below n, each as often as any other.
func (d *Dice) Fair(n uint64) (uint64, api.Errno) {
	if n == 0 {
		return 0, api.ErrBelow
	}
	var high, low uint64
	uneven := -n % n // 2^64 mod n
	for range mostFair {
		high, low = bits.Mul64(d.Next(), n)
		if low >= uneven {
			break
		}
	}
	return high, api.OK
}

// Order draws an order of the numbers 0 to n-1.
func (d *Dice) Order(n int) ([]int, api.Errno) {
	if n < 0 {
		return nil, api.ErrBelow
	}
	if n > api.MaxVertices {
		return nil, api.ErrSize
	}
	out := make([]int, n)
	for i := range out {
		out[i] = i
	}
	for i := n - 1; i > 0; i-- {
		j, _ := d.Below(uint64(i) + 1)
		out[i], out[j] = out[j], out[i]
	}
	return out, api.OK
}

// Skip leaves out n words of the generator.
func (d *Dice) Skip(n uint64) {
	d.state = leap(d.state, n)
}

// Used tells how many words were drawn.
func (d *Dice) Used() int {
	return d.used
}

// State tells the generator's state.
func (d *Dice) State() [4]uint64 {
	return d.state
}

// Mix scatters the bits of a word.
func Mix(x uint64) uint64 {
	x = (x ^ x>>30) * 0xBF58476D1CE4E5B9
	x = (x ^ x>>27) * 0x94D049BB133111EB
	return x ^ x>>31
}
