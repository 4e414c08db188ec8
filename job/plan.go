package job

import (
	"wayfare/api"
	"wayfare/octet"
)

// keepWord stands behind a plan of which accesses and events are kept.
const keepWord = "keep"

// kindWords are the words of the kinds of searches, by their numbers.
func kindWords() []string {
	return []string{api.KindSum: "sum", api.KindHops: "hops", api.KindMax: "max", api.KindLabel: "label"}
}

// poolWords are the words of the pools, by their numbers.
func poolWords() []string {
	return []string{api.PoolMulti: "multi", api.PoolRing: "ring", api.PoolSteal: "steal", api.PoolBucket: "bucket"}
}

// firstPlan is the plan of a job that has told none.
func firstPlan() api.Plan {
	return api.Plan{Kind: api.KindSum, Workers: 1, Pool: api.PoolRing, Cap: 65536}
}

// planForm is what stands behind the word plan.
func planForm() form {
	workers := small("workers", func(p *api.Plan) *int { return &p.Workers })
	return form{searchKind{}, workers, fixed("pool"), pool{poolForms()}, keep{}}
}

// poolForms are what stands behind the words of the pools.
func poolForms() []form {
	capacity := small("cap", func(p *api.Plan) *int { return &p.Cap })
	tries := small("tries", func(p *api.Plan) *int { return &p.Tries })
	seed := great("seed", func(p *api.Plan) *uint64 { return &p.Seed })
	return []form{
		api.PoolMulti: {
			small("per", func(p *api.Plan) *int { return &p.Per }),
			capacity,
			small("arity", func(p *api.Plan) *int { return &p.Arity }),
			small("in", func(p *api.Plan) *int { return &p.In }),
			small("out", func(p *api.Plan) *int { return &p.Out }),
			small("stick", func(p *api.Plan) *int { return &p.Stick }),
			tries,
			seed,
		},
		api.PoolRing:  {capacity, seed},
		api.PoolSteal: {capacity, tries, seed},
		api.PoolBucket: {
			small("slots", func(p *api.Plan) *int { return &p.Slots }),
			capacity,
			great("width", func(p *api.Plan) *uint64 { return &p.Width }),
			seed,
		},
	}
}

// isEmptyPlan tells whether a plan says nothing.
func isEmptyPlan(p api.Plan) bool {
	all := p.Kind | p.Workers | p.Pool | p.Per | p.Cap | p.Arity | p.In | p.Out | p.Stick | p.Tries | p.Slots
	return all == 0 && p.Width|p.Seed == 0 && len(p.Starts) == 0 && len(p.Words) == 0 && !p.Keep
}

// searchKind is the word of a kind of searches.
type searchKind struct{}

func (searchKind) read(r *reader, o *api.Order) error {
	kind, err := r.choice(kindWords()...)
	o.Plan.Kind = kind
	return err
}

func (searchKind) write(o *api.Order) (string, error) {
	return takeWord(&o.Plan.Kind, kindWords())
}

// takeWord takes a number out of a plan, and tells the word for it.
func takeWord(n *int, words []string) (string, error) {
	if *n < 1 || *n >= len(words) {
		return "", unsaid()
	}
	word := words[*n]
	*n = 0
	return " " + word, nil
}

// setting is a word with a number of a plan behind it.
type setting[N int | uint64] struct {
	word string
	most number
	in   func(*api.Plan) *N
}

// small is a setting whose number has an upper bound.
func small(word string, in func(*api.Plan) *int) part {
	return setting[int]{word, smallNumber, in}
}

// great is a setting whose number may be any.
func great(word string, in func(*api.Plan) *uint64) part {
	return setting[uint64]{word, anyNumber, in}
}

func (s setting[N]) read(r *reader, o *api.Order) error {
	if _, err := r.choice(s.word); err != nil {
		return err
	}
	v, err := r.figure(uint64(s.most))
	*s.in(&o.Plan) = N(v)
	return err
}

func (s setting[N]) write(o *api.Order) (string, error) {
	n := s.in(&o.Plan)
	v := uint64(*n) // one below 0 becomes too great
	if v > uint64(s.most) {
		return "", unsaid()
	}
	*n = 0
	return " " + s.word + " " + octet.Decimal(v), nil
}

// pool is the word of a pool, with that pool's form behind it.
type pool struct {
	forms []form
}

func (p pool) read(r *reader, o *api.Order) error {
	which, err := r.choice(poolWords()...)
	if err != nil {
		return err
	}
	o.Plan.Pool = which
	return p.forms[which].read(r, o)
}

func (p pool) write(o *api.Order) (string, error) {
	which := o.Plan.Pool
	word, err := takeWord(&o.Plan.Pool, poolWords())
	if err != nil {
		return "", err
	}
	rest, err := p.forms[which].write(o)
	return word + rest, err
}

// keep is a word that may stand there or not.
type keep struct{}

func (keep) read(r *reader, o *api.Order) error {
	if !r.more() {
		return nil
	}
	_, err := r.choice(keepWord)
	o.Plan.Keep = err == nil
	return err
}

func (keep) write(o *api.Order) (string, error) {
	if !o.Plan.Keep {
		return "", nil
	}
	o.Plan.Keep = false
	return " " + keepWord, nil
}
