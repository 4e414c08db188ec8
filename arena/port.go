package arena

import "wayfare/api"

// Port is where one machine reaches the cells.
type Port struct {
	arena   *Arena
	who     int
	granted bool // guarded by the arena's lock, as the cells are
}

// leadsNowhere tells whether no arena made this port: machines are handed ports by anyone, and must not break by one.
func (p *Port) leadsNowhere() bool {
	return p == nil || p.arena == nil
}

// Who tells the port's number.
func (p *Port) Who() int {
	if p.leadsNowhere() {
		return 0
	}
	return p.who
}

// Grant lets one access pass.
func (p *Port) Grant() {
	if p.leadsNowhere() {
		return
	}
	p.arena.mu.Lock()
	defer p.arena.mu.Unlock()
	p.granted = true
}

// Granted tells whether an access may pass.
func (p *Port) Granted() bool {
	if p.leadsNowhere() {
		return false
	}
	p.arena.mu.Lock()
	defer p.arena.mu.Unlock()
	return p.granted
}

// Load tells what a cell holds.
func (p *Port) Load(cell int) uint64 {
	return p.access(api.Access{Kind: api.AccLoad, Cell: cell}).Seen
}

// Store lets a cell hold a word.
func (p *Port) Store(cell int, v uint64) {
	p.access(api.Access{Kind: api.AccStore, Cell: cell, Put: v})
}

// Cas lets a cell hold a word, if it holds another one.
func (p *Port) Cas(cell int, want, put uint64) bool {
	return p.access(api.Access{Kind: api.AccCas, Cell: cell, Want: want, Put: put}).Ok
}

// Add adds to a cell, and tells what it held.
func (p *Port) Add(cell int, d uint64) uint64 {
	return p.access(api.Access{Kind: api.AccAdd, Cell: cell, Put: d}).Seen
}

// Swap lets a cell hold a word, and tells what it held.
func (p *Port) Swap(cell int, v uint64) uint64 {
	return p.access(api.Access{Kind: api.AccSwap, Cell: cell, Put: v}).Seen
}

// access makes the access that is asked for, and tells it as it stands in the log; one that is not made is the zero Access.
func (p *Port) access(asked api.Access) api.Access {
	if p.leadsNowhere() {
		return api.Access{}
	}
	a := p.arena
	a.mu.Lock()
	defer a.mu.Unlock()
	if !p.pass(asked.Cell) {
		return api.Access{}
	}
	asked.Who = p.who
	made, _ := carryOut(asked, a.cells[asked.Cell])
	a.cells[made.Cell] = made.Left
	a.count++
	if a.keep {
		a.log = append(a.log, made)
	}
	return made
}

// pass uses up the grant for an access of this cell, and tells whether the access may be made; if it is at fault, the arena is stopped.
func (p *Port) pass(cell int) bool {
	if p.arena.stopped {
		return false
	}
	if !p.granted {
		p.arena.stop(api.Fault{Who: p.who, Kind: api.FaultTwice, Cell: cell})
		return false
	}
	p.granted = false
	if !hasCell(p.arena.cells, cell) {
		p.arena.stop(api.Fault{Who: p.who, Kind: api.FaultCell, Cell: cell})
		return false
	}
	return true
}
