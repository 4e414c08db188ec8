package token

import "wayfare/arena"

// The steps of a node: each makes one access, and says which one comes next.

func (n *Node) askDone(p *arena.Port) {
	switch {
	case p.Load(doneCell) != 0:
		n.next = nil
	case n.active && n.left > 0 && n.sent < len(n.sends):
		n.next = (*Node).send
	default:
		n.active = false
		n.next = (*Node).lookForMail
	}
}

func (n *Node) send(p *arena.Port) {
	p.Add(mailCell+n.sends[n.sent], 1)
	n.sent++
	n.balance++
	n.left--
	n.next = (*Node).askDone
}

func (n *Node) lookForMail(p *arena.Port) {
	n.mail = p.Load(mailCell + n.who)
	if n.mail == 0 {
		n.next = (*Node).lookForToken
		return
	}
	n.next = (*Node).takeOne
}

func (n *Node) takeOne(p *arena.Port) {
	if p.Cas(mailCell+n.who, n.mail, n.mail-1) {
		n.balance--
		n.black, n.active = true, true
		n.left += min(n.burst, len(n.sends)-n.left) // what is above its sends is of no use, and might wrap
	}
	n.next = (*Node).askDone
}

func (n *Node) lookForToken(p *arena.Port) {
	if p.Load(placeCell) != uint64(n.who) {
		n.next = (*Node).askDone
		return
	}
	n.next = (*Node).readCount
}

func (n *Node) readCount(p *arena.Port) {
	n.count = p.Load(countCell)
	n.next = (*Node).readColour
}

func (n *Node) readColour(p *arena.Port) {
	n.colour = p.Load(colourCell)
	if n.isFirst() && n.colour == white && n.registers == n.atRest() {
		n.next = (*Node).sayDone
		return
	}
	n.next = (*Node).putCount
}

// atRest is how the first node must be where a white token has come back with this count: what the others sent and did not take, it took and did not send.
func (n *Node) atRest() registers {
	return registers{left: n.left, sent: n.sent, balance: -n.count}
}

func (n *Node) putCount(p *arena.Port) {
	sum := n.count + n.balance
	if n.isFirst() {
		sum = 0
	}
	p.Store(countCell, sum)
	n.next = (*Node).putColour
}

func (n *Node) putColour(p *arena.Port) {
	colour := uint64(white)
	if !n.isFirst() && (n.colour != white || n.black) {
		colour = black
	}
	p.Store(colourCell, colour)
	n.black = false
	n.next = (*Node).handOn
}

func (n *Node) handOn(p *arena.Port) {
	to := n.who - 1
	if n.isFirst() {
		to = n.nodes - 1
	}
	p.Store(placeCell, uint64(to))
	n.next = (*Node).askDone
}

func (n *Node) sayDone(p *arena.Port) {
	p.Store(doneCell, 1)
	n.next = nil
}

// isFirst tells whether this is the node at which each round begins and ends.
func (n *Node) isFirst() bool {
	return n.who == 0
}
