package token

import (
	"slices"

	"wayfare/api"
	"wayfare/arena"
)

// registers are what a node knows of itself.
type registers struct {
	active  bool
	left    int // never more than it has sends
	sent    int
	balance uint64 // a word, as the token's count is
	black   bool
}

// Node is a node of a circuit: a machine.
type Node struct {
	registers
	who, nodes int
	sends      []int
	burst      int
	next       func(*Node, *arena.Port) // what is to be done with the next access; nil: it is over

	mail          uint64 // messages under way for it, as it last looked
	count, colour uint64 // the token's, as it last looked
}

// New is a node at its first access.
func New(c api.Circuit, who int) (*Node, api.Errno) {
	if e := Check(c); e != api.OK {
		return nil, e
	}
	if !isNode(c, who) {
		return nil, api.ErrVertex
	}
	n := &Node{who: who, nodes: len(c.Sends), sends: slices.Clone(c.Sends[who]), burst: c.Burst, next: (*Node).askDone}
	if slices.Contains(c.Awake, who) {
		n.registers = registers{active: true, left: len(n.sends)}
	}
	return n, api.OK
}

// Over tells whether it is over.
func (n *Node) Over() bool {
	return n == nil || n.next == nil
}

// Step makes the next access.
func (n *Node) Step(p *arena.Port) {
	if !n.Over() {
		n.next(n, p)
	}
}

// Tell tells what the node is at.
func (n *Node) Tell() api.Node {
	if n == nil {
		return api.Node{Over: true}
	}
	return api.Node{Balance: int(n.balance), Active: n.active, Black: n.black, Sent: n.sent, Over: n.Over()}
}
