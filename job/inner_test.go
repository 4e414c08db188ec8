package job

import (
	"errors"
	"strings"
	"testing"

	"wayfare/api"
	"wayfare/crew"
	"wayfare/dimacs"
	"wayfare/graph"
)

// TestNamesOfErrors looks at all names, also of errors that no text brings about.
func TestNamesOfErrors(t *testing.T) {
	names := strings.Fields("short long loose width digits place below cells cell who token name size line vertex weight rows order list magic version section sum tail kind label reach proof shape busy full events many twice state command")
	seen := 0
	for e := api.Errno(1); e <= api.ErrCommand; e++ {
		name := errorName(e)
		if name == "" {
			continue
		}
		if seen >= len(names) || name != names[seen] {
			t.Fatalf("J4, names of errors: the error %d is called %s", e, name)
		}
		seen++
		if got := told(refusal{e, 7, 9}).report(); got != "error 7 9 "+name+"\n" {
			t.Errorf("J4: %q", got)
		}
	}
	if seen != len(names) {
		t.Errorf("J4, names of errors: %d of %d", seen, len(names))
	}
	for e, name := range map[api.Errno]string{api.ErrShort: "short", api.ErrBelow: "below", api.ErrCells: "cells", api.ErrWho: "who", api.ErrToken: "token", api.ErrLine: "line", api.ErrVertex: "vertex", api.ErrList: "list", api.ErrMagic: "magic", api.ErrTail: "tail", api.ErrKind: "kind", api.ErrProof: "proof", api.ErrShape: "shape", api.ErrFull: "full", api.ErrEvents: "events", api.ErrState: "state", api.ErrCommand: "command"} {
		if got := errorName(e); got != name {
			t.Errorf("J4, names of errors: the error %d is called %s", e, got)
		}
	}
}

func TestRefusals(t *testing.T) {
	if r := told(nil); r != (refusal{}) {
		t.Errorf("J1: no error is told as %v", r)
	}
	if r := told(errors.Join(errors.New("else"), refusal{api.ErrName, 3, 4})); r != (refusal{api.ErrName, 3, 4}) {
		t.Errorf("J1: a wrapped refusal is told as %v", r)
	}
	if err := refused(api.OK); err != nil {
		t.Errorf("J4: OK is refused as %v", err)
	}
}

// TestTableIsWhole: each kind has its command, and each command its word.
func TestTableIsWhole(t *testing.T) {
	if len(commands) != api.JobLadder {
		t.Errorf("the table has %d commands", len(commands))
	}
	for kind := api.JobGraph; kind <= api.JobLadder; kind++ {
		if c, known := commandOf(kind); !known || c.kind != kind || c.read == nil || c.write == nil || c.run == nil {
			t.Errorf("the kind %d has the command %v", kind, c.kind)
		}
	}
}

func graphOf(t *testing.T, text string) api.Graph {
	t.Helper()
	r, e, _, _ := dimacs.ReadGr(text)
	g, f, _ := graph.Build(r)
	if e != api.OK || f != api.OK {
		t.Fatal(e, f)
	}
	return g
}

// TestCheckTellsTheFirstVertex: labels that are wrong come about in no search, so those of one graph are held against another.
func TestCheckTellsTheFirstVertex(t *testing.T) {
	p := api.Plan{Kind: api.KindSum, Starts: []api.Start{{}}, Workers: 1, Pool: api.PoolRing, Cap: 8}
	searched := graphOf(t, "p sp 3 2\na 1 2 4\na 2 3 4")
	c, _ := crew.New(searched, p)
	c.Finish()
	for other, want := range map[string]string{
		"p sp 3 2\na 1 2 4\na 2 3 4": "check right\n",
		"p sp 3 2\na 1 2 4\na 2 3 5": "check wrong 3\n",
		"p sp 3 2\na 1 2 3\na 2 3 4": "check wrong 2\n",
		"p sp 3 0":                   "check wrong 2\n",
	} {
		s := newState()
		s.search = &search{crew: c, graph: graphOf(t, other), plan: p}
		if got, err := s.doCheck(api.Order{}); got != want || err != nil {
			t.Errorf("J4, JobCheck: %q: %q, %v", other, got, err)
		}
	}
}

func TestYesNo(t *testing.T) {
	if yesNo(true) != "yes" || yesNo(false) != "no" {
		t.Error("J4: yes and no")
	}
}

// TestThousandths: the whole part of the product, which is rounded ahead of cutting off.
func TestThousandths(t *testing.T) {
	third := 1.0 / 3
	for x, want := range map[float64]string{0: "0", third: "333", 2 * third: "666", 1: "1000", 0.0009: "0", 0.001: "1", 1.9999: "1999", 12.5: "12500", 0.29: "290", 0.57: "570", 1.001: "1000"} {
		if got := thousandths(x); got != want {
			t.Errorf("J4: %v in thousandths: %s, want %s", x, got, want)
		}
	}
}

func TestWordsOfAccesses(t *testing.T) {
	for kind, word := range map[int]string{api.AccLoad: "load", api.AccStore: "store", api.AccCas: "cas", api.AccAdd: "add", api.AccSwap: "swap"} {
		a := api.Access{Who: 3, Kind: kind, Cell: 4, Want: 9, Put: 8, Seen: 5, Left: 6, Ok: true}
		if got := line(accessText(a)...); got != "3 "+word+" 4 5 6\n" {
			t.Errorf("J4, JobLog: %q", got)
		}
	}
	if got := line(accessText(api.Access{Kind: api.AccCas})...); got != "0 cas 0 0 0 no\n" {
		t.Errorf("J4, JobLog: %q", got)
	}
}
