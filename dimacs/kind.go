package dimacs

import "wayfare/api"

// kind is how the lines of a kind of texts are made.
type kind struct {
	head    string   // the fixed words of the head, one blank between them
	most    []uint64 // what the head's numbers are at most; the last one tells how many items there are
	item    string   // the first word of an item
	takes   string   // what the numbers of an item are, a letter each
	ownSize bool     // the head's first number tells how many vertices there are
}

// What a number of an item may be.
const (
	takesVertex = 'v'
	takesPlace  = 'p' // a vertex that has no point yet
	takesWeight = 'w'
	takesSigned = 's'
)

func edgesKind() kind {
	return kind{"p sp", []uint64{api.MaxVertices, api.MaxEdges}, "a", "vvw", true}
}

func pointsKind() kind {
	return kind{"p aux sp co", []uint64{api.MaxVertices}, "v", "pss", true}
}

func sourcesKind() kind {
	return kind{"p aux sp ss", []uint64{api.MaxEdges}, "s", "v", false}
}

func queriesKind() kind {
	return kind{"p aux sp p2p", []uint64{api.MaxEdges}, "q", "vv", false}
}
