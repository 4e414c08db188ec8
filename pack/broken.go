package pack

import "wayfare/api"

// broken is what a reader gives up with.
type broken struct {
	err api.Errno
	at  int
}

// giveUp ends the reading, from however deep.
func giveUp(e api.Errno, at int) {
	panic(broken{e, at})
}

// told is what a reader gave up with. A panic of any other kind is a fault of the program, and no word on the bytes.
func told(why any) (api.Errno, int) {
	b, ok := why.(broken)
	if !ok {
		panic(why)
	}
	return b.err, b.at
}
