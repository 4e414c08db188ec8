package job

import (
	"errors"

	"wayfare/api"
)

// refusal is why a text or an order is refused, and where.
type refusal struct {
	number   api.Errno
	line, at int
}

func (r refusal) Error() string {
	return errorName(r.number)
}

// report is the line that tells a refusal.
func (r refusal) report() string {
	return line("error", decimal(r.line), decimal(r.at), r.Error())
}

// refused is the refusal by a call's answer, which has no place yet; nil, if the call was not refused.
func refused(e api.Errno) error {
	if e == api.OK {
		return nil
	}
	return refusal{number: e}
}

// told is the refusal that an error tells; the zero one, if there is no error.
func told(err error) refusal {
	var r refusal
	if errors.As(err, &r) {
		return r
	}
	return refusal{}
}

// errorName is the name of an error.
func errorName(e api.Errno) string {
	names := [...]string{
		api.ErrShort:   "short",
		api.ErrLong:    "long",
		api.ErrLoose:   "loose",
		api.ErrWidth:   "width",
		api.ErrDigits:  "digits",
		api.ErrPlace:   "place",
		api.ErrBelow:   "below",
		api.ErrCells:   "cells",
		api.ErrCell:    "cell",
		api.ErrWho:     "who",
		api.ErrToken:   "token",
		api.ErrName:    "name",
		api.ErrSize:    "size",
		api.ErrLine:    "line",
		api.ErrVertex:  "vertex",
		api.ErrWeight:  "weight",
		api.ErrRows:    "rows",
		api.ErrOrder:   "order",
		api.ErrList:    "list",
		api.ErrMagic:   "magic",
		api.ErrVersion: "version",
		api.ErrSection: "section",
		api.ErrSum:     "sum",
		api.ErrTail:    "tail",
		api.ErrKind:    "kind",
		api.ErrLabel:   "label",
		api.ErrReach:   "reach",
		api.ErrProof:   "proof",
		api.ErrShape:   "shape",
		api.ErrBusy:    "busy",
		api.ErrFull:    "full",
		api.ErrEvents:  "events",
		api.ErrMany:    "many",
		api.ErrTwice:   "twice",
		api.ErrState:   "state",
		api.ErrCommand: "command",
	}
	return names[e]
}
