package arena

import (
	"slices"

	"wayfare/api"
)

// carryOut tells an access as it is over a cell that holds seen: of what was asked it takes what its kind has a use for. It tells false of a kind that is none.
func carryOut(asked api.Access, seen uint64) (api.Access, bool) {
	made := api.Access{Who: asked.Who, Kind: asked.Kind, Cell: asked.Cell, Put: asked.Put, Seen: seen, Ok: true}
	switch asked.Kind {
	case api.AccLoad:
		made.Put, made.Left = 0, seen
	case api.AccStore, api.AccSwap:
		made.Left = asked.Put
	case api.AccCas:
		made.Want, made.Left, made.Ok = asked.Want, seen, seen == asked.Want
		if made.Ok {
			made.Left = asked.Put
		}
	case api.AccAdd:
		made.Left = seen + asked.Put
	default:
		return api.Access{}, false
	}
	return made, true
}

// Replay makes accesses again from given cells: the first that is not as it says (-1: none), and the cells ahead of it.
func Replay(image []uint64, log []api.Access) (int, []uint64) {
	cells := slices.Clone(image)
	for i, told := range log {
		if !hasCell(cells, told.Cell) {
			return i, cells
		}
		made, known := carryOut(told, cells[told.Cell])
		if !known || made != told {
			return i, cells
		}
		cells[told.Cell] = made.Left
	}
	return -1, cells
}
