package history

import (
	"strings"

	"wayfare/api"
	"wayfare/octet"
)

// greatest is the greatest number that At and Who may be in a text.
const greatest = 1000000000

// words are those of the kinds of events.
var words = [...]string{
	api.EvInsert:   "insert",
	api.EvInserted: "inserted",
	api.EvTake:     "take",
	api.EvTask:     "task",
	api.EvEmpty:    "empty",
	api.EvFull:     "full",
}

// Show writes events.
func Show(events []api.Event) (string, api.Errno) {
	var out strings.Builder
	for _, x := range events {
		if !isEvent(x) || x.At > greatest || x.Who > greatest {
			return "", api.ErrEvents
		}
		out.WriteString(lineOf(x))
	}
	return out.String(), api.OK
}

// lineOf is the line of an event.
func lineOf(x api.Event) string {
	line := octet.Decimal(uint64(x.At)) + " " + octet.Decimal(uint64(x.Who)) + " " + words[x.Kind]
	if hasTask(x.Kind) {
		line += " " + octet.Decimal(x.Task.Key) + " " + octet.Decimal(x.Task.Load)
	}
	return line + "\n"
}
