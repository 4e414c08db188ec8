package crew

import (
	"wayfare/api"
	"wayfare/arena"
)

// diary is what is put down of a run that is played, where one step comes behind the other: workers that go all at once have none.
type diary struct {
	arena  *arena.Arena
	keep   bool // events are put down too
	born   []api.Task
	ended  []api.Task
	events []api.Event
}

// keepDiary begins the diary of a search of which no step was made.
func (s *search) keepDiary(events bool) {
	s.diary = &diary{arena: s.arena, keep: events, born: tasksOf(s.labels())}
}

func (d *diary) putBorn(t api.Task) {
	if d != nil {
		d.born = append(d.born, t)
	}
}

func (d *diary) putEnded(t api.Task) {
	if d != nil {
		d.ended = append(d.ended, t)
	}
}

// putEvent puts down what came about behind the accesses made so far.
func (d *diary) putEvent(who, kind int, t api.Task) {
	if d != nil && d.keep {
		d.events = append(d.events, api.Event{At: d.arena.Count(), Who: who, Kind: kind, Task: t})
	}
}
