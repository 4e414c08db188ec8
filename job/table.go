package job

import "wayfare/api"

// command is how a command is read, written and run.
type command struct {
	kind  int
	read  func(*reader, *api.Order) error         // what stands behind its first word
	write func(*api.Order) (string, error)        // likewise; what it writes it takes out of the order
	run   func(*state, api.Order) (string, error) // its answer
}

// commands are all commands, by their first words.
var commands = map[string]command{}

// firstWords are the commands' first words, by their kinds.
var firstWords = [...]string{
	api.JobGraph:   "graph",
	api.JobPack:    "pack",
	api.JobPlan:    "plan",
	api.JobPicks:   "picks",
	api.JobWords:   "words",
	api.JobRun:     "run",
	api.JobStep:    "step",
	api.JobFinish:  "finish",
	api.JobLive:    "live",
	api.JobSerial:  "serial",
	api.JobLabels:  "labels",
	api.JobPath:    "path",
	api.JobView:    "view",
	api.JobCheck:   "check",
	api.JobVoucher: "voucher",
	api.JobHistory: "history",
	api.JobRanks:   "ranks",
	api.JobLog:     "log",
	api.JobDump:    "dump",
	api.JobStats:   "stats",
	api.JobStrong:  "strong",
	api.JobSeek:    "seek",
	api.JobLadder:  "ladder",
}

func init() {
	alone := form{}
	named := form{name{}}
	text := form{name{}, lines{}}
	from := form{name{}, fixed("from"), anyNumber}
	way := form{name{}, fixed("from"), anyNumber, fixed("to"), anyNumber}
	add := func(kind int, f form, run func(*state, api.Order) (string, error)) {
		commands[firstWords[kind]] = command{kind, f.read, f.write, run}
	}
	add(api.JobGraph, text, (*state).doGraph)
	add(api.JobPack, text, (*state).doPack)
	add(api.JobPlan, planForm(), (*state).doPlan)
	add(api.JobPicks, form{picks{}}, (*state).doPicks)
	add(api.JobWords, form{smallNumber, draws{}}, (*state).doWords)
	add(api.JobRun, from, (*state).doRun)
	add(api.JobStep, form{smallNumber}, (*state).doStep)
	add(api.JobFinish, alone, (*state).doFinish)
	add(api.JobLive, from, (*state).doLive)
	add(api.JobSerial, from, (*state).doSerial)
	add(api.JobLabels, alone, (*state).doLabels)
	add(api.JobPath, form{anyNumber}, (*state).doPath)
	add(api.JobView, alone, (*state).doView)
	add(api.JobCheck, alone, (*state).doCheck)
	add(api.JobVoucher, alone, (*state).doVoucher)
	add(api.JobHistory, alone, (*state).doHistory)
	add(api.JobRanks, alone, (*state).doRanks)
	add(api.JobLog, form{smallNumber}, (*state).doLog)
	add(api.JobDump, named, (*state).doDump)
	add(api.JobStats, named, (*state).doStats)
	add(api.JobStrong, named, (*state).doStrong)
	add(api.JobSeek, way, (*state).doSeek)
	add(api.JobLadder, way, (*state).doLadder)
}

// commandOf is the command of a kind; false, if there is none.
func commandOf(kind int) (command, bool) {
	if kind < 0 || kind >= len(firstWords) {
		return command{}, false
	}
	c, known := commands[firstWords[kind]]
	return c, known
}
