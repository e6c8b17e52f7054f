package horizon

// eventWidth is the width of the queues in which events wait: delays are
// small, so a day holds a few of them.
const eventWidth = 8

// process is one of a model's processes; its queue holds the events that
// wait at it.
type process struct {
	Queue
	number int
	state  int
	sent   int // how many emissions it has made: the next one's Seq
	done   []Done
}

// emission is an event under way along a link.
type emission struct {
	Item
	link int
}

// newProcesses answers the processes of a right model, with the events of
// the starts at them.
func newProcesses(m Model) []*process {
	procs := make([]*process, m.Procs)
	for i := range procs {
		procs[i] = &process{Queue: *NewQueue(eventWidth), number: i}
	}
	for i, s := range m.Starts {
		procs[s.Proc].Push(Item{Time: s.Time, From: -1, Seq: i, Load: s.Load})
	}
	return procs
}

// do takes the process through an event and answers what it emits by that.
func (p *process) do(m Model, x Item) []emission {
	var out []emission
	if i := findRule(m.Rules, p.number, p.state, x.Load); i >= 0 {
		p.state = m.Rules[i].Next
		out = p.emit(m.Rules[i].Emits, x.Time)
	}
	p.done = append(p.done, Done{Time: x.Time, From: x.From, Seq: x.Seq, Load: x.Load, State: p.state})
	return out
}

// emit answers the emissions that the process makes at a time.
func (p *process) emit(emits []Emit, time int) []emission {
	out := make([]emission, 0, len(emits))
	for _, e := range emits {
		y := Item{Time: time + e.Delay, From: p.number, Seq: p.sent, Load: e.Load}
		out = append(out, emission{Item: y, link: e.Link})
		p.sent++
	}
	return out
}

// told answers what the process has done, as a list of its own: neither what
// is changed in it nor what is appended to it falls into the process's list
// or into another one that was told.
func (p *process) told() []Done {
	k := len(p.done)
	return append([]Done{}, p.done...)[:k:k]
}
