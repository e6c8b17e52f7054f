package horizon

// eventWidth is the width of the queues in which events wait: delays are
// small, so a day holds a few of them.
const eventWidth = 8

// process is one of a model's processes; its queue holds the events that
// wait at it.
type process struct {
	Queue
	number int
	state  int
	sent   int // how many emissions it has made: the next one's Seq
}

// emission is an event under way along a link.
type emission struct {
	Item
	link int
}

// newProcesses answers the processes of a right model, with the events of
// the starts at them.
func newProcesses(m Model) []*process {
	procs := make([]*process, m.Procs)
	for i := range procs {
		procs[i] = &process{Queue: *NewQueue(eventWidth), number: i}
	}
	for i, s := range m.Starts {
		procs[s.Proc].Push(Item{Time: s.Time, From: -1, Seq: i, Load: s.Load})
	}
	return procs
}

// do takes the process through an event and answers what it emits by that.
func (p *process) do(m Model, x Item) []emission {
	i := findRule(m.Rules, p.number, p.state, x.Load)
	if i < 0 {
		return nil
	}
	r := m.Rules[i]
	p.state = r.Next
	out := make([]emission, 0, len(r.Emits))
	for _, e := range r.Emits {
		y := Item{Time: x.Time + e.Delay, From: p.number, Seq: p.sent, Load: e.Load}
		out = append(out, emission{Item: y, link: e.Link})
		p.sent++
	}
	return out
}
