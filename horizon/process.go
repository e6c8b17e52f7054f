package horizon

// eventWidth is the width of the queues in which events wait: delays are
// small, so a day holds a few of them.
const eventWidth = 8

// process is one of a model's processes; its queue holds the events that
// wait at it, and its clock tells which of them it is sure of.
type process struct {
	Queue
	clock
	number int
	state  int
	sent   int // how many emissions it has made: the next one's Seq
	done   []Done
}

// newProcesses answers the processes of a right model, with the events of
// the starts at them.
func newProcesses(m Model, end int) []*process {
	procs := make([]*process, m.Procs)
	for i := range procs {
		procs[i] = &process{Queue: *NewQueue(eventWidth), clock: newClock(m, i, end), number: i}
	}
	for i, s := range m.Starts {
		procs[s.Proc].Push(Item{Time: s.Time, From: -1, Seq: i, Load: s.Load})
	}
	return procs
}

// takeIn takes in what has come along a link.
func (p *process) takeIn(x parcel) {
	switch x.kind {
	case kindMessage:
		p.Push(x.Item)
	case kindWord:
		p.hear(x.link, x.Time)
	case kindEnd:
		p.hearEnd(x.link)
	}
}

// advance does the events of which the process is sure: those at a time at
// which nothing can come any more, as what comes at the same time may be
// before them. It answers what the process sends by that. The words stand
// behind the messages: what a word rules out is under way ahead of it.
func (p *process) advance(m Model) []parcel {
	var out []parcel
	sure := p.horizon()
	for x, ok := p.Least(); ok && x.Time < sure; x, ok = p.Least() {
		p.Pop()
		for _, y := range p.do(m, x) {
			// No process waits for what comes at the end or behind it.
			if y.Time < p.end {
				out = append(out, y)
			}
		}
	}
	return append(out, p.words(sure)...)
}

// waits tells whether an event that is to be done is in the process's queue.
func (p *process) waits() bool {
	x, ok := p.Least()
	return ok && x.Time < p.end
}

// do takes the process through an event and answers what it emits by that.
func (p *process) do(m Model, x Item) []parcel {
	var out []parcel
	if i := findRule(m.Rules, p.number, p.state, x.Load); i >= 0 {
		p.state = m.Rules[i].Next
		out = p.emit(m.Rules[i].Emits, x.Time)
	}
	p.done = append(p.done, Done{Time: x.Time, From: x.From, Seq: x.Seq, Load: x.Load, State: p.state})
	return out
}

// emit answers the emissions that the process makes at a time.
func (p *process) emit(emits []Emit, time int) []parcel {
	out := make([]parcel, 0, len(emits))
	for _, e := range emits {
		y := Item{Time: time + e.Delay, From: p.number, Seq: p.sent, Load: e.Load}
		out = append(out, parcel{kind: kindMessage, link: e.Link, Item: y})
		p.sent++
	}
	return out
}

// told answers what the process has done, as a list of its own: neither what
// is changed in it nor what is appended to it falls into the process's list
// or into another one that was told.
func (p *process) told() []Done {
	k := len(p.done)
	return append([]Done{}, p.done...)[:k:k]
}
