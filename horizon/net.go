package horizon

import "slices"

// Net is processes that are stepped one by one. Make it by Open.
type Net struct {
	model Model
	procs []*process
	links [][]parcel // what is under way along each link, in the order in which it was sent
}

// Open makes a net in which nothing is done yet (P5).
func Open(m Model, end int) (*Net, Errno, int) {
	if e, n := Check(m, end); e != OK {
		return nil, e, n
	}
	return &Net{model: m.kept(), procs: newProcesses(m, end), links: make([][]parcel, len(m.Links))}, OK, 0
}

// kept answers what a net needs of a model once the starts are in the queues,
// as a model that shares nothing with this one.
func (m Model) kept() Model {
	m.Links = slices.Clone(m.Links)
	m.Rules = slices.Clone(m.Rules)
	for i := range m.Rules {
		m.Rules[i].Emits = slices.Clone(m.Rules[i].Emits)
	}
	m.Starts = nil
	return m
}

// Step lets a process take in what has come to it and do what it is sure of
// (P6). What it sends itself has come at once: so it goes on till nothing
// has.
func (n *Net) Step(p int) bool {
	if !n.has(p) {
		return false
	}
	changed := false
	for n.goOn(n.procs[p]) {
		changed = true
	}
	return changed
}

// See tells a process's state and what was done at it so far (P5).
func (n *Net) See(p int) (int, []Done) {
	if !n.has(p) {
		return 0, nil
	}
	return n.procs[p].state, n.procs[p].told()
}

// Over tells whether all is done (P9): whether no event waits, neither at a
// process nor under way. In a net that Open refused nothing ever waits.
func (n *Net) Over() bool {
	if n == nil {
		return true
	}
	return !slices.ContainsFunc(n.procs, (*process).waits) && !slices.ContainsFunc(n.links, carriesEvent)
}

// carriesEvent tells whether an event is under way along a link.
func carriesEvent(link []parcel) bool {
	return slices.ContainsFunc(link, func(x parcel) bool { return x.kind == kindMessage })
}

// has tells whether the net has such a process; one that Open refused has
// none.
func (n *Net) has(p int) bool { return n != nil && n.model.isProc(p) }

// goOn takes in what has come to a process, lets it advance, and tells
// whether anything has changed by that.
func (n *Net) goOn(p *process) bool {
	took := n.deliver(p)
	did := len(p.done)
	sent := p.advance(n.model)
	for _, x := range sent {
		n.links[x.link] = append(n.links[x.link], x)
	}
	return took || len(sent) > 0 || len(p.done) > did
}

// deliver gives a process what is under way to it, and tells whether there
// was anything.
func (n *Net) deliver(p *process) bool {
	took := false
	for i, l := range n.model.Links {
		if l.To != p.number {
			continue
		}
		for _, x := range n.links[i] {
			p.takeIn(x)
			took = true
		}
		n.links[i] = nil
	}
	return took
}
