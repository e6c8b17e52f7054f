package horizon

// doEvents does the events of a right model below the end, one behind the
// other, and answers the processes as they are then and how many events were
// done. It gives up just above the limit, since the events of a model can
// double at every unit of time.
func doEvents(m Model, end int) ([]*process, int) {
	procs := newProcesses(m, end)
	count := 0
	for count <= maxEvents {
		p := leastProcess(procs)
		x, ok := p.Least()
		if !ok || x.Time >= end {
			break
		}
		p.Pop()
		for _, e := range p.do(m, x) {
			procs[m.Links[e.link].To].Push(e.Item)
		}
		count++
	}
	return procs, count
}

// leastProcess answers the process at which the least event of all is. No
// two events are equal, so there is one such process, if there is an event.
func leastProcess(procs []*process) *process {
	best := procs[0]
	for _, p := range procs[1:] {
		x, ok := p.Least()
		y, other := best.Least()
		if ok && (!other || x.before(y)) {
			best = p
		}
	}
	return best
}
