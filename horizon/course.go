package horizon

// countEvents does the events of a right model below the end, one behind the
// other, and answers how many they are. It gives up just above the limit,
// since the events of a model can double at every unit of time.
func countEvents(m Model, end int) int {
	procs := newProcesses(m, end)
	count := 0
	for count <= maxEvents {
		p := leastProcess(procs)
		x, ok := p.Least()
		if !ok || x.Time >= end {
			break
		}
		p.Pop()
		for _, e := range p.do(m, x) {
			procs[m.Links[e.link].To].Push(e.Item)
		}
		count++
	}
	return count
}

// leastProcess answers the process at which the least event of all is. No
// two events are equal, so there is one such process, if there is an event.
func leastProcess(procs []*process) *process {
	best := procs[0]
	for _, p := range procs[1:] {
		x, ok := p.Least()
		y, other := best.Least()
		if ok && (!other || x.before(y)) {
			best = p
		}
	}
	return best
}
