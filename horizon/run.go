package horizon

// Run does all that happens below the end, and tells of each process its
// state behind that and what was done at it (P4).
func Run(m Model, end int) ([]int, [][]Done, Errno, int) {
	if e, n := Check(m, end); e != OK {
		return nil, nil, e, n
	}
	procs, _ := doEvents(m, end)
	states := make([]int, len(procs))
	lists := make([][]Done, len(procs))
	for i, p := range procs {
		states[i], lists[i] = p.state, p.told()
	}
	return states, lists, OK, 0
}
