package horizon

import "slices"

const (
	maxProcs  = 6
	maxStates = 6
	maxLoads  = 6
	maxLinks  = 12
	maxRules  = 40
	maxEmits  = 4
	maxStarts = 12
	maxAhead  = 50
	maxDelay  = 60
	maxEnd    = 200
	maxEvents = 300
	maxWidth  = 100
)

// Check tells whether a model is right (P3).
func Check(m Model, end int) (Errno, int) {
	if e, n := checkParts(m, end); e != OK {
		return e, n
	}
	if countEvents(m, end) > maxEvents {
		return ErrEvents, 0
	}
	return OK, 0
}

// checkParts is Check without the events. Each step relies on the ones ahead
// of it: what they let through can be used as an index.
func checkParts(m Model, end int) (Errno, int) {
	if !fitsLimits(m) {
		return ErrRange, 0
	}
	if i := firstWrongLink(m); i >= 0 {
		return ErrLink, i
	}
	if i := firstWrongRule(m); i >= 0 {
		return ErrRule, i
	}
	if i := firstWrongStart(m); i >= 0 {
		return ErrStart, i
	}
	if !within(end, 0, maxEnd) {
		return ErrEnd, 0
	}
	return OK, 0
}

func within(x, least, most int) bool { return least <= x && x <= most }

func (m Model) isProc(p int) bool  { return within(p, 0, m.Procs-1) }
func (m Model) isState(s int) bool { return within(s, 0, m.States-1) }
func (m Model) isLoad(l int) bool  { return within(l, 0, m.Loads-1) }
func (m Model) isLink(l int) bool  { return within(l, 0, len(m.Links)-1) }

func fitsLimits(m Model) bool {
	return within(m.Procs, 1, maxProcs) &&
		within(m.States, 1, maxStates) &&
		within(m.Loads, 1, maxLoads) &&
		len(m.Links) <= maxLinks &&
		len(m.Rules) <= maxRules &&
		len(m.Starts) <= maxStarts
}

// firstWrongLink answers -1, if all links are right.
func firstWrongLink(m Model) int {
	return slices.IndexFunc(m.Links, func(l Link) bool {
		return !m.isProc(l.From) || !m.isProc(l.To) || !within(l.Ahead, 1, maxAhead)
	})
}

// firstWrongRule answers -1, if all rules are right.
func firstWrongRule(m Model) int {
	for i, r := range m.Rules {
		if !rightRule(m, r) || findRule(m.Rules[:i], r.Proc, r.State, r.Load) >= 0 {
			return i
		}
	}
	return -1
}

// rightRule looks at a rule by itself, not at the rules beside it.
func rightRule(m Model, r Rule) bool {
	if !m.isProc(r.Proc) || !m.isState(r.State) || !m.isLoad(r.Load) || !m.isState(r.Next) {
		return false
	}
	if len(r.Emits) > maxEmits {
		return false
	}
	return !slices.ContainsFunc(r.Emits, func(e Emit) bool { return !rightEmit(m, r.Proc, e) })
}

func rightEmit(m Model, proc int, e Emit) bool {
	if !m.isLink(e.Link) {
		return false
	}
	l := m.Links[e.Link]
	return l.From == proc && within(e.Delay, l.Ahead, maxDelay) && m.isLoad(e.Load)
}

// firstWrongStart answers -1, if all starts are right.
func firstWrongStart(m Model) int {
	return slices.IndexFunc(m.Starts, func(s Start) bool {
		return !m.isProc(s.Proc) || !within(s.Time, 0, maxEnd) || !m.isLoad(s.Load)
	})
}

// findRule answers -1, if there is no rule for that.
func findRule(rules []Rule, proc, state, load int) int {
	return slices.IndexFunc(rules, func(r Rule) bool {
		return r.Proc == proc && r.State == state && r.Load == load
	})
}
