package horizon

import (
	"slices"
	"testing"
)

// watch steps a net and holds it, behind every single step, against P5 to
// P9.
type watch struct {
	t     *testing.T
	name  string
	model Model
	end   int
	net   *Net
	lists [][]Done    // what Run tells
	idle  map[int]int // the processes whose Step was false since one was true last
}

// seen is what See tells of a process.
type seen struct {
	state int
	done  []Done
}

func openNet(t *testing.T, name string, m Model, end int) *Net {
	t.Helper()
	net, e, n := Open(m, end)
	if net == nil || e != OK || n != 0 {
		t.Fatalf("%s: Open = %v, %d, %d, want a net, %d, 0", name, net, e, n, OK)
	}
	return net
}

func openWatch(t *testing.T, name string, m Model, end int) *watch {
	t.Helper()
	_, lists, e, _ := Run(m, end)
	if e != OK {
		t.Fatalf("%s: Run refuses it: %d", name, e)
	}
	w := &watch{t: t, name: name, model: copyModel(m), end: end, net: openNet(t, name, m, end), lists: lists, idle: map[int]int{}}
	for p, x := range seeAll(w.net, m.Procs) {
		if x.state != 0 || len(x.done) > 0 {
			t.Fatalf("%s: P5: in a new net process %d is in state %d, behind %v", name, p, x.state, x.done)
		}
	}
	w.tryOver()
	return w
}

func seeAll(net *Net, procs int) []seen {
	all := make([]seen, procs)
	for p := range all {
		all[p].state, all[p].done = net.See(p)
	}
	return all
}

func sameSeen(a, b seen) bool { return a.state == b.state && slices.Equal(a.done, b.done) }

func (w *watch) fatalf(format string, args ...any) {
	w.t.Helper()
	w.t.Fatalf(w.name+": "+format, args...)
}

// step steps a process and looks at all that P6 to P9 say of it.
func (w *watch) step(p int) bool {
	w.t.Helper()
	before := seeAll(w.net, w.model.Procs)
	changed := w.net.Step(p)
	after := seeAll(w.net, w.model.Procs)
	for q := range after {
		if (q != p || !changed) && !sameSeen(before[q], after[q]) {
			w.fatalf("P6: Step(%d), which was %t, changes process %d from %v to %v", p, changed, q, before[q], after[q])
		}
		w.tryBeginning(q, after[q])
	}
	for i := len(before[p].done); i < len(after[p].done); i++ {
		w.tryEmitted(p, after[p].done[i], after)
		w.tryNotAhead(p, after[p].done[i].Time, after)
	}
	w.tryOver()
	w.tryGoesOn(p, changed)
	return changed
}

// tryBeginning is P7.
func (w *watch) tryBeginning(q int, x seen) {
	w.t.Helper()
	k := len(x.done)
	if k > len(w.lists[q]) || !slices.Equal(x.done, w.lists[q][:k]) {
		w.fatalf("P7: done at %d is %v, Run tells %v", q, x.done, w.lists[q])
	}
	want := 0
	if k > 0 {
		want = x.done[k-1].State
	}
	if x.state != want {
		w.fatalf("P7: process %d is in state %d behind %v", q, x.state, x.done)
	}
}

// tryEmitted is the first part of P8.
func (w *watch) tryEmitted(p int, x Done, all []seen) {
	w.t.Helper()
	if x.From < 0 {
		return
	}
	made := emissions(w.model, x.From, all[x.From].done)
	if x.Seq >= len(made) || made[x.Seq] != (plainEvent{p, x.Time, x.From, x.Seq, x.Load}) {
		w.fatalf("P8: %+v is done at %d, and process %d has emitted %v", x, p, x.From, made)
	}
}

// emissions answers what a process has emitted by what was done at it.
func emissions(m Model, p int, done []Done) []plainEvent {
	var made []plainEvent
	state := 0
	for _, x := range done {
		for _, r := range m.Rules {
			if r.Proc != p || r.State != state || r.Load != x.Load {
				continue
			}
			for _, e := range r.Emits {
				made = append(made, plainEvent{m.Links[e.Link].To, x.Time + e.Delay, p, len(made), e.Load})
			}
		}
		state = x.State
	}
	return made
}

// tryNotAhead is the second part of P8.
func (w *watch) tryNotAhead(p, time int, all []seen) {
	w.t.Helper()
	for _, l := range w.model.Links {
		if l.To != p {
			continue
		}
		for i, y := range w.lists[l.From] {
			if y.Time <= time-l.Ahead && i >= len(all[l.From].done) {
				w.fatalf("P8: an event at %d is done at process %d, and %+v is not done at %d", time, p, y, l.From)
			}
		}
	}
}

func (w *watch) tryOver() {
	w.t.Helper()
	want := true
	for p, x := range seeAll(w.net, w.model.Procs) {
		want = want && len(x.done) == len(w.lists[p])
	}
	if got := w.net.Over(); got != want {
		w.fatalf("P9: Over is %t, want %t", got, want)
	}
}

// tryGoesOn: as a step that is false changes nothing, all processes whose
// steps were false one behind the other would be so at the same time.
func (w *watch) tryGoesOn(p int, changed bool) {
	w.t.Helper()
	if changed {
		clear(w.idle)
		return
	}
	w.idle[p]++
	if w.quiet() && !w.net.Over() {
		w.fatalf("P9: it is not over, and no process goes on")
	}
}

// quiet tells whether every process's Step is known to be false.
func (w *watch) quiet() bool { return len(w.idle) == w.model.Procs }

// rounds is the number that P9 names.
func (w *watch) rounds() int {
	count := 0
	for _, l := range w.lists {
		count += len(l)
	}
	return (w.end + count + 2) * (w.model.Procs + 2)
}

// finish is P9 from here on: the rounds that it names, as many more, and
// then every Step is false. Steps behind the first quiet round are not
// watched one by one, as they change nothing.
func (w *watch) finish() {
	w.t.Helper()
	for range w.rounds() {
		w.round()
	}
	if !w.net.Over() {
		w.fatalf("P9: not over behind %d rounds", w.rounds())
	}
	for range w.rounds() {
		w.round()
	}
	for p := range w.model.Procs {
		if w.step(p) {
			w.fatalf("P9: Step(%d) is true behind twice %d rounds", p, w.rounds())
		}
	}
}

func (w *watch) round() {
	w.t.Helper()
	watched := !w.quiet()
	for p := range w.model.Procs {
		if watched {
			w.step(p)
		} else if w.net.Step(p) {
			w.fatalf("P9: Step(%d) is true, and all was false", p)
		}
	}
}
