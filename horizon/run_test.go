package horizon

import (
	"math"
	"math/rand"
	"reflect"
	"runtime"
	"slices"
	"testing"
	"time"
)

// answer is what Run answers.
type answer struct {
	states []int
	lists  [][]Done
	e      Errno
	n      int
}

func runOf(m Model, end int) (a answer) {
	a.states, a.lists, a.e, a.n = Run(m, end)
	return a
}

// same holds an answer against the one that is wanted. Whether a list without
// events is nil is left open; what stands beside an error is not.
func (a answer) same(want answer) bool {
	if a.e != OK && (a.states != nil || a.lists != nil) {
		return false
	}
	return a.e == want.e && a.n == want.n && slices.Equal(a.states, want.states) &&
		slices.EqualFunc(a.lists, want.lists, slices.Equal[[]Done])
}

// plainAnswer is what Run has to answer at a model that is right but for the
// number of its events.
func plainAnswer(m Model, end int) answer {
	states, lists, count := plainRun(m, end, 300)
	if count > 300 {
		return answer{e: ErrEvents}
	}
	return answer{states: states, lists: lists}
}

// runSoon runs a model, and fails where Run hangs.
func runSoon(t *testing.T, name string, m Model, end int) answer {
	t.Helper()
	got := make(chan answer, 1)
	go func() { got <- runOf(m, end) }()
	limit := time.NewTimer(time.Minute)
	defer limit.Stop()
	select {
	case a := <-got:
		return a
	case <-limit.C:
		t.Fatalf("%s: Run to %d hangs:\n%s", name, end, allStacks())
	}
	return answer{}
}

// tryAnswer runs a model so many times with one, two and eight processors:
// however its goroutines run, the answer is the same.
func tryAnswer(t *testing.T, name string, m Model, end, times int, want answer) {
	t.Helper()
	defer runtime.GOMAXPROCS(runtime.GOMAXPROCS(0))
	for _, processors := range []int{1, 2, 8} {
		runtime.GOMAXPROCS(processors)
		for k := range times {
			if got := runSoon(t, name, m, end); !got.same(want) {
				t.Errorf("%s: with %d processors, run %d to %d is %+v, want %+v", name, processors, k, end, got, want)
				return
			}
		}
	}
}

// manyTimes is how often a model that was written by hand is run, with each
// number of processors.
const manyTimes = 20

// tryRun runs a right model many times.
func tryRun(t *testing.T, name string, m Model, end int, wantStates []int, wantLists [][]Done) {
	t.Helper()
	tryAnswer(t, name, m, end, manyTimes, answer{states: wantStates, lists: wantLists})
}

// tryRefused runs a model that is not right: beside the error and its number
// there is nothing.
func tryRefused(t *testing.T, name string, m Model, end int, wantErr Errno, wantNum int) {
	t.Helper()
	tryAnswer(t, name, m, end, manyTimes, answer{e: wantErr, n: wantNum})
}

// ring: a load that goes from 0 over 1 and 2 to 0 again; process 0 sends to
// itself, too.
func ring() Model {
	return Model{
		Procs: 3, States: 2, Loads: 2,
		Links: []Link{{From: 0, To: 1, Ahead: 2}, {From: 1, To: 2, Ahead: 3}, {From: 2, To: 0, Ahead: 1}, {From: 0, To: 0, Ahead: 4}},
		Rules: []Rule{
			{Proc: 0, State: 0, Load: 0, Next: 1, Emits: []Emit{{Link: 0, Delay: 2, Load: 1}, {Link: 3, Delay: 4, Load: 1}}},
			{Proc: 0, State: 1, Load: 1, Next: 0},
			{Proc: 1, State: 0, Load: 1, Next: 1, Emits: []Emit{{Link: 1, Delay: 3, Load: 0}}},
			{Proc: 2, State: 0, Load: 0, Next: 0, Emits: []Emit{{Link: 2, Delay: 1, Load: 0}}},
		},
		Starts: []Start{{Proc: 0, Time: 1, Load: 0}},
	}
}

func TestP4Ring(t *testing.T) {
	at0 := []Done{{1, -1, 0, 0, 1}, {5, 0, 1, 1, 0}, {7, 2, 0, 0, 1}, {11, 0, 3, 1, 0}}
	at1 := []Done{{3, 0, 0, 1, 1}, {9, 0, 2, 1, 1}}
	at2 := []Done{{6, 1, 0, 0, 0}}
	for _, c := range []struct {
		end, in0, in1, in2 int
		states             []int
	}{
		{0, 0, 0, 0, []int{0, 0, 0}},
		{1, 0, 0, 0, []int{0, 0, 0}},
		{2, 1, 0, 0, []int{1, 0, 0}},
		{3, 1, 0, 0, []int{1, 0, 0}},
		{4, 1, 1, 0, []int{1, 1, 0}},
		{6, 2, 1, 0, []int{0, 1, 0}},
		{7, 2, 1, 1, []int{0, 1, 0}},
		{9, 3, 1, 1, []int{1, 1, 0}},
		{11, 3, 2, 1, []int{1, 1, 0}},
		{12, 4, 2, 1, []int{0, 1, 0}},
		{200, 4, 2, 1, []int{0, 1, 0}},
	} {
		tryRun(t, "ring", ring(), c.end, c.states, [][]Done{at0[:c.in0], at1[:c.in1], at2[:c.in2]})
	}
}

// equalTimes has a start and an emission of each process come to process 0
// at the same time. Only in the right order do they take it through all its
// states.
func equalTimes() Model {
	return Model{
		Procs: 3, States: 5, Loads: 6,
		Links: []Link{{From: 2, To: 0, Ahead: 6}, {From: 1, To: 0, Ahead: 1}, {From: 0, To: 0, Ahead: 3}},
		Rules: []Rule{
			{State: 0, Load: 0, Next: 1}, {State: 1, Load: 1, Next: 2}, {State: 2, Load: 2, Next: 3}, {State: 3, Load: 3, Next: 4},
			{Proc: 0, Load: 5, Emits: []Emit{{Link: 2, Delay: 3, Load: 1}}},
			{Proc: 1, Emits: []Emit{{Link: 1, Delay: 4, Load: 2}}},
			{Proc: 2, Emits: []Emit{{Link: 0, Delay: 6, Load: 3}}},
		},
		Starts: []Start{{Proc: 2, Time: 2}, {Proc: 1, Time: 4}, {Proc: 0, Time: 5, Load: 5}, {Proc: 0, Time: 8, Load: 0}},
	}
}

func TestP4EqualTimes(t *testing.T) {
	tryRun(t, "equal times", equalTimes(), 9, []int{4, 0, 0}, [][]Done{
		{{5, -1, 2, 5, 0}, {8, -1, 3, 0, 1}, {8, 0, 0, 1, 2}, {8, 1, 0, 2, 3}, {8, 2, 0, 3, 4}},
		{{4, -1, 1, 0, 0}},
		{{2, -1, 0, 0, 0}},
	})
}

// twoLinks: two links from 0 to 1, along which emissions overtake each
// other, and one from 0 to itself.
func twoLinks() Model {
	return Model{
		Procs: 2, States: 2, Loads: 3,
		Links:  []Link{{From: 0, To: 1, Ahead: 1}, {From: 0, To: 0, Ahead: 1}, {From: 0, To: 1, Ahead: 2}},
		Rules:  []Rule{{Load: 0, Next: 1, Emits: []Emit{{Link: 2, Delay: 9, Load: 1}, {Link: 1, Delay: 1, Load: 1}, {Link: 0, Delay: 9, Load: 2}, {Link: 0, Delay: 3, Load: 0}}}, {State: 1, Load: 0, Next: 0, Emits: []Emit{{Link: 0, Delay: 5, Load: 0}}}},
		Starts: []Start{{Time: 7}, {Proc: 1, Time: 6, Load: 2}, {Time: 3}, {Proc: 1, Time: 6, Load: 1}},
	}
}

// TestP4Numbers: a process numbers its emissions in the rule's order and in
// the whole run, along whatever link they go; starts are numbered by where
// they stand.
func TestP4Numbers(t *testing.T) {
	tryRun(t, "numbers", twoLinks(), 200, []int{0, 0}, [][]Done{
		{{3, -1, 2, 0, 1}, {4, 0, 1, 1, 1}, {7, -1, 0, 0, 0}},
		{{6, -1, 1, 2, 0}, {6, -1, 3, 1, 0}, {6, 0, 3, 0, 0}, {12, 0, 0, 1, 0}, {12, 0, 2, 2, 0}, {12, 0, 4, 0, 0}},
	})
}

// TestP4SameRuleElsewhere: a rule is for one process, one state and one load
// alone.
func TestP4SameRuleElsewhere(t *testing.T) {
	m := Model{
		Procs: 2, States: 3, Loads: 2,
		Rules:  []Rule{{Proc: 1, State: 0, Load: 0, Next: 1}, {Proc: 0, State: 1, Load: 0, Next: 2}, {Proc: 0, State: 0, Load: 1, Next: 2}, {Proc: 1, State: 2, Load: 1, Next: 0}},
		Starts: []Start{{Proc: 0, Time: 1, Load: 0}, {Proc: 1, Time: 1, Load: 1}, {Proc: 1, Time: 2, Load: 0}, {Proc: 1, Time: 3, Load: 1}, {Proc: 0, Time: 4, Load: 1}, {Proc: 0, Time: 5, Load: 1}},
	}
	tryRun(t, "rules", m, 200, []int{2, 1}, [][]Done{
		{{1, -1, 0, 0, 0}, {4, -1, 4, 1, 2}, {5, -1, 5, 1, 2}},
		{{1, -1, 1, 1, 0}, {2, -1, 2, 0, 1}, {3, -1, 3, 1, 1}},
	})
}

func TestP4Edges(t *testing.T) {
	tryRun(t, "least model", Model{Procs: 1, States: 1, Loads: 1}, 200, []int{0}, [][]Done{{}})
	noStart := ring()
	noStart.Starts = nil
	tryRun(t, "no start", noStart, 200, []int{0, 0, 0}, [][]Done{{}, {}, {}})
	noRule := ring()
	noRule.Rules = nil
	noRule.Starts = []Start{{Proc: 2, Time: 9, Load: 1}, {Proc: 0, Time: 3}, {Proc: 2, Time: 0}, {Proc: 2, Time: 9}}
	tryRun(t, "no rule, and nothing at 1", noRule, 10, []int{0, 0, 0},
		[][]Done{{{3, -1, 1, 0, 0}}, {}, {{0, -1, 2, 0, 0}, {9, -1, 0, 1, 0}, {9, -1, 3, 0, 0}}})
	early := ring()
	early.Starts[0].Time = 0
	tryRun(t, "end 0", early, 0, []int{0, 0, 0}, [][]Done{{}, {}, {}})
	tryRun(t, "end 1", early, 1, []int{1, 0, 0}, [][]Done{{{0, -1, 0, 0, 1}}, {}, {}})
	late := Model{Procs: 1, States: 2, Loads: 1, Links: []Link{{Ahead: 1}},
		Rules: []Rule{{Next: 1, Emits: []Emit{{Delay: 1}}}}, Starts: []Start{{Time: 200}, {Time: 199}}}
	tryRun(t, "at the last end", late, 200, []int{1}, [][]Done{{{199, -1, 1, 0, 1}}})
	tryRun(t, "just below it", late, 199, []int{0}, [][]Done{{}})
	six := Model{Procs: 6, States: 6, Loads: 6, Rules: []Rule{{Proc: 5, Load: 5, Next: 5}}, Starts: []Start{{Proc: 5, Load: 5}}}
	tryRun(t, "the last of all", six, 1, []int{0, 0, 0, 0, 0, 5}, [][]Done{{}, {}, {}, {}, {}, {{0, -1, 0, 5, 5}}})
}

func TestP4MostEvents(t *testing.T) {
	var want []Done
	first, second := 0, 0 // the emissions that come of each of the two starts
	for time := range 200 {
		switch {
		case time == 0:
			want = append(want, Done{Time: 0, From: -1, Seq: 0})
		case time < 100:
			want = append(want, Done{Time: time, From: 0, Seq: time - 1})
		case time == 100:
			want = append(want, Done{Time: 100, From: -1, Seq: 1}, Done{Time: 100, From: 0, Seq: 99})
			// The start comes ahead of the emission, so it emits ahead of it.
			second, first = 100, 101
		default:
			want = append(want, Done{Time: time, From: 0, Seq: second}, Done{Time: time, From: 0, Seq: first})
			first, second = first+2, second+2
		}
	}
	if len(want) != 300 {
		t.Fatalf("the test itself has %d events", len(want))
	}
	tryRun(t, "300 events", ticking(0, 100), 200, []int{0}, [][]Done{want})
	tryRefused(t, "301 events", ticking(0, 99), 200, ErrEvents, 0)
	tryRefused(t, "endless doubling", doubling(), 200, ErrEvents, 0)
}

// wrongModel is a change to pair by which it is refused, and with what.
type wrongModel struct {
	name string
	make change
	end  int
	err  Errno
	num  int
}

func wrongModels() []wrongModel {
	return []wrongModel{
		{"no process", func(m *Model) { m.Procs = 0 }, 9, ErrRange, 0},
		{"seven states", func(m *Model) { m.States = 7 }, 9, ErrRange, 0},
		{"loads below 0", func(m *Model) { m.Loads = math.MinInt }, 9, ErrRange, 0},
		{"many links", func(m *Model) { m.Links = make([]Link, 13) }, 9, ErrRange, 0},
		{"many rules", func(m *Model) { m.Rules = make([]Rule, 41) }, 9, ErrRange, 0},
		{"many starts", func(m *Model) { m.Starts = make([]Start, 13) }, 9, ErrRange, 0},
		{"link 0", func(m *Model) { m.Links[0].From = 2 }, 9, ErrLink, 0},
		{"link 1", func(m *Model) { m.Links[1].To = -1 }, 9, ErrLink, 1},
		{"link 1, Ahead", func(m *Model) { m.Links[1].Ahead = 51 }, 9, ErrLink, 1},
		{"rule 0", func(m *Model) { m.Rules[0].Proc = 2 }, 9, ErrRule, 0},
		{"rule 1, State", func(m *Model) { m.Rules[1].State = 3 }, 9, ErrRule, 1},
		{"rule 1, Load", func(m *Model) { m.Rules[1].Load = -1 }, 9, ErrRule, 1},
		{"rule 1, Next", func(m *Model) { m.Rules[1].Next = 3 }, 9, ErrRule, 1},
		{"rule 1, emissions", func(m *Model) { m.Rules[1].Emits = make([]Emit, 5) }, 9, ErrRule, 1},
		{"rule 1, Link", func(m *Model) { m.Rules[1].Emits[1].Link = 0 }, 9, ErrRule, 1},
		{"rule 1, Delay", func(m *Model) { m.Rules[1].Emits[1].Delay = 49 }, 9, ErrRule, 1},
		{"rule 1, emitted Load", func(m *Model) { m.Rules[1].Emits[1].Load = 3 }, 9, ErrRule, 1},
		{"rule 2, same again", func(m *Model) { m.Rules = append(m.Rules, m.Rules[0]) }, 9, ErrRule, 2},
		{"start 0", func(m *Model) { m.Starts[0].Proc = math.MaxInt }, 9, ErrStart, 0},
		{"start 1, Time", func(m *Model) { m.Starts[1].Time = 201 }, 9, ErrStart, 1},
		{"start 1, Load", func(m *Model) { m.Starts[1].Load = 3 }, 9, ErrStart, 1},
		{"end below 0", func(m *Model) {}, -1, ErrEnd, 0},
		{"end above 200", func(m *Model) {}, 201, ErrEnd, 0},
		{"events", func(m *Model) { *m = doubling() }, 9, ErrEvents, 0},
		{"rule 1 and start 0", func(m *Model) { m.Rules[1].Next, m.Starts[0].Load = 3, 3 }, 201, ErrRule, 1},
	}
}

func TestP4Errors(t *testing.T) {
	for _, c := range wrongModels() {
		m := pair()
		c.make(&m)
		tryRefused(t, c.name, m, c.end, c.err, c.num)
	}
}

func TestP4RandomModels(t *testing.T) {
	r := rand.New(rand.NewSource(19))
	busy, refused := 0, 0
	models := many(4000)
	for range models {
		m, end := randomModel(r), r.Intn(201)
		want := plainAnswer(m, end)
		tryAnswer(t, "random model", m, end, 2, want)
		if want.e != OK {
			refused++
		} else if len(slices.Concat(want.lists...)) > 50 {
			busy++
		}
	}
	if busy < models/40 || refused < models/40 {
		t.Errorf("of %d random models only %d have more than 50 events, and only %d too many", models, busy, refused)
	}
}

// TestP4LivelyModels: random models of several processes with many events.
func TestP4LivelyModels(t *testing.T) {
	r := rand.New(rand.NewSource(53))
	for range many(150) {
		c, _ := randomNet(r)
		tryAnswer(t, c.name, c.model, c.end, 4, plainAnswer(c.model, c.end))
		m, end := livelyModel(r), r.Intn(201)
		tryAnswer(t, "lively model", m, end, 4, plainAnswer(m, end))
	}
}

// TestP2RunIsNew: what is done with one answer, or with the model behind it,
// changes neither another answer nor another list of the same one.
func TestP2RunIsNew(t *testing.T) {
	m := ring()
	states, lists, _, _ := Run(m, 200)
	wantStates, wantLists, _ := plainRun(m, 200, 300)
	spoilModel(&m)
	if !slices.Equal(states, wantStates) || !reflect.DeepEqual(lists, wantLists) {
		t.Errorf("changing the model changes the answer: %v, %v", states, lists)
	}
	for p := range lists {
		// A list that leaves room behind could share it with another one.
		if cap(lists[p]) != len(lists[p]) {
			t.Errorf("process %d: room for %d behind %d", p, cap(lists[p]), len(lists[p]))
		}
		clear(lists[p])
		lists[p] = append(lists[p], Done{Time: -7})
		clear(lists[p])
		for q := p + 1; q < len(lists); q++ {
			if !slices.Equal(lists[q], wantLists[q]) {
				t.Errorf("changing the list of %d changes that of %d: %v", p, q, lists[q])
			}
		}
	}
	clear(states)
	tryRun(t, "run again", ring(), 200, wantStates, wantLists)
}

// spoilModel changes every list of a model in place.
func spoilModel(m *Model) {
	for i := range m.Rules {
		clear(m.Rules[i].Emits)
	}
	clear(m.Links)
	clear(m.Rules)
	clear(m.Starts)
}
