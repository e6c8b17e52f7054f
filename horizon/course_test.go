package horizon

import (
	"math/rand"
	"slices"
	"testing"
)

// doubling: one event that becomes two, at every unit of time.
func doubling() Model {
	return Model{
		Procs: 1, States: 1, Loads: 1,
		Links:  []Link{{Ahead: 1}},
		Rules:  []Rule{{Emits: []Emit{{Delay: 1}, {Delay: 1}}}},
		Starts: []Start{{}},
	}
}

// ticking: each start comes again at every unit of time.
func ticking(times ...int) Model {
	m := doubling()
	m.Rules[0].Emits = []Emit{{Delay: 1}}
	m.Starts = nil
	for _, t := range times {
		m.Starts = append(m.Starts, Start{Time: t})
	}
	return m
}

func TestP3Events(t *testing.T) {
	tryCheck(t, "255 events", doubling(), 8, OK, 0)
	tryCheck(t, "511 events", doubling(), 9, ErrEvents, 0)
	tryCheck(t, "endless doubling", doubling(), 200, ErrEvents, 0)
	tryCheck(t, "300 events", ticking(0, 100), 200, OK, 0)
	tryCheck(t, "301 events", ticking(0, 99), 200, ErrEvents, 0)
	tryCheck(t, "299 below an earlier end", ticking(0, 99), 199, OK, 0)
	tryCheck(t, "starts at the end are not done", ticking(0, 100, 200, 200), 200, OK, 0)
	tryCheck(t, "a start just below the end is done", ticking(0, 100, 199), 200, ErrEvents, 0)
	tryCheck(t, "nothing is below an end of 0", ticking(make([]int, 12)...), 0, OK, 0)
	tryCheck(t, "12 at each of 25 times", ticking(make([]int, 12)...), 25, OK, 0)
	tryCheck(t, "12 at each of 26 times", ticking(make([]int, 12)...), 26, ErrEvents, 0)
}

func TestP3EventsAtFourEmissions(t *testing.T) {
	m := doubling()
	m.Rules[0].Emits = []Emit{{Delay: 1}, {Delay: 1}, {Delay: 1}, {Delay: 1}}
	tryCheck(t, "85 events", m, 4, OK, 0)
	tryCheck(t, "341 events", m, 5, ErrEvents, 0)
}

// gate: at process 0, load 1 shuts it for good, and load 2 sets off a flood
// for good. So whether there are too many events tells which of the two came
// first.
func gate(links []Link, senders []Rule, starts []Start) Model {
	flood := []Emit{{Link: 0, Delay: 1, Load: 2}, {Link: 0, Delay: 1, Load: 2}}
	return Model{
		Procs: 3, States: 3, Loads: 5,
		Links:  append([]Link{{Ahead: 1}}, links...),
		Rules:  append([]Rule{{Load: 1, Next: 1}, {Load: 2, Next: 2, Emits: flood}, {State: 2, Load: 2, Next: 2, Emits: flood}}, senders...),
		Starts: starts,
	}
}

// wantShutFirst tries a way of sending two loads of which the first one is
// to come ahead of the second one.
func wantShutFirst(t *testing.T, name string, send func(first, second int) Model) {
	t.Helper()
	tryCheck(t, name+": the shutting one first", send(1, 2), 100, OK, 0)
	tryCheck(t, name+": the flooding one first", send(2, 1), 100, ErrEvents, 0)
}

func TestP3OrderByTime(t *testing.T) {
	wantShutFirst(t, "starts", func(first, second int) Model {
		return gate(nil, nil, []Start{{Time: 6, Load: second}, {Time: 5, Load: first}})
	})
}

func TestP3OrderByFrom(t *testing.T) {
	links := []Link{{From: 1, To: 0, Ahead: 1}, {From: 2, To: 0, Ahead: 1}}
	// Process 2 emits earlier than process 1, and what it emits comes at the same time.
	wantShutFirst(t, "processes 1 and 2", func(first, second int) Model {
		return gate(links, []Rule{
			{Proc: 1, Emits: []Emit{{Link: 1, Delay: 4, Load: first}}},
			{Proc: 2, Emits: []Emit{{Link: 2, Delay: 6, Load: second}}},
		}, []Start{{Proc: 2, Time: 2}, {Proc: 1, Time: 4}})
	})
	wantShutFirst(t, "a start and process 1", func(first, second int) Model {
		return gate(links, []Rule{{Proc: 1, Emits: []Emit{{Link: 1, Delay: 4, Load: second}}}},
			[]Start{{Proc: 1, Time: 4}, {Proc: 0, Time: 8, Load: first}})
	})
	wantShutFirst(t, "process 0 itself and process 1", func(first, second int) Model {
		return gate(links, []Rule{
			{Load: 3, Emits: []Emit{{Link: 0, Delay: 3, Load: first}}},
			{Proc: 1, Emits: []Emit{{Link: 1, Delay: 4, Load: second}}},
		}, []Start{{Proc: 1, Time: 4}, {Proc: 0, Time: 5, Load: 3}})
	})
}

func TestP3OrderBySeq(t *testing.T) {
	links := []Link{{From: 1, To: 0, Ahead: 1}, {From: 1, To: 0, Ahead: 1}}
	wantShutFirst(t, "two starts", func(first, second int) Model {
		return gate(nil, nil, []Start{{Time: 5, Load: first}, {Time: 5, Load: second}})
	})
	wantShutFirst(t, "two emissions of a rule", func(first, second int) Model {
		emits := []Emit{{Link: 2, Delay: 9, Load: first}, {Link: 1, Delay: 9, Load: second}}
		return gate(links, []Rule{{Proc: 1, Emits: emits}}, []Start{{Proc: 1}})
	})
	wantShutFirst(t, "emissions of two rules", func(first, second int) Model {
		return gate(links, []Rule{
			{Proc: 1, Load: 3, Emits: []Emit{{Link: 2, Delay: 10, Load: first}}},
			{Proc: 1, Load: 4, Emits: []Emit{{Link: 1, Delay: 5, Load: second}}},
		}, []Start{{Proc: 1, Time: 5, Load: 4}, {Proc: 1, Time: 0, Load: 3}})
	})
}

// TestEmissionNumbers looks inside: a process numbers its emissions in the
// whole run, along whatever link they go.
func TestEmissionNumbers(t *testing.T) {
	m := gate([]Link{{From: 0, To: 1, Ahead: 2}}, []Rule{{Load: 3, Emits: []Emit{{Link: 1, Delay: 2, Load: 4}, {Link: 0, Delay: 7}}}}, nil)
	p := newProcesses(m, 100)[0]
	for k, time := range []int{5, 6} {
		got := p.do(m, Item{Time: time, From: -1, Load: 3})
		want := []parcel{
			{Item: Item{Time: time + 2, From: 0, Seq: 2 * k, Load: 4}, link: 1},
			{Item: Item{Time: time + 7, From: 0, Seq: 2*k + 1, Load: 0}, link: 0},
		}
		if !slices.Equal(got, want) {
			t.Errorf("emissions at %d: %+v, want %+v", time, got, want)
		}
		if none := p.do(m, Item{Time: time, Load: 4}); len(none) > 0 || p.state != 0 {
			t.Errorf("without a rule: %+v, state %d", none, p.state)
		}
	}
}

func TestP3NoRule(t *testing.T) {
	m := doubling()
	m.States, m.Loads = 2, 2
	m.Starts = []Start{{Load: 1}, {Time: 1}}
	tryCheck(t, "without a rule the state stays", m, 9, OK, 0)
	tryCheck(t, "and the flood comes", m, 10, ErrEvents, 0)
	m.Rules[0].State = 1
	tryCheck(t, "all begin in state 0", m, 200, OK, 0)
}

// plainEvent and plainRun are the document's words without any queue: all
// events in one list, of which the least is looked for. plainRun gives up
// when it has done more events than most.
type plainEvent struct{ proc, time, from, seq, load int }

func plainRun(m Model, end, most int) (state []int, done [][]Done, count int) {
	var list []plainEvent
	for i, s := range m.Starts {
		list = append(list, plainEvent{s.Proc, s.Time, -1, i, s.Load})
	}
	state, done = make([]int, m.Procs), make([][]Done, m.Procs)
	made := make([]int, m.Procs)
	for ; ; count++ {
		slices.SortFunc(list, func(a, b plainEvent) int {
			return slices.Compare([]int{a.time, a.from, a.seq}, []int{b.time, b.from, b.seq})
		})
		if len(list) == 0 || list[0].time >= end || count > most {
			return state, done, count
		}
		x := list[0]
		list = list[1:]
		for _, r := range m.Rules {
			if r.Proc != x.proc || r.State != state[x.proc] || r.Load != x.load {
				continue
			}
			state[x.proc] = r.Next
			for _, e := range r.Emits {
				list = append(list, plainEvent{m.Links[e.Link].To, x.time + e.Delay, x.proc, made[x.proc], e.Load})
				made[x.proc]++
			}
			break
		}
		done[x.proc] = append(done[x.proc], Done{x.time, x.from, x.seq, x.load, state[x.proc]})
	}
}

// randomModel answers a right model; few times and delays, so that many
// events meet.
func randomModel(r *rand.Rand) Model {
	m := Model{Procs: 1 + r.Intn(6), States: 1 + r.Intn(6), Loads: 1 + r.Intn(6)}
	for range r.Intn(13) {
		m.Links = append(m.Links, Link{From: r.Intn(m.Procs), To: r.Intn(m.Procs), Ahead: 1 + r.Intn(6)})
	}
	for range r.Intn(41) {
		x := Rule{Proc: r.Intn(m.Procs), State: r.Intn(m.States), Load: r.Intn(m.Loads), Next: r.Intn(m.States)}
		if slices.ContainsFunc(m.Rules, func(y Rule) bool { return y.Proc == x.Proc && y.State == x.State && y.Load == x.Load }) {
			continue
		}
		for range r.Intn(5) {
			if len(m.Links) == 0 {
				break
			}
			i := r.Intn(len(m.Links))
			if m.Links[i].From == x.Proc {
				x.Emits = append(x.Emits, Emit{Link: i, Delay: m.Links[i].Ahead + r.Intn(8), Load: r.Intn(m.Loads)})
			}
		}
		m.Rules = append(m.Rules, x)
	}
	for range r.Intn(13) {
		m.Starts = append(m.Starts, Start{Proc: r.Intn(m.Procs), Time: r.Intn(40), Load: r.Intn(m.Loads)})
	}
	return m
}

func TestP3EventsOfRandomModels(t *testing.T) {
	r := rand.New(rand.NewSource(7))
	seen := map[Errno]int{}
	models := many(3000)
	for range models {
		m, end := randomModel(r), r.Intn(201)
		_, _, count := plainRun(m, end, 300)
		want := OK
		if count > 300 {
			want = ErrEvents
		}
		seen[want]++
		if got := countEvents(m, end); got != count {
			t.Fatalf("%d events below %d, want %d: %+v", got, end, count, m)
		}
		tryCheck(t, "random model", m, end, want, 0)
	}
	if seen[OK] < models/30 || seen[ErrEvents] < models/30 {
		t.Errorf("the random models are one-sided: %v", seen)
	}
}
