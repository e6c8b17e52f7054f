package horizon

import (
	"math"
	"math/rand"
	"reflect"
	"slices"
	"testing"
)

// wild: numbers at and around every edge, and far off.
func wild(r *rand.Rand) int {
	if r.Intn(3) > 0 {
		return r.Intn(3)
	}
	edges := []int{math.MinInt, math.MinInt + 1, -1, 0, 1, 5, 6, 7, 49, 50, 51, 60, 61, 199, 200, 201, 1 << 40, math.MaxInt}
	return edges[r.Intn(len(edges))]
}

func wildModel(r *rand.Rand) Model {
	m := Model{Procs: wild(r), States: wild(r), Loads: wild(r)}
	if r.Intn(4) > 0 {
		m.Procs, m.States, m.Loads = 1+r.Intn(6), 1+r.Intn(6), 1+r.Intn(6)
	}
	for range r.Intn(14) {
		m.Links = append(m.Links, Link{From: wild(r), To: wild(r), Ahead: wild(r)})
	}
	for range r.Intn(5) * r.Intn(12) {
		x := Rule{Proc: wild(r), State: wild(r), Load: wild(r), Next: wild(r)}
		for range r.Intn(6) {
			x.Emits = append(x.Emits, Emit{Link: wild(r), Delay: wild(r), Load: wild(r)})
		}
		m.Rules = append(m.Rules, x)
	}
	for range r.Intn(14) {
		m.Starts = append(m.Starts, Start{Proc: wild(r), Time: wild(r), Load: wild(r)})
	}
	return m
}

// spoilt is a right model in which one number, or none, is a wild one.
func spoilt(r *rand.Rand) Model {
	m := randomModel(r)
	numbers := []*int{&m.Procs, &m.States, &m.Loads}
	for i := range m.Links {
		numbers = append(numbers, &m.Links[i].From, &m.Links[i].To, &m.Links[i].Ahead)
	}
	for i := range m.Rules {
		x := &m.Rules[i]
		numbers = append(numbers, &x.Proc, &x.State, &x.Load, &x.Next)
		for j := range x.Emits {
			numbers = append(numbers, &x.Emits[j].Link, &x.Emits[j].Delay, &x.Emits[j].Load)
		}
	}
	for i := range m.Starts {
		numbers = append(numbers, &m.Starts[i].Proc, &m.Starts[i].Time, &m.Starts[i].Load)
	}
	*numbers[r.Intn(len(numbers))] = wild(r)
	return m
}

func copyModel(m Model) Model {
	m.Links = slices.Clone(m.Links)
	m.Rules = slices.Clone(m.Rules)
	for i := range m.Rules {
		m.Rules[i].Emits = slices.Clone(m.Rules[i].Emits)
	}
	m.Starts = slices.Clone(m.Starts)
	return m
}

// plainCheck is P3 once more, written in one go along its words.
func plainCheck(m Model, end int) (Errno, int) {
	out := func(x, least, most int) bool { return x < least || x > most }
	if out(m.Procs, 1, 6) || out(m.States, 1, 6) || out(m.Loads, 1, 6) || len(m.Links) > 12 || len(m.Rules) > 40 || len(m.Starts) > 12 {
		return ErrRange, 0
	}
	for i, l := range m.Links {
		if out(l.From, 0, m.Procs-1) || out(l.To, 0, m.Procs-1) || out(l.Ahead, 1, 50) {
			return ErrLink, i
		}
	}
	earlier := map[[3]int]int{}
	for i, x := range m.Rules {
		wrong := out(x.Proc, 0, m.Procs-1) || out(x.State, 0, m.States-1) || out(x.Next, 0, m.States-1) || out(x.Load, 0, m.Loads-1) || len(x.Emits) > 4
		for _, e := range x.Emits {
			wrong = wrong || out(e.Link, 0, len(m.Links)-1) || m.Links[e.Link].From != x.Proc ||
				out(e.Delay, m.Links[e.Link].Ahead, 60) || out(e.Load, 0, m.Loads-1)
		}
		key := [3]int{x.Proc, x.State, x.Load}
		if wrong || earlier[key] > 0 {
			return ErrRule, i
		}
		earlier[key]++
	}
	for i, s := range m.Starts {
		if out(s.Proc, 0, m.Procs-1) || out(s.Time, 0, 200) || out(s.Load, 0, m.Loads-1) {
			return ErrStart, i
		}
	}
	if out(end, 0, 200) {
		return ErrEnd, 0
	}
	if _, _, count := plainRun(m, end, 300); count > 300 {
		return ErrEvents, 0
	}
	return OK, 0
}

// TestP1WildModels calls all that takes a model: none panics, errors are
// those that are named first, and beside an error all is nil. A net that was
// refused can be stepped, too.
func TestP1WildModels(t *testing.T) {
	r := rand.New(rand.NewSource(11))
	seen := map[Errno]int{}
	models := many(10000)
	for k := range models {
		m, end := wildModel(r), wild(r)
		if k%4 > 0 {
			m, end = spoilt(r), r.Intn(204)-1
		}
		wantErr, wantNum := plainCheck(m, end)
		seen[wantErr]++
		tryCheck(t, "wild model", m, end, wantErr, wantNum)
		a := runSoon(t, "wild model", m, end)
		if a.e != wantErr || a.n != wantNum || (a.states == nil) != (a.e != OK) || (a.lists == nil) != (a.e != OK) {
			t.Fatalf("Run = %+v, want %d, %d", a, wantErr, wantNum)
		}
		net, e, n := Open(m, end)
		if e != wantErr || n != wantNum || (net == nil) != (e != OK) {
			t.Fatalf("Open = %v, %d, %d, want %d, %d", net, e, n, wantErr, wantNum)
		}
		for range 3 {
			net.Step(wild(r))
			net.See(wild(r))
			net.Over()
		}
	}
	for e := OK; e <= ErrEvents; e++ {
		if seen[e] < models/500 {
			t.Errorf("error %d is tried %d times only", e, seen[e])
		}
	}
}

func TestP1WildSteps(t *testing.T) {
	refused, _, _ := Open(Model{}, 0)
	opened, e, _ := Open(pair(), 200)
	if e != OK {
		t.Fatalf("Open refuses a right model: %d", e)
	}
	for _, net := range []*Net{refused, opened} {
		for _, p := range []int{math.MinInt, -1, 2, 6, math.MaxInt} {
			if net.Step(p) {
				t.Errorf("Step(%d) of no process is true", p)
			}
			if state, done := net.See(p); state != 0 || done != nil {
				t.Errorf("See(%d) of no process = %d, %v", p, state, done)
			}
			net.Over()
		}
	}
}

// TestP2ModelStaysAsItWas: no call changes a model, and the same model gets
// the same answer whatever was asked in between.
func TestP2ModelStaysAsItWas(t *testing.T) {
	r := rand.New(rand.NewSource(5))
	for range many(3000) {
		m, end := spoilt(r), r.Intn(204)-1
		before := copyModel(m)
		e, n := Check(m, end)
		Run(m, end)
		Open(m, end)
		if !reflect.DeepEqual(m, before) {
			t.Fatalf("the model was %+v and is %+v", before, m)
		}
		other := wildModel(r)
		Check(other, end)
		tryCheck(t, "asked again", m, end, e, n)
		tryCheck(t, "asked of a copy", before, end, e, n)
	}
}

// TestP2RoomBehind: what lies behind a handed-in list is neither read nor
// written.
func TestP2RoomBehind(t *testing.T) {
	m := pair()
	links := append(slices.Clone(m.Links), Link{From: -9})
	rules := append(slices.Clone(m.Rules), Rule{Proc: -9})
	starts := append(slices.Clone(m.Starts), Start{Proc: -9})
	m.Links, m.Rules, m.Starts = links[:2], rules[:2], starts[:2]
	tryCheck(t, "with room behind", m, 200, OK, 0)
	if links[2].From != -9 || rules[2].Proc != -9 || starts[2].Proc != -9 {
		t.Errorf("written behind a list: %+v, %+v, %+v", links[2], rules[2], starts[2])
	}
}
