package horizon

import (
	"math/rand"
	"runtime"
	"slices"
	"strings"
	"sync"
	"testing"
)

// many answers how many random models a test takes: with -short fewer, as the
// race detector makes them slow.
func many(count int) int {
	if testing.Short() {
		return count / 5
	}
	return count
}

// allStacks tells where each goroutine stands.
func allStacks() string {
	buf := make([]byte, 1<<20)
	return string(buf[:runtime.Stack(buf, true)])
}

// stillWorking answers the goroutines that work for a run. A goroutine that
// its WaitGroup knows to have ended is out of the crew's functions.
func stillWorking() []string {
	var left []string
	for _, stack := range strings.Split(allStacks(), "\n\n") {
		if strings.Contains(stack, "horizon.(*crew)") || strings.Contains(stack, "horizon.(*worker)") {
			left = append(left, stack)
		}
	}
	return left
}

// crowd: six processes, each of which comes again at every unit of time, and
// which stand in a ring besides; so below 50 there are 300 events.
func crowd() Model {
	m := Model{Procs: 6, States: 1, Loads: 1}
	for p := range 6 {
		m.Links = append(m.Links, Link{From: p, To: p, Ahead: 1}, Link{From: p, To: (p + 1) % 6, Ahead: 1 + p})
		m.Rules = append(m.Rules, Rule{Proc: p, Emits: []Emit{{Link: 2 * p, Delay: 1}}})
		m.Starts = append(m.Starts, Start{Proc: p})
	}
	return m
}

// passing: a load that goes round through six processes, one at every unit
// of time, so that but for one all of them wait.
func passing(loads int) Model {
	m := Model{Procs: 6, States: 1, Loads: 1}
	for p := range 6 {
		m.Links = append(m.Links, Link{From: p, To: (p + 1) % 6, Ahead: 1})
		m.Rules = append(m.Rules, Rule{Proc: p, Emits: []Emit{{Link: p, Delay: 1}}})
	}
	m.Starts = make([]Start, loads)
	return m
}

// floodBeside: events double at the last process; all others have nothing to
// do, and wait for it and for each other.
func floodBeside() Model {
	m := Model{Procs: 6, States: 1, Loads: 1, Links: []Link{{From: 5, To: 5, Ahead: 1}}, Starts: []Start{{Proc: 5}}}
	for p := range 5 {
		m.Links = append(m.Links, Link{From: 5, To: p, Ahead: 1}, Link{From: p, To: (p + 1) % 5, Ahead: 1})
	}
	m.Rules = []Rule{{Proc: 5, Emits: []Emit{{Delay: 1}, {Delay: 1}}}}
	return m
}

// floodEverywhere: events double at all processes at the same time, of which
// none knows of another one.
func floodEverywhere() Model {
	m := crowd()
	m.Links = nil
	for p := range 6 {
		m.Links = append(m.Links, Link{From: p, To: p, Ahead: 1})
		m.Rules[p].Emits = []Emit{{Link: p, Delay: 1}, {Link: p, Delay: 1}, {Link: p, Delay: 1}, {Link: p, Delay: 1}}
	}
	return m
}

// funnel: two links from each of five processes lead to the sixth, from which
// none leads; what comes along them comes at equal times.
func funnel() Model {
	m := Model{Procs: 6, States: 6, Loads: 2}
	for p := range 5 {
		i := len(m.Links)
		m.Links = append(m.Links, Link{From: p, To: 5, Ahead: 1 + p}, Link{From: p, To: 5, Ahead: 5 - p})
		m.Rules = append(m.Rules,
			Rule{Proc: p, Load: 0, Emits: []Emit{{Link: i, Delay: 8, Load: 0}, {Link: i + 1, Delay: 5, Load: 1}, {Link: i, Delay: 5, Load: 1}}},
			Rule{Proc: 5, State: p, Load: 0, Next: p + 1}, Rule{Proc: 5, State: p + 1, Load: 1, Next: p})
		m.Starts = append(m.Starts, Start{Proc: p, Time: p % 2 * 3}, Start{Proc: p, Time: 3})
	}
	return m
}

// runModels answers models that take a run's goroutines to their edges, with
// those that a net is stepped through.
func runModels() []netModel {
	return append(netModels(),
		netModel{"300 events at six processes", crowd(), 50},
		netModel{"306 events at six processes", crowd(), 51},
		netModel{"301 events at six processes", with(crowd(), func(m *Model) { m.Starts = append(m.Starts, Start{Proc: 3, Time: 49}) }), 50},
		netModel{"300 events at six processes, one at the end", with(crowd(), func(m *Model) { m.Starts = append(m.Starts, Start{Proc: 3, Time: 50}) }), 50},
		netModel{"200 events that go round", passing(1), 200},
		netModel{"300 events that go round", with(passing(2), func(m *Model) { m.Starts[1].Time = 100 }), 200},
		netModel{"301 events that go round", with(passing(2), func(m *Model) { m.Starts[1].Time = 99 }), 200},
		netModel{"2400 events that go round", passing(12), 200},
		netModel{"a flood, and others that wait for it", floodBeside(), 200},
		netModel{"255 events, and others that wait for them", floodBeside(), 8},
		netModel{"floods everywhere", floodEverywhere(), 200},
		netModel{"floods everywhere that end in time", floodEverywhere(), 3},
		netModel{"a funnel", funnel(), 200},
		netModel{"a funnel, to an event", funnel(), 8},
		netModel{"a funnel without starts", with(funnel(), func(m *Model) { m.Starts = nil }), 200},
		netModel{"six processes without links", Model{Procs: 6, States: 1, Loads: 1, Starts: make([]Start, 12)}, 200},
		netModel{"links of the greatest Ahead", with(ring(), func(m *Model) {
			for i := range m.Links {
				m.Links[i].Ahead = 50
			}
			m.Rules = nil
		}), 200},
		netModel{"no events at all, to the last end", with(crowd(), func(m *Model) { m.Starts = nil }), 200},
		netModel{"all at the end", with(crowd(), func(m *Model) { m.Starts = []Start{{Proc: 2, Time: 200}} }), 200},
	)
}

func TestP4ManyTimes(t *testing.T) {
	for _, c := range runModels() {
		tryAnswer(t, c.name, c.model, c.end, manyTimes, plainAnswer(c.model, c.end))
	}
}

// TestP4EveryEnd: an end at, ahead of and behind each event.
func TestP4EveryEnd(t *testing.T) {
	for _, m := range []Model{ring(), chain(), equalTimes(), twoLinks(), funnel(), overtaking(), pair()} {
		for end := range 201 {
			tryAnswer(t, "every end", m, end, 1, plainAnswer(m, end))
		}
	}
}

// TestWaysNoGoroutineIsLeft looks at all goroutines as soon as Run has
// answered, with and without an error.
func TestWaysNoGoroutineIsLeft(t *testing.T) {
	try := func(name string, m Model, end int) {
		t.Helper()
		for range 10 {
			Run(m, end)
			if left := stillWorking(); len(left) > 0 {
				t.Fatalf("%s: behind Run %d goroutines still work, such as\n%s", name, len(left), left[0])
			}
		}
	}
	for _, c := range runModels() {
		try(c.name, c.model, c.end)
	}
	for _, c := range wrongModels() {
		m := pair()
		c.make(&m)
		try(c.name, m, c.end)
	}
	r := rand.New(rand.NewSource(59))
	for range 50 {
		try("lively model", livelyModel(r), r.Intn(201))
	}
}

// TestWaysNumberOfGoroutines: behind many Runs there are as many goroutines
// as ahead of them, whatever they worked at.
func TestWaysNumberOfGoroutines(t *testing.T) {
	before := runtime.NumGoroutine()
	for _, c := range runModels() {
		for range 10 {
			Run(c.model, c.end)
		}
	}
	// A goroutine that has ended for its WaitGroup is counted for a moment more.
	for k := 0; k < 1<<20 && runtime.NumGoroutine() > before; k++ {
		runtime.Gosched()
	}
	if after := runtime.NumGoroutine(); after > before {
		t.Errorf("%d goroutines ahead of the Runs, %d behind them:\n%s", before, after, allStacks())
	}
}

// TestWaysOneGoroutineEach counts the goroutines of a run, which are held up
// by the lock of one of its processes.
func TestWaysOneGoroutineEach(t *testing.T) {
	c := newCrew(passing(1), 200)
	held := c.workers[0]
	held.lock.Lock()
	ended := make(chan bool)
	go func() { ended <- c.workAll() }()
	works, follows := 0, 0
	for k := 0; k < 1000 && (works < 6 || follows < 6); k++ {
		runtime.Gosched()
		all := allStacks()
		works = strings.Count(all, "horizon.(*crew).work(")
		follows = strings.Count(all, "horizon.(*worker).follow(")
	}
	if works != 6 || follows != 6 {
		t.Errorf("%d goroutines for six processes, %d for six links", works, follows)
	}
	held.lock.Unlock()
	if !<-ended {
		t.Errorf("the run is given up behind %d events", c.events.Load())
	}
}

// TestP2ManyRunsAtOnce runs all models at the same time, each of them several
// times, and spoils what was answered: the models are as they were, and no
// answer is seen in another one. The race detector looks on.
func TestP2ManyRunsAtOnce(t *testing.T) {
	models := runModels()
	for _, c := range wrongModels() {
		m := pair()
		c.make(&m)
		models = append(models, netModel{c.name, m, c.end})
	}
	var all sync.WaitGroup
	for _, c := range models {
		e, n := plainCheck(c.model, c.end)
		want := answer{e: e, n: n}
		if e == OK {
			want = plainAnswer(c.model, c.end)
		}
		for range 6 {
			all.Go(func() {
				for range 3 {
					got := runOf(c.model, c.end)
					if !got.same(want) {
						t.Errorf("%s: among others, Run to %d is %+v, want %+v", c.name, c.end, got, want)
					}
					spoilAnswer(got)
				}
			})
		}
	}
	all.Wait()
	if left := stillWorking(); len(left) > 0 {
		t.Errorf("%d goroutines still work", len(left))
	}
}

// spoilAnswer changes all that Run answered, and appends to it.
func spoilAnswer(a answer) {
	clear(a.states)
	for p := range a.lists {
		clear(a.lists[p])
		a.lists[p] = append(a.lists[p], Done{Time: -7})
		clear(a.lists[p])
	}
	clear(a.lists)
}

// TestP2AnswersApart runs a model twice, and spoils the first answer: the
// second one and one behind it are as they were.
func TestP2AnswersApart(t *testing.T) {
	for _, c := range runModels() {
		m := copyModel(c.model)
		want := plainAnswer(m, c.end)
		first, second := runOf(m, c.end), runOf(m, c.end)
		spoilAnswer(first)
		spoilModel(&m)
		if !second.same(want) {
			t.Errorf("%s: changing an answer or the model changes another answer to %+v, want %+v", c.name, second, want)
		}
		for p, list := range second.lists {
			if cap(list) != len(list) {
				t.Errorf("%s: process %d: room for %d behind %d", c.name, p, cap(list), len(list))
			}
		}
		tryAnswer(t, c.name+", again", c.model, c.end, 1, want)
	}
}

// TestCrewCounts: the limit is in the count, and however many go above it at
// the same time, it is told once.
func TestCrewCounts(t *testing.T) {
	c := newCrew(crowd(), 50)
	for _, did := range []int{0, 299, 0, 1, 0} {
		if !c.count(did) {
			t.Fatalf("given up at %d events", c.events.Load())
		}
	}
	select {
	case <-c.givenUp:
		t.Fatalf("told to give up at 300 events")
	default:
	}
	var all sync.WaitGroup
	for range 100 {
		all.Go(func() {
			if c.count(1) {
				t.Errorf("not given up above 300 events")
			}
		})
	}
	all.Wait()
	<-c.givenUp
	if c.count(0) {
		t.Errorf("a process that did nothing more goes on in a run that is given up")
	}
}

// TestCrewGivenUp: a worker that waits goes home when the run is given up,
// and lets the links from it end.
func TestCrewGivenUp(t *testing.T) {
	c := newCrew(chain(), 30)
	ended := make(chan int)
	go func() {
		c.work(c.workers[1])
		ended <- 1
	}()
	first := <-c.links[1] // the word of 1 to 2, behind which it waits for 0
	if first.kind != kindWord || first.Time != 5 {
		t.Errorf("1 sends %+v, want the word that nothing comes before 5", first)
	}
	c.count(301)
	for x := range c.links[1] {
		t.Errorf("1 sends %+v, and the run is given up", x)
	}
	<-ended
}

// TestCrewSendsNothingMore: in a run that is given up an event leads to no
// other ones.
func TestCrewSendsNothingMore(t *testing.T) {
	c := newCrew(chain(), 30)
	c.count(299)
	go c.work(c.workers[0]) // two events are sure there: 301 in all
	for x := range c.links[0] {
		t.Errorf("0 sends %+v, and the run is given up", x)
	}
}

// TestWorkerFollows: what comes along a link is taken in whether or not
// anyone waits for it, till the link is closed.
func TestWorkerFollows(t *testing.T) {
	w := newCrew(chain(), 30).workers[1]
	link := make(chan parcel)
	ended := make(chan int)
	go func() {
		w.follow(link)
		ended <- 1
	}()
	link <- parcel{kind: kindMessage, link: 0, Item: Item{Time: 9, From: 0, Seq: 1}}
	link <- parcel{kind: kindMessage, link: 0, Item: Item{Time: 3, From: 0, Seq: 0, Load: 1}}
	link <- parcel{kind: kindWord, link: 0, Item: Item{Time: 4}}
	close(link)
	<-ended
	<-w.come
	select {
	case <-w.come:
		t.Errorf("more than one sign for what has come")
	default:
	}
	got := w.goOn(chain())
	wantSent := []parcel{
		{kind: kindMessage, link: 1, Item: Item{Time: 5, From: 1, Seq: 0, Load: 1}},
		{kind: kindWord, link: 1, Item: Item{Time: 6}},
	}
	if !slices.Equal(got.sent, wantSent) || got.did != 1 || got.last {
		t.Errorf("1 goes on by %+v, want %+v, one event, and not the last time", got, wantSent)
	}
	w.takeIn(parcel{kind: kindEnd, link: 0})
	if got := w.goOn(chain()); got.did != 1 || !got.last {
		t.Errorf("behind the end of its only link, 1 goes on by %+v, want one event, for the last time", got)
	}
}
