package horizon

import (
	"math/rand"
	"slices"
	"testing"
)

// netModel is a model to be stepped in many orders.
type netModel struct {
	name  string
	model Model
	end   int
}

// chain: no link leads to 0, and none begins at 2.
func chain() Model {
	return Model{
		Procs: 3, States: 2, Loads: 2,
		Links: []Link{{From: 0, To: 1, Ahead: 3}, {From: 1, To: 2, Ahead: 2}},
		Rules: []Rule{
			{Proc: 0, State: 0, Load: 0, Next: 1, Emits: []Emit{{Link: 0, Delay: 3, Load: 1}, {Link: 0, Delay: 9, Load: 0}}},
			{Proc: 1, State: 0, Load: 1, Next: 1, Emits: []Emit{{Link: 1, Delay: 2, Load: 1}}},
			{Proc: 1, State: 1, Load: 0, Next: 0, Emits: []Emit{{Link: 1, Delay: 4, Load: 0}}},
			{Proc: 2, State: 0, Load: 1, Next: 1},
			{Proc: 2, State: 1, Load: 0, Next: 0},
		},
		Starts: []Start{{Proc: 0, Time: 0}, {Proc: 2, Time: 4}, {Proc: 0, Time: 7, Load: 1}},
	}
}

// overtaking: what 0 sends later along the only link comes earlier.
func overtaking() Model {
	return Model{
		Procs: 2, States: 2, Loads: 2,
		Links: []Link{{From: 0, To: 1, Ahead: 2}},
		Rules: []Rule{
			{Proc: 0, State: 0, Next: 1, Emits: []Emit{{Delay: 60, Load: 1}}},
			{Proc: 0, State: 1, Next: 0, Emits: []Emit{{Delay: 2}, {Delay: 2, Load: 1}}},
			{Proc: 1, State: 0, Load: 1, Next: 1},
			{Proc: 1, State: 1, Load: 0, Next: 0},
		},
		Starts: []Start{{Time: 1}, {Time: 2}, {Time: 30}, {Time: 59}, {Proc: 1, Time: 61}, {Proc: 1, Time: 4}},
	}
}

// busy: six processes, each with a link to the next one and one to that
// behind it, and loads that go round.
func busy() Model {
	m := Model{Procs: 6, States: 2, Loads: 2}
	for p := range 6 {
		m.Links = append(m.Links, Link{From: p, To: (p + 1) % 6, Ahead: 1 + p}, Link{From: p, To: (p + 2) % 6, Ahead: 6 - p})
		for s := range 2 {
			m.Rules = append(m.Rules,
				Rule{Proc: p, State: s, Load: 0, Next: 1 - s, Emits: []Emit{{Link: 2*p + s, Delay: 8, Load: s}}},
				Rule{Proc: p, State: s, Load: 1, Next: s, Emits: []Emit{{Link: 2 * p, Delay: 7, Load: 1 - s}}})
		}
		m.Starts = append(m.Starts, Start{Proc: p, Time: p % 3}, Start{Proc: p, Time: 2, Load: 1})
	}
	return m
}

// with answers a model with a change.
func with(m Model, c change) Model {
	c(&m)
	return m
}

func netModels() []netModel {
	return []netModel{
		{"ring", ring(), 40},
		{"pair", pair(), 200},
		{"two links", twoLinks(), 200},
		{"chain", chain(), 30},
		{"overtaking", overtaking(), 100},
		{"equal times", equalTimes(), 9},
		{"busy", busy(), 60},
		{"300 events at one process", ticking(0, 100), 200},
		{"255 events of one start", doubling(), 8},
		{"least model", Model{Procs: 1, States: 1, Loads: 1}, 200},
		{"no links", with(ring(), func(m *Model) { m.Links, m.Rules = nil, nil }), 200},
		{"no start", with(ring(), func(m *Model) { m.Starts = nil }), 50},
		{"no rule", with(busy(), func(m *Model) { m.Rules = nil }), 50},
		{"end 0", busy(), 0},
		{"end 1", busy(), 1},
		{"end below every Ahead", pair(), 4},
		{"a start at the end", chain(), 4},
		{"an emission at the end", chain(), 5},
		{"an emission just below the end", chain(), 6},
		{"a start at the last end", ticking(199, 200), 200},
	}
}

// order says which process is stepped as the k-th.
type order struct {
	name string
	pick func(r *rand.Rand, k, procs int) int
}

func orders() []order {
	return []order{
		{"round after round", func(r *rand.Rand, k, procs int) int { return k % procs }},
		{"rounds backwards", func(r *rand.Rand, k, procs int) int { return procs - 1 - k%procs }},
		{"each for long", func(r *rand.Rand, k, procs int) int { return k / 25 % procs }},
		{"at random", func(r *rand.Rand, k, procs int) int { return r.Intn(procs) }},
		{"mostly the first ones", func(r *rand.Rand, k, procs int) int { return min(r.Intn(procs), r.Intn(procs), r.Intn(procs)) }},
		{"mostly the last ones", func(r *rand.Rand, k, procs int) int { return max(r.Intn(procs), r.Intn(procs), r.Intn(procs)) }},
	}
}

func TestP5ToP9InManyOrders(t *testing.T) {
	r := rand.New(rand.NewSource(31))
	for _, c := range netModels() {
		for _, o := range orders() {
			w := openWatch(t, c.name+", "+o.name, c.model, c.end)
			for k := 0; !w.quiet(); k++ {
				w.step(o.pick(r, k, c.model.Procs))
			}
			w.finish()
		}
	}
}

// TestP9RoundsAlone: the rounds that P9 names, from the beginning and behind
// a process that was stepped alone for long.
func TestP9RoundsAlone(t *testing.T) {
	for _, c := range netModels() {
		openWatch(t, c.name, c.model, c.end).finish()
		for p := range c.model.Procs {
			w := openWatch(t, c.name, c.model, c.end)
			for range 300 {
				w.step(p)
			}
			w.finish()
		}
	}
}

// livelyModel answers a right model of several processes in which an event
// mostly leads to one or two more.
func livelyModel(r *rand.Rand) Model {
	m := Model{Procs: 2 + r.Intn(5), States: 1 + r.Intn(3), Loads: 1 + r.Intn(2)}
	from := make([][]int, m.Procs)
	for i := range m.Procs + r.Intn(13-m.Procs) {
		p := i % m.Procs
		from[p] = append(from[p], i)
		m.Links = append(m.Links, Link{From: p, To: r.Intn(m.Procs), Ahead: 1 + r.Intn(1+r.Intn(12))})
	}
	for k := range m.Procs * m.States * m.Loads {
		x := Rule{Proc: k % m.Procs, State: k / m.Procs % m.States, Load: k / m.Procs / m.States, Next: r.Intn(m.States)}
		for range (1 + r.Intn(6)) / 2 {
			i := from[x.Proc][r.Intn(len(from[x.Proc]))]
			x.Emits = append(x.Emits, Emit{Link: i, Delay: m.Links[i].Ahead + r.Intn(1+r.Intn(8)), Load: r.Intn(m.Loads)})
		}
		m.Rules = append(m.Rules, x)
	}
	for range 1 + r.Intn(12) {
		m.Starts = append(m.Starts, Start{Proc: r.Intn(m.Procs), Time: r.Intn(20), Load: r.Intn(m.Loads)})
	}
	return m
}

// randomNet answers a random model, and an end below which there are not too
// many events.
func randomNet(r *rand.Rand) (netModel, int) {
	m, end := livelyModel(r), r.Intn(201)
	if r.Intn(3) == 0 {
		m = randomModel(r)
	}
	_, _, count := plainRun(m, end, 300)
	for count > 300 {
		end -= 1 + end/20
		_, _, count = plainRun(m, end, 300)
	}
	return netModel{"random model", m, end}, count
}

func TestP5ToP9RandomModels(t *testing.T) {
	r := rand.New(rand.NewSource(37))
	full := 0
	models := many(150)
	for k := range models {
		c, count := randomNet(r)
		if count > 50 && c.model.Procs > 2 {
			full++
		}
		o := orders()[k%len(orders())]
		w := openWatch(t, c.name+", "+o.name, c.model, c.end)
		for k := range r.Intn(300) {
			w.step(o.pick(r, k, c.model.Procs))
		}
		w.finish()
	}
	if full < models/3 {
		t.Errorf("only %d of the random models have several processes and more than 50 events", full)
	}
}

// mixedModels answers the models written by hand, and some random ones.
func mixedModels(r *rand.Rand) []netModel {
	all := netModels()
	for range many(30) {
		c, _ := randomNet(r)
		all = append(all, c)
	}
	return all
}

// stepsTillOver answers a random course of steps, and of each what it
// answered.
func stepsTillOver(t *testing.T, c netModel, r *rand.Rand) (steps []int, changed []bool) {
	net := openNet(t, c.name, c.model, c.end)
	for range 20 * (c.end + 2) * c.model.Procs {
		if net.Over() {
			return steps, changed
		}
		p := r.Intn(c.model.Procs)
		steps, changed = append(steps, p), append(changed, net.Step(p))
	}
	t.Fatalf("%s: not over behind %d steps", c.name, len(steps))
	return nil, nil
}

// TestP9SomeProcessGoesOn stops a course of steps at every place, and there
// looks for a process whose Step is true.
func TestP9SomeProcessGoesOn(t *testing.T) {
	r := rand.New(rand.NewSource(41))
	for _, c := range mixedModels(r) {
		steps, _ := stepsTillOver(t, c, r)
		for k := 0; k < len(steps); k += 1 + len(steps)/100 {
			net := openNet(t, c.name, c.model, c.end)
			for _, p := range steps[:k] {
				net.Step(p)
			}
			goesOn := false
			for p := 0; p < c.model.Procs && !goesOn; p++ {
				goesOn = net.Step(p)
			}
			if !goesOn {
				t.Fatalf("%s: not over behind %v, and no process goes on", c.name, steps[:k])
			}
		}
	}
}

// TestP6FalseChangesNothing: without the steps that were false all goes as
// with them.
func TestP6FalseChangesNothing(t *testing.T) {
	r := rand.New(rand.NewSource(43))
	wasFalse := 0
	for _, c := range mixedModels(r) {
		steps, changed := stepsTillOver(t, c, r)
		with, without := openNet(t, c.name, c.model, c.end), openNet(t, c.name, c.model, c.end)
		for k, p := range steps {
			if with.Step(p) != changed[k] {
				t.Fatalf("%s: P2: Step(%d) answers otherwise behind the same steps", c.name, p)
			}
			if !changed[k] {
				wasFalse++
				continue
			}
			if !without.Step(p) {
				t.Fatalf("%s: Step(%d) is false without the false ones ahead of it", c.name, p)
			}
			if !slices.EqualFunc(seeAll(with, c.model.Procs), seeAll(without, c.model.Procs), sameSeen) {
				t.Fatalf("%s: steps that were false have changed something", c.name)
			}
		}
	}
	if wasFalse < 100 {
		t.Errorf("only %d steps were false", wasFalse)
	}
}

// TestP6Sure steps a chain by hand: how many events are done at its
// processes behind each step.
func TestP6Sure(t *testing.T) {
	w := openWatch(t, "chain", chain(), 30)
	for k, c := range []struct {
		step    int
		changed bool
		done    [3]int
	}{
		{2, false, [3]int{0, 0, 0}}, // what comes from 1 may come from 2 on: the start at 4 has to wait
		{1, true, [3]int{0, 0, 0}},  // nothing comes to 1 before 3, so nothing to 2 before 5
		{1, false, [3]int{0, 0, 0}},
		{2, true, [3]int{0, 0, 1}},
		{2, false, [3]int{0, 0, 1}},
		{0, true, [3]int{2, 0, 1}}, // nothing comes to 0 at all
		{0, false, [3]int{2, 0, 1}},
		{2, false, [3]int{2, 0, 1}}, // 2 knows of 0 only by 1
		{1, true, [3]int{2, 2, 1}},
		{2, true, [3]int{2, 2, 3}},
		{0, false, [3]int{2, 2, 3}},
		{1, false, [3]int{2, 2, 3}},
		{2, false, [3]int{2, 2, 3}},
	} {
		changed := w.step(c.step)
		var done [3]int
		for p, x := range seeAll(w.net, 3) {
			done[p] = len(x.done)
		}
		if changed != c.changed || done != c.done {
			t.Fatalf("step %d, of %d: %t and %v, want %t and %v", k, c.step, changed, done, c.changed, c.done)
		}
	}
	if !w.net.Over() {
		t.Errorf("the chain is not over")
	}
}

// TestP6TakingIn: a process that has only taken something in has changed.
func TestP6TakingIn(t *testing.T) {
	w := openWatch(t, "chain", with(chain(), func(m *Model) { m.Starts[1].Time = 20 }), 30)
	w.step(1)
	if !w.step(2) || w.step(2) {
		t.Errorf("2 hears from 1 what is too early for it: want true, then false")
	}
	if _, done := w.net.See(2); len(done) > 0 {
		t.Errorf("done at 2 is %v, want nothing", done)
	}
}

// TestP6SureOfItself: what a process sends itself it need not wait for.
func TestP6SureOfItself(t *testing.T) {
	w := openWatch(t, "300 events", ticking(0, 100), 200)
	if !w.step(0) || !w.net.Over() || w.step(0) {
		t.Errorf("a process that only sends to itself is not done behind one step")
	}
}

// TestP8WaitsAtEqualTimes: an event waits for one that may come at its very
// time, and not for one that may come behind it.
func TestP8WaitsAtEqualTimes(t *testing.T) {
	for _, c := range []struct {
		time int
		sure bool
	}{{4, true}, {5, false}, {6, false}} {
		w := openWatch(t, "pair", with(pair(), func(m *Model) { m.Starts[1].Time = c.time }), 200)
		w.step(1)
		if _, done := w.net.See(1); (len(done) == 1) != c.sure {
			t.Errorf("a start at %d, with a link ahead by 5: done is %v", c.time, done)
		}
		w.finish()
	}
}

func TestP5See(t *testing.T) {
	w := openWatch(t, "ring", ring(), 12)
	want := [][]Done{
		{{1, -1, 0, 0, 1}, {5, 0, 1, 1, 0}, {7, 2, 0, 0, 1}, {11, 0, 3, 1, 0}},
		{{3, 0, 0, 1, 1}, {9, 0, 2, 1, 1}},
		{{6, 1, 0, 0, 0}},
	}
	states := []int{0, 1, 0}
	w.finish()
	for p := range want {
		if state, done := w.net.See(p); state != states[p] || !slices.Equal(done, want[p]) {
			t.Errorf("See(%d) = %d, %v, want %d, %v", p, state, done, states[p], want[p])
		}
	}
}

func TestP5NoProcess(t *testing.T) {
	for _, c := range netModels() {
		w := openWatch(t, c.name, c.model, c.end)
		for range 2 {
			before := seeAll(w.net, c.model.Procs)
			for _, p := range []int{-1, c.model.Procs, 6, -1 << 63, 1<<63 - 1} {
				if w.net.Step(p) {
					t.Errorf("%s: Step(%d) is true", c.name, p)
				}
				if state, done := w.net.See(p); state != 0 || done != nil {
					t.Errorf("%s: See(%d) = %d, %v, want 0, nil", c.name, p, state, done)
				}
			}
			if !slices.EqualFunc(before, seeAll(w.net, c.model.Procs), sameSeen) {
				t.Errorf("%s: a step of no process changes something", c.name)
			}
			w.finish()
		}
	}
}

func TestP5Errors(t *testing.T) {
	for _, c := range wrongModels() {
		m := pair()
		c.make(&m)
		if net, e, n := Open(m, c.end); net != nil || e != c.err || n != c.num {
			t.Errorf("%s: Open = %v, %d, %d, want nil, %d, %d", c.name, net, e, n, c.err, c.num)
		}
	}
	if net, e, n := Open(ticking(0, 99), 200); net != nil || e != ErrEvents || n != 0 {
		t.Errorf("301 events: Open = %v, %d, %d, want nil, %d, 0", net, e, n, ErrEvents)
	}
}

// TestP2ModelBehindOpen changes the model behind Open, and once more when
// the net has gone half way.
func TestP2ModelBehindOpen(t *testing.T) {
	for _, c := range netModels() {
		for _, steps := range []int{0, 1, 5, 20} {
			m := copyModel(c.model)
			w := openWatch(t, c.name, m, c.end)
			for k := range steps {
				w.step(k % m.Procs)
			}
			spoilModel(&m)
			w.finish()
		}
	}
}

// TestP2SeeIsNew changes what See answered, and appends to it.
func TestP2SeeIsNew(t *testing.T) {
	for _, c := range netModels() {
		w := openWatch(t, c.name, c.model, c.end)
		var kept [][]Done
		for k := 0; !w.quiet(); k++ {
			p := k % c.model.Procs
			w.step(p)
			_, done := w.net.See(p)
			if cap(done) != len(done) {
				t.Fatalf("%s: room for %d behind %d", c.name, cap(done), len(done))
			}
			kept = append(kept, done)
			_, again := w.net.See(p)
			clear(again)
			again = append(again, Done{Time: -7})
			clear(again)
		}
		for k, done := range kept {
			if !slices.Equal(done, w.lists[k%c.model.Procs][:len(done)]) {
				t.Fatalf("%s: what See answered has become %v", c.name, done)
			}
		}
		w.finish()
	}
}

// TestP2NetsShareNothing steps two nets of one model by turns; while one is
// stepped, the other one stays.
func TestP2NetsShareNothing(t *testing.T) {
	r := rand.New(rand.NewSource(47))
	for _, c := range netModels() {
		pair := []*watch{openWatch(t, c.name, c.model, c.end), openWatch(t, c.name, c.model, c.end)}
		for k := 0; !pair[0].quiet() || !pair[1].quiet(); k++ {
			w, other := pair[k%2], pair[1-k%2]
			before := seeAll(other.net, c.model.Procs)
			w.step(r.Intn(c.model.Procs))
			if !slices.EqualFunc(before, seeAll(other.net, c.model.Procs), sameSeen) {
				t.Fatalf("%s: a step of one net changes the other", c.name)
			}
		}
		pair[0].finish()
		pair[1].finish()
	}
}
