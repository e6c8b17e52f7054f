package horizon

import (
	"sync"
	"sync/atomic"
)

// Run does all that happens below the end, and tells of each process its
// state behind that and what was done at it (P4).
func Run(m Model, end int) ([]int, [][]Done, Errno, int) {
	if e, n := checkParts(m, end); e != OK {
		return nil, nil, e, n
	}
	c := newCrew(m, end)
	if !c.workAll() {
		return nil, nil, ErrEvents, 0
	}
	states := make([]int, len(c.workers))
	lists := make([][]Done, len(c.workers))
	for i, w := range c.workers {
		states[i], lists[i] = w.state, w.told()
	}
	return states, lists, OK, 0
}

// crew is the processes and links of a run, each of which has a goroutine.
type crew struct {
	model   Model
	workers []*worker
	links   []chan parcel
	all     sync.WaitGroup
	events  atomic.Int64 // how many events were done, at all processes
	once    sync.Once
	givenUp chan struct{} // closed, if too many events were done
}

// worker is a process that is taken through a run by a goroutine of its own.
// Those of the links that lead to it give it what comes, so all of them need
// the lock.
type worker struct {
	*process
	lock sync.Mutex
	come chan struct{} // holds a sign, if something has come since it was looked at last
}

// turn is what a worker did in one go.
type turn struct {
	sent []parcel
	did  int  // how many events
	last bool // nothing more can happen at the worker
}

// newCrew answers the crew of a right model, of which none works yet.
func newCrew(m Model, end int) *crew {
	c := &crew{model: m, givenUp: make(chan struct{})}
	for _, p := range newProcesses(m, end) {
		c.workers = append(c.workers, &worker{process: p, come: make(chan struct{}, 1)})
	}
	for range m.Links {
		c.links = append(c.links, make(chan parcel))
	}
	return c
}

// workAll lets all goroutines work and waits till they have ended. It tells
// whether all was done: the run is given up, if there are too many events.
func (c *crew) workAll() bool {
	for _, w := range c.workers {
		c.all.Go(func() { c.work(w) })
	}
	for i, l := range c.model.Links {
		c.all.Go(func() { c.workers[l.To].follow(c.links[i]) })
	}
	c.all.Wait()
	return c.events.Load() <= maxEvents
}

// work takes a worker on till nothing more can happen at it or the run is
// given up. Events are counted ahead of what they send: so no more than the
// limit's worth of them ever lead to new ones, though events can double at
// every unit of time.
func (c *crew) work(w *worker) {
	defer c.closeLinks(w)
	for {
		t := w.goOn(c.model)
		if !c.count(t.did) {
			return
		}
		for _, x := range t.sent {
			c.links[x.link] <- x
		}
		if t.last {
			return
		}
		select {
		case <-w.come:
		case <-c.givenUp:
			return
		}
	}
}

// closeLinks lets the goroutines end that follow the links from a worker.
func (c *crew) closeLinks(w *worker) {
	for _, y := range w.ways {
		close(c.links[y.link])
	}
}

// count counts events that were done and tells whether the run goes on. How
// many there are below the end does not hang on who does them first, so
// neither does it whether the run is given up.
func (c *crew) count(did int) bool {
	if c.events.Add(int64(did)) <= maxEvents {
		return true
	}
	c.once.Do(func() { close(c.givenUp) })
	return false
}

// follow gives a worker what comes along a link, and takes it from the link
// whatever the worker is at: so no one who sends waits for long, and links in
// a ring never wait for each other.
func (w *worker) follow(link <-chan parcel) {
	for x := range link {
		w.lock.Lock()
		w.takeIn(x)
		w.lock.Unlock()
		w.wake()
	}
}

// wake leaves a sign for the worker; one is enough, however much has come.
func (w *worker) wake() {
	select {
	case w.come <- struct{}{}:
	default:
	}
}

// goOn lets the process advance. Whether it was for the last time is asked
// under the same lock: what comes right behind it is for the next time.
func (w *worker) goOn(m Model) turn {
	w.lock.Lock()
	defer w.lock.Unlock()
	before := len(w.done)
	sent := w.advance(m)
	return turn{sent: sent, did: len(w.done) - before, last: w.knowsAll()}
}
