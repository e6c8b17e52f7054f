package horizon

import "cmp"

// Item is what stands in a queue.
type Item struct{ Time, From, Seq, Load int }

// Queue gives items out by their time. Make it by NewQueue.
//
// It is laid out as a calendar: each day holds the items of a span of times,
// as wide as the queue's width. Only days with items are there.
type Queue struct {
	width  int
	count  int
	pushed int // how many items were ever put in: the next one's rank among its equals
	days   heap[*day]
	byDate map[int]*day
}

// day is the items of one span of times.
type day struct {
	date  int
	items heap[entry]
}

// entry is an item and how many were put in ahead of it, by which equal
// items are told apart.
type entry struct {
	Item
	rank int
}

// NewQueue makes a queue (P10).
func NewQueue(width int) *Queue {
	return &Queue{width: min(max(width, 1), maxWidth), byDate: map[int]*day{}}
}

// Push puts an item in (P10).
func (q *Queue) Push(x Item) {
	q.dayOf(x.Time).items.push(entry{Item: x, rank: q.pushed})
	q.pushed++
	q.count++
}

// Pop takes the least item out (P10).
func (q *Queue) Pop() (Item, bool) {
	if q.count == 0 {
		return Item{}, false
	}
	d := q.days[0]
	x := d.items.pop()
	if len(d.items) == 0 {
		q.days.pop()
		delete(q.byDate, d.date)
	}
	q.count--
	return x.Item, true
}

// Least tells the least item (P10).
func (q *Queue) Least() (Item, bool) {
	if q.count == 0 {
		return Item{}, false
	}
	return q.days[0].items[0].Item, true
}

// Len tells how many items there are (P10).
func (q *Queue) Len() int { return q.count }

// dayOf answers the day of a time, a new one if need be. Division cuts
// towards 0, so the day around 0 is wider than the others: that is no harm,
// as a later time never has an earlier date.
func (q *Queue) dayOf(time int) *day {
	date := time / q.width
	d, ok := q.byDate[date]
	if !ok {
		d = &day{date: date}
		q.byDate[date] = d
		q.days.push(d)
	}
	return d
}

func (d *day) before(other *day) bool { return d.date < other.date }

func (x entry) before(y entry) bool {
	if c := x.Item.compare(y.Item); c != 0 {
		return c < 0
	}
	return x.rank < y.rank
}

func (x Item) before(y Item) bool { return x.compare(y) < 0 }

// compare compares rather than subtracts: times lie at both ends of int.
func (x Item) compare(y Item) int {
	return cmp.Or(cmp.Compare(x.Time, y.Time), cmp.Compare(x.From, y.From), cmp.Compare(x.Seq, y.Seq))
}
