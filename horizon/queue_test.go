package horizon

import (
	"math"
	"math/rand"
	"slices"
	"testing"
)

var allWidths = []int{math.MinInt, -1, 0, 1, 2, 7, 99, 100, 101, 1 << 40, math.MaxInt}

// plainQueue is a list that is kept in order.
type plainQueue []Item

func (l *plainQueue) push(x Item) {
	i := 0
	for i < len(*l) && !laterThan((*l)[i], x) {
		i++
	}
	*l = slices.Insert(*l, i, x)
}

func laterThan(x, y Item) bool {
	return slices.Compare([]int{x.Time, x.From, x.Seq}, []int{y.Time, y.From, y.Seq}) > 0
}

// wantNext looks at the least item in each way, the last of which takes it out.
func wantNext(t *testing.T, q *Queue, want Item, wantOK bool) {
	t.Helper()
	before := q.Len()
	for range 2 {
		if x, ok := q.Least(); x != want || ok != wantOK {
			t.Fatalf("Least = %+v, %v, want %+v, %v", x, ok, want, wantOK)
		}
	}
	if q.Len() != before {
		t.Fatalf("Least changes Len from %d to %d", before, q.Len())
	}
	if x, ok := q.Pop(); x != want || ok != wantOK {
		t.Fatalf("Pop = %+v, %v, want %+v, %v", x, ok, want, wantOK)
	}
}

func wantLen(t *testing.T, q *Queue, want int) {
	t.Helper()
	if q.Len() != want {
		t.Fatalf("Len = %d, want %d", q.Len(), want)
	}
}

// wantOrder pushes the items and expects them in the order of their loads.
func wantOrder(t *testing.T, width int, items []Item) {
	t.Helper()
	q := NewQueue(width)
	for i, x := range items {
		q.Push(x)
		wantLen(t, q, i+1)
	}
	slices.SortFunc(items, func(a, b Item) int { return a.Load - b.Load })
	for i, x := range items {
		wantNext(t, q, x, true)
		wantLen(t, q, len(items)-i-1)
	}
	wantNext(t, q, Item{}, false)
}

func TestP10Empty(t *testing.T) {
	for _, w := range allWidths {
		q := NewQueue(w)
		wantLen(t, q, 0)
		wantNext(t, q, Item{}, false)
		wantLen(t, q, 0)
		q.Push(Item{Time: 3, From: 2, Seq: 1, Load: 4})
		wantLen(t, q, 1)
		wantNext(t, q, Item{Time: 3, From: 2, Seq: 1, Load: 4}, true)
		wantLen(t, q, 0)
		wantNext(t, q, Item{}, false)
		q.Push(Item{})
		wantNext(t, q, Item{}, true)
		wantNext(t, q, Item{}, false)
	}
}

func TestP10Order(t *testing.T) {
	for _, w := range allWidths {
		wantOrder(t, w, []Item{
			{Time: 5, From: 1, Seq: 0, Load: 4},
			{Time: 5, From: 0, Seq: 9, Load: 3},
			{Time: 4, From: 8, Seq: 8, Load: 1},
			{Time: 5, From: 1, Seq: 1, Load: 5},
			{Time: 6, From: -1, Seq: -1, Load: 6},
			{Time: 5, From: -1, Seq: 9, Load: 2},
			{Time: 605, From: -5, Seq: -5, Load: 7},
		})
	}
}

func TestP10BothEndsOfInt(t *testing.T) {
	for _, w := range allWidths {
		wantOrder(t, w, []Item{
			{Time: math.MaxInt, Load: 11},
			{Time: 0, From: math.MaxInt, Load: 8},
			{Time: math.MinInt, Load: 1},
			{Time: 0, From: math.MinInt, Seq: 3, Load: 4},
			{Time: math.MaxInt - 1, From: 5, Load: 10},
			{Time: -1, From: 5, Load: 3},
			{Time: 1, Load: 9},
			{Time: math.MinInt + 1, Load: 2},
			{Time: 0, Seq: math.MaxInt, Load: 7},
			{Time: 0, Seq: math.MinInt, Load: 5},
			{Time: 0, Seq: 0, Load: 6},
			{Time: math.MaxInt, From: 1, Load: 12},
		})
	}
}

func TestP10AroundZero(t *testing.T) {
	for _, w := range allWidths {
		var items []Item
		for time := 250; time >= -250; time-- {
			items = append(items, Item{Time: time, From: -time, Load: time})
		}
		wantOrder(t, w, items)
	}
}

func TestP10EqualOnes(t *testing.T) {
	for _, w := range allWidths {
		for _, time := range []int{0, 42, -42, math.MinInt, math.MaxInt} {
			q := NewQueue(w)
			for load := range 50 {
				q.Push(Item{Time: time, From: 1, Seq: 2, Load: 100 - load})
			}
			for load := range 25 {
				wantNext(t, q, Item{Time: time, From: 1, Seq: 2, Load: 100 - load}, true)
			}
			// What comes later is behind what is still there, whatever its load.
			q.Push(Item{Time: time, From: 1, Seq: 2, Load: -7})
			for load := 25; load < 50; load++ {
				wantNext(t, q, Item{Time: time, From: 1, Seq: 2, Load: 100 - load}, true)
			}
			wantNext(t, q, Item{Time: time, From: 1, Seq: 2, Load: -7}, true)
		}
	}
}

func randomItem(r *rand.Rand, load int) Item {
	x := Item{Time: r.Intn(30) + load/8, From: r.Intn(3) - 1, Seq: r.Intn(3), Load: load}
	switch r.Intn(20) {
	case 0:
		x.Time = math.MinInt + r.Intn(2)
	case 1:
		x.Time = math.MaxInt - r.Intn(2)
	case 2:
		x.Time = -x.Time
	case 3:
		x.Time = int(r.Uint64())
	}
	return x
}

// TestP10AgainstList drives all widths by the same calls: their answers are
// those of a plain list, so no width is seen.
func TestP10AgainstList(t *testing.T) {
	for _, w := range allWidths {
		r := rand.New(rand.NewSource(3))
		q := NewQueue(w)
		var list plainQueue
		for k := range 4000 {
			// Pushes and pops prevail by turns, so that it runs empty, too.
			if r.Intn(200) < 60+k%80 {
				x := randomItem(r, k)
				q.Push(x)
				list.push(x)
			} else if len(list) == 0 {
				wantNext(t, q, Item{}, false)
			} else {
				wantNext(t, q, list[0], true)
				list = list[1:]
			}
			wantLen(t, q, len(list))
		}
		for _, x := range list {
			wantNext(t, q, x, true)
		}
		wantNext(t, q, Item{}, false)
	}
}

func TestP10Many(t *testing.T) {
	for _, w := range []int{1, 100} {
		for _, sign := range []int{1, -1} {
			q := NewQueue(w)
			for i := range 100000 {
				q.Push(Item{Time: sign * i, Load: i})
			}
			for i := range 100000 {
				want := i
				if sign < 0 {
					want = 99999 - i
				}
				if x, ok := q.Pop(); !ok || x.Load != want {
					t.Fatalf("width %d: %d-th Pop = %+v, %v, want load %d", w, i, x, ok, want)
				}
			}
		}
	}
}

// TestP10Widths looks inside: answers don't tell what a width counts as.
func TestP10Widths(t *testing.T) {
	for width, want := range map[int]int{math.MinInt: 1, -1: 1, 0: 1, 1: 1, 2: 2, 99: 99, 100: 100, 101: 100, math.MaxInt: 100} {
		if q := NewQueue(width); q.width != want {
			t.Errorf("width %d counts as %d, want %d", width, q.width, want)
		}
	}
}

func TestP2QueuesShareNothing(t *testing.T) {
	a, b := NewQueue(5), NewQueue(5)
	a.Push(Item{Time: 1, Load: 1})
	wantLen(t, b, 0)
	b.Push(Item{Time: 1, Load: 2})
	b.Push(Item{Time: 0, Load: 3})
	wantLen(t, a, 1)
	wantNext(t, a, Item{Time: 1, Load: 1}, true)
	wantNext(t, a, Item{}, false)
	wantLen(t, b, 2)
	wantNext(t, b, Item{Time: 0, Load: 3}, true)
	wantNext(t, b, Item{Time: 1, Load: 2}, true)
}

func TestP2QueueKeepsItsOwnItems(t *testing.T) {
	q := NewQueue(5)
	x := Item{Time: 1, Load: 1}
	q.Push(x)
	x.Time, x.Load = 9, 9
	y, _ := q.Least()
	y.Load = 8
	wantNext(t, q, Item{Time: 1, Load: 1}, true)
	wantNext(t, q, Item{}, false)
}
