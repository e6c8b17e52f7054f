package horizon

import (
	"slices"
	"testing"
)

func TestClockHears(t *testing.T) {
	// Two links lead from 0 to 1, ahead by 1 and by 2.
	c := newClock(twoLinks(), 1, 50)
	for k, x := range []struct {
		do   func()
		want int
	}{
		{func() {}, 1},
		{func() { c.hear(0, 7) }, 2},
		{func() { c.hear(2, 9) }, 7},
		{func() { c.hear(0, 20) }, 9},
		{func() { c.hearEnd(2) }, 20},
		{func() { c.hearEnd(0) }, 50},
	} {
		x.do()
		if got := c.horizon(); got != x.want {
			t.Errorf("step %d: the horizon is %d, want %d", k, got, x.want)
		}
	}
	if far := newClock(twoLinks(), 1, 1); far.horizon() != 1 {
		t.Errorf("the horizon is %d, behind the end", far.horizon())
	}
}

// TestClockWords: along each link the words rise, and the end comes once,
// behind all of them.
func TestClockWords(t *testing.T) {
	c := newClock(twoLinks(), 0, 10)
	word := func(link, time int) parcel {
		return parcel{kind: kindWord, link: link, Item: Item{Time: time}}
	}
	end := func(link int) parcel { return parcel{kind: kindEnd, link: link} }
	for _, x := range []struct {
		soonest int
		want    []parcel
	}{
		{0, []parcel{word(0, 1), word(1, 1), word(2, 2)}},
		{0, nil},
		{3, []parcel{word(0, 4), word(1, 4), word(2, 5)}},
		{2, nil},
		{8, []parcel{word(0, 9), word(1, 9), end(2)}},
		{9, []parcel{end(0), end(1)}},
		{10, nil},
	} {
		if got := c.words(x.soonest); !slices.Equal(got, x.want) {
			t.Errorf("words at %d are %v, want %v", x.soonest, got, x.want)
		}
	}
}

// TestClockWordsAtEndZero: a link gets its end, be there nothing to do.
func TestClockWordsAtEndZero(t *testing.T) {
	c := newClock(chain(), 0, 0)
	want := []parcel{{kind: kindEnd, link: 0}}
	if got := c.words(c.horizon()); !slices.Equal(got, want) {
		t.Errorf("words are %v, want %v", got, want)
	}
	if got := c.words(c.horizon()); len(got) > 0 {
		t.Errorf("words behind the end: %v", got)
	}
}

// TestAdvanceSendsInOrder: a word rules out what is behind it, so a message
// goes ahead of it; what comes at the end is not sent.
func TestAdvanceSendsInOrder(t *testing.T) {
	p := newProcesses(chain(), 9)[0]
	got := p.advance(chain())
	want := []parcel{{kind: kindMessage, link: 0, Item: Item{Time: 3, From: 0, Seq: 0, Load: 1}}, {kind: kindEnd, link: 0}}
	if !slices.Equal(got, want) {
		t.Errorf("sent: %+v, want %+v", got, want)
	}
	if len(p.done) != 2 {
		t.Errorf("done is %v, and both starts are sure", p.done)
	}
	p = newProcesses(chain(), 10)[0]
	want = slices.Insert(want, 1, parcel{kind: kindMessage, link: 0, Item: Item{Time: 9, From: 0, Seq: 1, Load: 0}})
	if got := p.advance(chain()); !slices.Equal(got, want) {
		t.Errorf("sent: %+v, want %+v", got, want)
	}
}
