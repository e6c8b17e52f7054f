package horizon

// kind tells what goes along a link.
type kind int

const (
	kindMessage kind = iota // an event
	kindWord                // nothing earlier than its time will come any more
	kindEnd                 // nothing at all will come any more
)

// parcel is what goes along a link; of a word only the time counts.
type parcel struct {
	Item
	kind kind
	link int
}

// unsaid is what was said along a link ahead of the first word: less than
// any word says, so that each link gets one, be the end 0.
const unsaid = -1

// clock is how far a process knows what comes to it, and how far it has let
// others know what comes from it.
type clock struct {
	end   int
	heard map[int]int // of each link along which something may still come: nothing earlier than this
	ways  []way
}

// way is a link that begins at the clock's process.
type way struct {
	link  int
	ahead int
	said  int // the time of the last word that went along it
}

// newClock answers the clock of a process as it is before anything has come.
func newClock(m Model, proc, end int) clock {
	c := clock{end: end, heard: map[int]int{}}
	for i, l := range m.Links {
		if l.To == proc {
			// Nothing is done before 0, so nothing comes before Ahead.
			c.heard[i] = l.Ahead
		}
		if l.From == proc {
			c.ways = append(c.ways, way{link: i, ahead: l.Ahead, said: unsaid})
		}
	}
	return c
}

func (c *clock) hear(link, time int) { c.heard[link] = time }
func (c *clock) hearEnd(link int)    { delete(c.heard, link) }

// horizon is the time below which nothing more can come to the process.
func (c *clock) horizon() int {
	least := c.end
	for _, time := range c.heard {
		least = min(least, time)
	}
	return least
}

// knowsAll tells whether nothing more can come to the process below the end.
func (c *clock) knowsAll() bool { return c.horizon() == c.end }

// words answers what the others may know of a process that does nothing more
// before a time. What was said already is not said again: so there is an end
// of words.
func (c *clock) words(soonest int) []parcel {
	var out []parcel
	for i := range c.ways {
		w := &c.ways[i]
		time := min(soonest+w.ahead, c.end)
		if time <= w.said {
			continue
		}
		w.said = time
		x := parcel{kind: kindWord, link: w.link, Item: Item{Time: time}}
		if time == c.end {
			x = parcel{kind: kindEnd, link: w.link}
		}
		out = append(out, x)
	}
	return out
}
