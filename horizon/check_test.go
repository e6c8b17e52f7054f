package horizon

import (
	"math"
	"testing"
)

// The limits are written out here, not taken from the program: a limit that
// slips must fail.

// pair: two processes, a link each way, two rules, two starts.
func pair() Model {
	return Model{
		Procs: 2, States: 3, Loads: 3,
		Links: []Link{{From: 0, To: 1, Ahead: 5}, {From: 1, To: 0, Ahead: 50}},
		Rules: []Rule{
			{Proc: 0, State: 0, Load: 0, Next: 1, Emits: []Emit{{Link: 0, Delay: 5, Load: 2}}},
			{Proc: 1, State: 1, Load: 2, Next: 2, Emits: []Emit{{Link: 1, Delay: 50, Load: 0}, {Link: 1, Delay: 60, Load: 1}}},
		},
		Starts: []Start{{Proc: 0, Time: 0, Load: 0}, {Proc: 1, Time: 200, Load: 2}},
	}
}

// change alters a right model to one that is to be tried.
type change func(m *Model)

func tryCheck(t *testing.T, name string, m Model, end int, wantErr Errno, wantNum int) {
	t.Helper()
	if e, n := Check(m, end); e != wantErr || n != wantNum {
		t.Errorf("%s: Check = %d, %d, want %d, %d", name, e, n, wantErr, wantNum)
	}
}

func TestErrorNumbers(t *testing.T) {
	for want, e := range []Errno{OK, ErrRange, ErrLink, ErrRule, ErrStart, ErrEnd, ErrEvents} {
		if int(e) != want {
			t.Errorf("error %d has the number %d", want, int(e))
		}
	}
}

func TestP3Right(t *testing.T) {
	tryCheck(t, "pair", pair(), 200, OK, 0)
	tryCheck(t, "least model", Model{Procs: 1, States: 1, Loads: 1}, 0, OK, 0)
	tryCheck(t, "empty lists", Model{Procs: 1, States: 1, Loads: 1, Links: []Link{}, Rules: []Rule{}, Starts: []Start{}}, 200, OK, 0)
}

func TestP3Counts(t *testing.T) {
	fields := []struct {
		name string
		of   func(m *Model) *int
	}{
		{"Procs", func(m *Model) *int { return &m.Procs }},
		{"States", func(m *Model) *int { return &m.States }},
		{"Loads", func(m *Model) *int { return &m.Loads }},
	}
	for _, f := range fields {
		for _, n := range []int{1, 2, 5, 6} {
			m := Model{Procs: 1, States: 1, Loads: 1}
			*f.of(&m) = n
			tryCheck(t, f.name, m, 9, OK, 0)
		}
		for _, n := range []int{0, 7, -1, 100, math.MinInt, math.MaxInt} {
			m := Model{Procs: 1, States: 1, Loads: 1}
			*f.of(&m) = n
			tryCheck(t, f.name, m, 9, ErrRange, 0)
		}
	}
}

// manyRules answers rules for so many different processes, states and loads.
func manyRules(count int) []Rule {
	var rules []Rule
	for i := range count {
		rules = append(rules, Rule{Proc: i / 36, State: i / 6 % 6, Load: i % 6})
	}
	return rules
}

func TestP3Lengths(t *testing.T) {
	links := make([]Link, 13)
	for i := range links {
		links[i].Ahead = 1
	}
	full := Model{Procs: 6, States: 6, Loads: 6, Links: links[:12], Rules: manyRules(40), Starts: make([]Start, 12)}
	tryCheck(t, "all full", full, 200, OK, 0)
	for name, f := range map[string]change{
		"links":  func(m *Model) { m.Links = links },
		"rules":  func(m *Model) { m.Rules = manyRules(41) },
		"starts": func(m *Model) { m.Starts = make([]Start, 13) },
	} {
		m := full
		f(&m)
		tryCheck(t, "one more of "+name, m, 200, ErrRange, 0)
	}
}

func TestP3Links(t *testing.T) {
	for name, f := range map[string]change{
		"to itself":  func(m *Model) { m.Links = append(m.Links, Link{From: 1, To: 1, Ahead: 1}) },
		"same again": func(m *Model) { m.Links = append(m.Links, m.Links[0]) },
		"Ahead 1":    func(m *Model) { m.Links[0].Ahead = 1 },
		"Ahead 50":   func(m *Model) { m.Links = append(m.Links, Link{From: 0, To: 1, Ahead: 50}) },
	} {
		m := pair()
		f(&m)
		tryCheck(t, name, m, 9, OK, 0)
	}
	wrong := map[string]func(l *Link){
		"From -1":   func(l *Link) { l.From = -1 },
		"From 2":    func(l *Link) { l.From = 2 },
		"From min":  func(l *Link) { l.From = math.MinInt },
		"To -1":     func(l *Link) { l.To = -1 },
		"To 2":      func(l *Link) { l.To = 2 },
		"To max":    func(l *Link) { l.To = math.MaxInt },
		"Ahead 0":   func(l *Link) { l.Ahead = 0 },
		"Ahead -1":  func(l *Link) { l.Ahead = -1 },
		"Ahead 51":  func(l *Link) { l.Ahead = 51 },
		"Ahead max": func(l *Link) { l.Ahead = math.MaxInt },
		"Ahead min": func(l *Link) { l.Ahead = math.MinInt },
	}
	for name, f := range wrong {
		for i := range 2 {
			m := pair()
			f(&m.Links[i])
			tryCheck(t, name, m, 9, ErrLink, i)
		}
		m := pair()
		m.Links = append(m.Links, Link{From: 0, To: 0, Ahead: 1}, Link{From: 0, To: 0, Ahead: 1})
		f(&m.Links[2])
		f(&m.Links[3])
		tryCheck(t, name+", twice", m, 9, ErrLink, 2)
	}
}

func TestP3RulesRight(t *testing.T) {
	for name, f := range map[string]change{
		"no emissions":   func(m *Model) { m.Rules[0].Emits = nil },
		"four emissions": func(m *Model) { e := m.Rules[0].Emits[0]; m.Rules[0].Emits = []Emit{e, e, e, e} },
		"Delay as Ahead": func(m *Model) { m.Rules[1].Emits[1].Delay = 50 },
		"Delay 60":       func(m *Model) { m.Rules[0].Emits[0].Delay = 60 },
		"last of all":    func(m *Model) { m.Rules[0] = Rule{Proc: 1, State: 2, Load: 2, Next: 2} },
		"first of all":   func(m *Model) { m.Rules[0] = Rule{} },
		"other process":  func(m *Model) { m.Rules = append(m.Rules, Rule{Proc: 1}) },
		"other state":    func(m *Model) { m.Rules = append(m.Rules, Rule{State: 1}) },
		"other load":     func(m *Model) { m.Rules = append(m.Rules, Rule{Load: 1}) },
	} {
		m := pair()
		f(&m)
		tryCheck(t, name, m, 9, OK, 0)
	}
}

func TestP3RulesWrong(t *testing.T) {
	wrong := map[string]func(r *Rule){
		"Proc -1":        func(r *Rule) { r.Proc = -1 },
		"Proc 2":         func(r *Rule) { r.Proc = 2 },
		"Proc, no emits": func(r *Rule) { r.Proc, r.Emits = 2, nil },
		"Proc max":       func(r *Rule) { r.Proc, r.Emits = math.MaxInt, nil },
		"State -1":       func(r *Rule) { r.State = -1 },
		"State 3":        func(r *Rule) { r.State = 3 },
		"State min":      func(r *Rule) { r.State = math.MinInt },
		"Load -1":        func(r *Rule) { r.Load = -1 },
		"Load 3":         func(r *Rule) { r.Load = 3 },
		"Next -1":        func(r *Rule) { r.Next = -1 },
		"Next 3":         func(r *Rule) { r.Next = 3 },
		"Next max":       func(r *Rule) { r.Next = math.MaxInt },
		"five emissions": func(r *Rule) { e := r.Emits[0]; r.Emits = []Emit{e, e, e, e, e} },
		"Link -1":        func(r *Rule) { r.Emits[0].Link = -1 },
		"Link 2":         func(r *Rule) { r.Emits[0].Link = 2 },
		"Link max":       func(r *Rule) { r.Emits[0].Link = math.MaxInt },
		"Link of other":  func(r *Rule) { r.Emits[0].Link = 1 - r.Emits[0].Link; r.Emits[0].Delay = 55 },
		"Delay 0":        func(r *Rule) { r.Emits[0].Delay = 0 },
		"Delay too near": func(r *Rule) { r.Emits[0].Delay-- },
		"Delay 61":       func(r *Rule) { r.Emits[0].Delay = 61 },
		"Delay min":      func(r *Rule) { r.Emits[0].Delay = math.MinInt },
		"Emit Load -1":   func(r *Rule) { r.Emits[0].Load = -1 },
		"Emit Load 3":    func(r *Rule) { r.Emits[0].Load = 3 },
		"fourth wrong":   func(r *Rule) { e := r.Emits[0]; r.Emits = []Emit{e, e, e, {Link: e.Link, Delay: 61}} },
	}
	for name, f := range wrong {
		for i := range 2 {
			m := pair()
			f(&m.Rules[i])
			tryCheck(t, name, m, 9, ErrRule, i)
		}
		m := pair()
		f(&m.Rules[0])
		f(&m.Rules[1])
		tryCheck(t, name+", twice", m, 9, ErrRule, 0)
	}
}

func TestP3SameRule(t *testing.T) {
	m := pair()
	again := Rule{Proc: 1, State: 1, Load: 2, Next: 0}
	m.Rules = append(m.Rules, Rule{Proc: 1, State: 2, Load: 2}, again)
	tryCheck(t, "same again", m, 9, ErrRule, 3)
	m.Rules = append(m.Rules, Rule{Proc: 9})
	tryCheck(t, "same again, then a wrong one", m, 9, ErrRule, 3)
	m.Rules[2].Next = 3
	tryCheck(t, "a wrong one, then same again", m, 9, ErrRule, 2)
}

func TestP3Starts(t *testing.T) {
	for name, s := range map[string]Start{
		"least": {},
		"most":  {Proc: 1, Time: 200, Load: 2},
	} {
		m := pair()
		m.Starts = []Start{s, s}
		tryCheck(t, name, m, 9, OK, 0)
	}
	for name, s := range map[string]Start{
		"Proc -1":  {Proc: -1},
		"Proc 2":   {Proc: 2},
		"Proc max": {Proc: math.MaxInt},
		"Time -1":  {Time: -1},
		"Time 201": {Time: 201},
		"Time min": {Time: math.MinInt},
		"Time max": {Time: math.MaxInt},
		"Load -1":  {Load: -1},
		"Load 3":   {Load: 3},
		"Load min": {Load: math.MinInt},
	} {
		for i := range 2 {
			m := pair()
			m.Starts[i] = s
			tryCheck(t, name, m, 9, ErrStart, i)
		}
		m := pair()
		m.Starts = append(m.Starts, s, s)
		tryCheck(t, name+", twice", m, 9, ErrStart, 2)
	}
}

func TestP3End(t *testing.T) {
	for _, end := range []int{0, 1, 199, 200} {
		tryCheck(t, "end", pair(), end, OK, 0)
	}
	for _, end := range []int{-1, 201, math.MinInt, math.MaxInt} {
		tryCheck(t, "end", pair(), end, ErrEnd, 0)
	}
}

// TestP1FirstNamed has a model with every error and mends them one by one,
// in the order in which the document names them.
func TestP1FirstNamed(t *testing.T) {
	m := doubling()
	m.Procs = 7
	m.Links = append(m.Links, Link{From: -1})
	m.Rules = append(m.Rules, Rule{Proc: 1, State: 1}, Rule{Next: 1})
	m.Starts = append(m.Starts, Start{}, Start{}, Start{Load: 1})
	tryCheck(t, "all wrong", m, 201, ErrRange, 0)
	m.Procs = 1
	tryCheck(t, "links and behind", m, 201, ErrLink, 1)
	m.Links = m.Links[:1]
	tryCheck(t, "rules and behind", m, 201, ErrRule, 1)
	m.Rules = m.Rules[:1]
	tryCheck(t, "starts and behind", m, 201, ErrStart, 3)
	m.Starts = m.Starts[:1]
	tryCheck(t, "end and behind", m, 201, ErrEnd, 0)
	tryCheck(t, "events", m, 200, ErrEvents, 0)
	tryCheck(t, "none", m, 8, OK, 0)
}
