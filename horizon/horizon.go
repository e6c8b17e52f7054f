// Package horizon: many processes, one course of events: see DOC.md.
package horizon

// Errno is what a call answers: OK or the reason for a refusal.
type Errno int

const (
	OK        Errno = iota
	ErrRange        // a model too large
	ErrLink         // a link that cannot be
	ErrRule         // a rule that cannot be
	ErrStart        // a start that cannot be
	ErrEnd          // an end that cannot be
	ErrEvents       // too many events
)

// Link leads from a process to another one; what goes along it takes Ahead at least.
type Link struct{ From, To, Ahead int }

// Emit is an emission along a link.
type Emit struct{ Link, Delay, Load int }

// Rule says what a process does in a state at an event with a load.
type Rule struct {
	Proc, State, Load int
	Next              int
	Emits             []Emit
}

// Start is an event that is there from the beginning.
type Start struct{ Proc, Time, Load int }

// Model is processes, their links, rules and starts.
type Model struct {
	Procs, States, Loads int
	Links                []Link
	Rules                []Rule
	Starts               []Start
}

// Done is an event that was done, and the state of its process behind it.
type Done struct{ Time, From, Seq, Load, State int }

// Net is processes that are stepped one by one. Make it by Open.
type Net struct {
	end int
}

// Open makes a net (P5). So far it only refuses what Check refuses.
func Open(m Model, end int) (*Net, Errno, int) {
	if e, n := Check(m, end); e != OK {
		return nil, e, n
	}
	return &Net{end: end}, OK, 0
}

// Step lets a process do what it is sure of (P6). So far it does nothing.
func (n *Net) Step(p int) bool { return false }

// Over tells whether all is done (P9). So far it always denies it.
func (n *Net) Over() bool { return false }

// See tells a process's state and what was done there (P5). So far that is
// nothing.
func (n *Net) See(p int) (int, []Done) { return 0, nil }
