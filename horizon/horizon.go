// Package horizon: many processes, one course of events: see DOC.md.
package horizon

// Errno is what a call answers: OK or the reason for a refusal.
type Errno int

const (
	OK        Errno = iota
	ErrRange        // a model too large
	ErrLink         // a link that cannot be
	ErrRule         // a rule that cannot be
	ErrStart        // a start that cannot be
	ErrEnd          // an end that cannot be
	ErrEvents       // too many events
)

// Link leads from a process to another one; what goes along it takes Ahead at least.
type Link struct{ From, To, Ahead int }

// Emit is an emission along a link.
type Emit struct{ Link, Delay, Load int }

// Rule says what a process does in a state at an event with a load.
type Rule struct {
	Proc, State, Load int
	Next              int
	Emits             []Emit
}

// Start is an event that is there from the beginning.
type Start struct{ Proc, Time, Load int }

// Model is processes, their links, rules and starts.
type Model struct {
	Procs, States, Loads int
	Links                []Link
	Rules                []Rule
	Starts               []Start
}

// Done is an event that was done, and the state of its process behind it.
type Done struct{ Time, From, Seq, Load, State int }
