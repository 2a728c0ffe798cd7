package linear

import (
	"slices"

	"freshet/api"
	"freshet/diff"
	"freshet/moment"
)

// failure is that of an operator: at the first time, of all at which it failed.
type failure struct {
	time api.Time
	why  api.Errno
}

// Fail records that the operator fails at t.
func (f *failure) Fail(t api.Time) {
	if f.why == api.OK || moment.Compare(t, f.time) < 0 {
		f.time, f.why = t, api.ErrOver
	}
}

// FailAll records that the operator fails for each of l.
func (f *failure) FailAll(l []api.Update) {
	for _, u := range l {
		f.Fail(u.Time)
	}
}

// Producer gathers what an operator produces, and its failures.
type Producer struct {
	failure
	made []api.Update
}

// Produce adds an update, or, with an error, has the operator fail at its time.
func (p *Producer) Produce(u api.Update, why api.Errno) {
	if why != api.OK {
		p.Fail(u.Time)
		return
	}
	p.made = append(p.made, u)
}

// End returns what was produced, consolidated, and the failure; it shares no memory with what was added.
func (p *Producer) End() ([]api.Update, api.Time, api.Errno) {
	slices.SortFunc(p.made, diff.Compare)
	var l []api.Update
	for rest := p.made; len(rest) > 0; {
		n := alike(rest)
		// One by one, as a sum that does not fit is left out alone.
		x, why := diff.Consolidate(rest[:n])
		if why != api.OK {
			p.Fail(rest[0].Time)
		}
		l = append(l, x...)
		rest = rest[n:]
	}
	return l, p.time, p.why
}

// alike is how many of the first updates differ in their Diff only.
func alike(l []api.Update) int {
	n := 1
	for n < len(l) && diff.Compare(l[0], l[n]) == 0 {
		n++
	}
	return n
}
