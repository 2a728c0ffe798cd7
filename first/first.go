// Package first keeps the first error of several, so that what looks for errors need not stop at once.
package first

import "freshet/api"

// Error is the first error that was found.
type Error struct {
	Why api.Errno
}

// Fail records an error, if none was found yet.
func (e *Error) Fail(why api.Errno) {
	if e.Why == api.OK {
		e.Why = why
	}
}
