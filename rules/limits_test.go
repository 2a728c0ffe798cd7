// Package rules has the tests of what holds in all packages: the document's limits and errors, the rules of the language, and the ways that the packages lean on.
package rules

import (
	"testing"

	"freshet/api"
)

// Limits
func TestLimits(t *testing.T) {
	for name, x := range map[string][2]uint64{
		"MaxQueries": {api.MaxQueries, 4},
		"MaxList":    {api.MaxList, 16},
		"MaxSources": {api.MaxSources, 8},
		"MaxRounds":  {api.MaxRounds, 16},
		"MaxTop":     {api.MaxTop, 8},
		"MaxDepth":   {api.MaxDepth, 16},
		"MaxNodes":   {api.MaxNodes, 64},
		"MaxLoops":   {api.MaxLoops, 2},
		"MaxNumber":  {api.MaxNumber, 4611686018427387904},
		"MaxCols":    {api.MaxCols, 8},
		"MaxText":    {api.MaxText, 64},
		"MaxData":    {api.MaxData, 65536},
		"MaxName":    {api.MaxName, 32},
		"MaxFiles":   {api.MaxFiles, 256},
		"MaxWaits":   {api.MaxWaits, 4096},
	} {
		if x[0] != x[1] {
			t.Errorf("%s is %d, want %d", name, x[0], x[1])
		}
	}
}

// Errors
func TestErrors(t *testing.T) {
	for i, why := range []api.Errno{
		api.OK, api.ErrRange, api.ErrLong, api.ErrMore, api.ErrForm, api.ErrNone, api.ErrTwice, api.ErrPower, api.ErrState,
		api.ErrFull, api.ErrOver, api.ErrType, api.ErrFix, api.ErrPast, api.ErrLate, api.ErrEarly, api.ErrFailed,
	} {
		if int(why) != i {
			t.Errorf("the error %d is %d", i, why)
		}
	}
}
