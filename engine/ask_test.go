package engine_test

import (
	"testing"

	"freshet/api"
	"freshet/engine"
	"freshet/flow"
	"freshet/front"
)

func wantDone(t *testing.T, name string, e api.Engine, query string, want uint64, failed bool, no api.Errno) {
	t.Helper()
	if n, is, why := engine.Done(e, query); n != want || is != failed || why != no {
		t.Errorf("%s: Done of %s: %d, %t, error %d; want %d, %t, error %d", name, query, n, is, why, want, failed, no)
	}
}

func wantPeek(t *testing.T, name string, e api.Engine, query string, epoch uint64, no api.Errno, want ...api.Count) {
	t.Helper()
	if l, why := engine.Peek(e, query, epoch); plain(l) != plain(want) || why != no {
		t.Errorf("%s: Peek of %s at %d: %s, error %d; want %s, error %d", name, query, epoch, plain(l), why, plain(want), no)
	}
}

func wantHear(t *testing.T, name string, e api.Engine, sub string, epoch uint64, no api.Errno, want ...api.Count) {
	t.Helper()
	if l, why := engine.Hear(e, sub, epoch); plain(l) != plain(want) || why != no {
		t.Errorf("%s: Hear of %s at %d: %s, error %d; want %s, error %d", name, sub, epoch, plain(l), why, plain(want), no)
	}
}

func wantMarks(t *testing.T, name string, e api.Engine, want ...api.Record) {
	t.Helper()
	if l, why := engine.Marks(e); plain(l) != plain(want) || why != api.OK {
		t.Errorf("%s: Marks: %s, error %d; want %s", name, plain(l), why, plain(want))
	}
}

// 18.1 to 18.3: the chapter's examples.
func TestExample(t *testing.T) {
	e := example(t)
	// As long as updates wait.
	wantDone(t, "it waits", e, "c", 0, false, api.OK)
	wantDo(t, "it waits", e, named(api.RecordMark, "c", 1), api.ErrEarly, nil)
	wantDo(t, "it waits", e, epoch(api.RecordHold, 1), api.ErrEarly, nil)
	wantPeek(t, "it waits", e, "c", 0, api.ErrEarly)
	wantMarks(t, "it waits", e)
	e = settle(t, e)
	wantDone(t, "settled", e, "c", 3, false, api.OK)
	for n, want := range []int{1, 2, 1} {
		wantPeek(t, "settled", e, "c", uint64(n), api.OK, count(1, want))
	}
	wantPeek(t, "settled", e, "c", 3, api.ErrEarly)
	wantHear(t, "settled", e, "s", 0, api.ErrPast)
	wantHear(t, "settled", e, "s", 1, api.OK, count(1, 2))
	wantHear(t, "settled", e, "s", 2, api.OK, count(1, 1), count(-1, 2))
	wantHear(t, "settled", e, "s", 3, api.ErrEarly)
	wantMarks(t, "settled", e, named(api.RecordMark, "c", 3))
	e = do(t, e, epoch(api.RecordHold, 1))
	wantPeek(t, "held", e, "c", 0, api.ErrPast)
	wantPeek(t, "held", e, "c", 1, api.OK, count(1, 2))
	wantHear(t, "held", e, "s", 1, api.OK, count(1, 2))

	e = do(t, api.Engine{}, schemas([]api.Type{number}), put(0, up(0, 1, 7)), epoch(api.RecordClose, 1), install("q", source(0)))
	for range 2 {
		l := waits(t, e.Flows[0])
		wantPeek(t, "a source", e, "q", 0, api.ErrEarly)
		e = pick(t, e, "q", l...)
	}
	wantPeek(t, "a source", e, "q", 0, api.OK, count(1, 7))
}

// 18.3
func TestDone(t *testing.T) {
	e := several(t)
	for i, q := range e.Base.Queries {
		f, n, _ := front.Done(e.Flows[i], e.Base.Closed)
		wantDone(t, "several", e, q.Name, n, f.Failed, api.OK)
		wantDone(t, "settled", settle(t, e), q.Name, 5, false, api.OK)
		failed := change(settle(t, e), func(e *api.Engine) { e.Flows[i].Failed, e.Flows[i].Fail = true, 2 })
		wantDone(t, "failed", failed, q.Name, 2, true, api.OK)
		later := change(settle(t, e), func(e *api.Engine) { e.Flows[i].Failed, e.Flows[i].Fail = true, 8 })
		wantDone(t, "it fails later", later, q.Name, 5, true, api.OK)
	}
	for _, name := range []string{"", "a", "s", "loops"} {
		wantDone(t, "no such query", e, name, 0, false, api.ErrNone)
		wantDone(t, "no query", api.Engine{}, name, 0, false, api.ErrNone)
	}
}

// 18.3: the errors in their order.
func TestPeek(t *testing.T) {
	e := do(t, settle(t, several(t)), named(api.RecordAck, "r", 0), named(api.RecordAck, "r", 1), named(api.RecordAck, "r", 2), named(api.RecordAck, "s", 1), named(api.RecordAck, "s", 2))
	e = do(t, e, epoch(api.RecordHold, 2))
	wantPeek(t, "no such query", e, "x", 0, api.ErrNone)
	wantPeek(t, "no such query", e, "", maxNumber+1, api.ErrNone)
	wantPeek(t, "no query", api.Engine{}, "x", 0, api.ErrNone)
	for n, want := range [][]api.Count{nil, nil, {count(1, 1, "a"), count(3, 2, "b")}, {count(3, 2, "b")}, {count(3, 2, "b")}} {
		no := api.OK
		if n < 2 {
			no = api.ErrPast
		}
		wantPeek(t, "held", e, "all", uint64(n), no, want...)
	}
	wantPeek(t, "not closed", e, "all", 5, api.ErrEarly)
	wantPeek(t, "no epoch", e, "all", maxNumber+1, api.ErrRange)
	wantPeek(t, "a join", e, "both", 2, api.OK, count(6, 2, "b", 2))
	wantPeek(t, "a join", e, "both", 3, api.OK, count(6, 2, "b", 2))
	wantPeek(t, "a loop", e, "loop", 2, api.OK, count(1, 2), count(1, 3), count(1, 4))
	wantPeek(t, "a loop", e, "loop", 3, api.OK, count(1, 1), count(1, 2), count(1, 3), count(1, 4))
	// Past is ahead of failed, and failed of early.
	failed := change(e, func(e *api.Engine) { e.Flows[0].Failed, e.Flows[0].Fail = true, 1 })
	wantPeek(t, "failed", failed, "all", 1, api.ErrPast)
	wantPeek(t, "failed", failed, "all", 2, api.ErrFailed)
	wantPeek(t, "failed", failed, "all", 9, api.ErrFailed)
	wantPeek(t, "failed", failed, "all", maxNumber+1, api.ErrRange)
	wantPeek(t, "another one has failed", failed, "both", 2, api.OK, count(6, 2, "b", 2))
	// It is Since of the base that counts: a flow that was installed later is not compacted.
	late := settle(t, do(t, e, install("x", source(1))))
	wantPeek(t, "installed later", late, "x", 1, api.ErrPast)
	wantPeek(t, "installed later", late, "x", 2, api.OK, count(1, 1, "a"), count(3, 2, "b"))
	far := change(e, func(e *api.Engine) { e.Flows[0], _ = flow.Compact(e.Flows[0], 4) })
	wantPeek(t, "compacted further", far, "all", 3, api.ErrPast)
	wantPeek(t, "compacted further", far, "all", 4, api.OK, count(3, 2, "b"))
}

// 18.3: the errors in their order, for those who have not begun, and those who have.
func TestHear(t *testing.T) {
	e := settle(t, several(t))
	wantHear(t, "no such subscriber", e, "x", 9, api.ErrNone)
	wantHear(t, "no such subscriber", e, "all", 0, api.ErrNone)
	wantHear(t, "no subscriber", api.Engine{}, "", 0, api.ErrNone)
	first := [][]api.Count{{count(1, 1), count(1, 2), count(1, 3), count(1, 4)}, {count(-1, 1)}, nil, {count(1, 1)}, nil}
	for n, want := range first {
		wantHear(t, "not begun", e, "r", uint64(n), api.OK, want...)
	}
	wantHear(t, "not closed", e, "r", 5, api.ErrEarly)
	wantHear(t, "no epoch", e, "r", maxNumber+1, api.ErrRange)
	wantHear(t, "ahead of the first", e, "s", 0, api.ErrPast)
	wantHear(t, "the first", e, "s", 1, api.OK)
	wantHear(t, "the next", e, "s", 2, api.OK, count(6, 2, "b", 2))

	// What was acknowledged may be heard of again, but for what is ahead of the first epoch.
	begun := do(t, e, named(api.RecordAck, "r", 0), named(api.RecordAck, "r", 1), named(api.RecordAck, "s", 1))
	wantHear(t, "the first again", begun, "r", 0, api.ErrPast)
	for n, want := range first[1:] {
		wantHear(t, "begun", begun, "r", uint64(n+1), api.OK, want...)
	}
	wantHear(t, "the first again, as a change", begun, "s", 1, api.OK, count(-1, 1, "a", 1))
	held := do(t, begun, epoch(api.RecordHold, 1))
	wantHear(t, "held", held, "r", 0, api.ErrPast)
	wantHear(t, "held", held, "r", 1, api.ErrPast)
	wantHear(t, "held", held, "r", 2, api.OK)
	wantHear(t, "held", held, "r", 3, api.OK, count(1, 1))
	wantHear(t, "held", held, "r", maxNumber+1, api.ErrRange)

	// One that has not begun, at the epoch up to which all is held, hears of all that is there.
	fresh := do(t, held, subscribe("x", "loop", 1), subscribe("y", "loop", 4))
	wantHear(t, "new", fresh, "x", 0, api.ErrPast)
	wantHear(t, "new", fresh, "x", 1, api.OK, first[0][1:]...)
	wantHear(t, "new", fresh, "x", 2, api.OK)
	wantHear(t, "new, and later", fresh, "y", 3, api.ErrPast)
	wantHear(t, "new, and later", fresh, "y", 4, api.OK, first[0]...)
	fresh = do(t, fresh, named(api.RecordLeave, "s", 0), subscribe("z", "loop", 9))
	wantHear(t, "new, and much later", fresh, "z", 8, api.ErrPast)
	wantHear(t, "new, and much later", fresh, "z", 9, api.ErrEarly)
	wantHear(t, "new, and much later", fresh, "z", 10, api.ErrEarly)

	failed := change(held, func(e *api.Engine) {
		for i := range e.Flows {
			e.Flows[i].Failed, e.Flows[i].Fail = true, 2
		}
	})
	wantHear(t, "failed", failed, "r", 1, api.ErrPast)
	wantHear(t, "failed", failed, "r", 2, api.ErrFailed)
	wantHear(t, "failed", failed, "s", 2, api.ErrFailed)
	wantHear(t, "failed", failed, "s", 9, api.ErrFailed)
	// A query that is behind.
	wantHear(t, "it waits", do(t, several(t), named(api.RecordLeave, "s", 0)), "r", 3, api.ErrEarly)
	behind := several(t)
	wantHear(t, "it waits", behind, "r", 0, api.OK, first[0]...)
	// Numbers that do not fit: the result does, but not by how much it changes.
	n := do(t, api.Engine{}, schemas([]api.Type{number}), install("n", source(0)), subscribe("s", "n", 0), subscribe("t", "n", 1), put(0, up(0, least, 1), up(1, 1, 1)), epoch(api.RecordClose, 2))
	n = settle(t, n)
	wantHear(t, "the least number", n, "s", 0, api.OK, count(least, 1))
	wantHear(t, "the least number", n, "s", 1, api.ErrOver)
	wantHear(t, "the least number", n, "t", 1, api.OK, count(least+1, 1))
}

// 18.3
func TestMarks(t *testing.T) {
	e := several(t)
	var want []api.Record
	for i, q := range e.Base.Queries {
		if _, n, _ := front.Done(e.Flows[i], e.Base.Closed); n > q.Done {
			want = append(want, named(api.RecordMark, q.Name, n))
		}
	}
	if len(want) != 2 {
		t.Errorf("marks of %s", plain(want))
	}
	wantMarks(t, "several", e, want...)
	wantMarks(t, "several, marked", do(t, e, want...))
	all := settle(t, e)
	wantMarks(t, "settled", all, named(api.RecordMark, "all", 5), named(api.RecordMark, "both", 5), named(api.RecordMark, "loop", 5))
	wantMarks(t, "one is marked", do(t, all, named(api.RecordMark, "both", 5)), named(api.RecordMark, "all", 5), named(api.RecordMark, "loop", 5))
	wantMarks(t, "nothing", api.Engine{})
	failed := change(all, func(e *api.Engine) {
		for i := range e.Flows {
			e.Flows[i].Failed, e.Flows[i].Fail = true, 3
		}
	})
	wantMarks(t, "failed", failed, named(api.RecordMark, "all", 3), named(api.RecordMark, "loop", 3))
	// A progress less than what was marked, of a flow that has failed.
	wantMarks(t, "failed early", change(failed, func(e *api.Engine) { e.Flows[0].Fail, e.Flows[2].Fail = 1, 0 }))
}
