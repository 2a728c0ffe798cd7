package engine_test

import (
	"fmt"
	"slices"
	"testing"

	"freshet/api"
	"freshet/engine"
	"freshet/flow"
	"freshet/front"
	"freshet/input"
)

// wantDo holds what a record makes of an engine: the base as input.Apply has it, and the flows as they are told to become; or an error and a copy of the engine.
func wantDo(t *testing.T, name string, e api.Engine, r api.Record, no api.Errno, flows func(b api.Base, l []api.Flow) []api.Flow) {
	t.Helper()
	want := e
	if no == api.OK {
		b, why := input.Apply(e.Base, r)
		if why != api.OK {
			t.Fatalf("%s: %s: error %d", name, plain(r), why)
		}
		want = api.Engine{Base: b, Flows: slices.Clone(e.Flows)}
		if flows != nil {
			want.Flows = flows(b, want.Flows)
		}
	}
	got, why := engine.Do(e, r)
	wantEngine(t, name+": "+brief(plain(r)), got, why, want, no)
}

// 18.2: records that the flows need not know of.
func TestDo(t *testing.T) {
	e := several(t)
	wantDo(t, "schemas", api.Engine{}, schemas([]api.Type{number}, nil), api.OK, nil)
	for _, r := range []api.Record{
		epoch(api.RecordClose, 6), epoch(api.RecordClose, maxNumber), subscribe("x", "all", 3), named(api.RecordAck, "r", 0), named(api.RecordAck, "s", 1), named(api.RecordLeave, "s", 0),
		named(api.RecordMark, "all", 2), named(api.RecordMark, "all", 3), named(api.RecordMark, "both", 3), named(api.RecordMark, "loop", 0), put(0), put(1, up(5, 0, 1, "x")),
	} {
		wantDo(t, "several", e, r, api.OK, nil)
	}
	wantDo(t, "no query", do(t, api.Engine{}, schemas(nil)), put(0, up(3, 1)), api.OK, nil)
}

// 18.2: what comes of a source waits at each flow.
func TestDoPut(t *testing.T) {
	for _, e := range []api.Engine{several(t), settle(t, several(t))} {
		for source, l := range [][]api.Update{{up(5, 1, 7), up(6, 1, 7), up(5, 1, 7), up(7, 0, 7)}, {up(5, 1, 7, "z"), up(5, 1, 2, "b"), up(5, -1, 7, "z")}} {
			wantDo(t, "put", e, put(source, l...), api.OK, func(b api.Base, flows []api.Flow) []api.Flow {
				for i := range flows {
					flows[i], _ = flow.Push(flows[i], source, l)
				}
				return flows
			})
		}
	}
	// What is worked off already may be what a sum of the base needs to fit.
	e := settle(t, do(t, api.Engine{}, schemas([]api.Type{number}), install("n", negate(source(0))), install("t", tally(source(0))), put(0, up(5, -9, 1))))
	e = do(t, e, put(0, up(5, greatest, 1), up(5, 1, 1)), epoch(api.RecordClose, 9))
	for _, name := range []string{"n", "t"} {
		if n, failed, why := engine.Done(e, name); n != 5 || !failed || why != api.OK {
			t.Errorf("%s: progress %d, failed %t, error %d", name, n, failed, why)
		}
	}
	wantDo(t, "a mark", e, named(api.RecordMark, "n", 5), api.OK, nil)
	wantDo(t, "a mark", e, named(api.RecordMark, "n", 6), api.ErrEarly, nil)
}

// 18.2: a new query is fed with all that is there.
func TestDoInstall(t *testing.T) {
	e := several(t)
	for i, name := range []string{"a", "azz", "c", "x"} {
		for _, p := range []api.Plan{source(1), joined(source(0), source(1), []int{0}, []int{0}), iterate(3, source(0), next(variable(0))), tally(source(1))} {
			wantDo(t, "install", e, install(name, p), api.OK, func(b api.Base, flows []api.Flow) []api.Flow {
				f, _ := flow.New(p, b.Schemas)
				for n, l := range b.Sources {
					f, _ = flow.Push(f, n, l)
				}
				return slices.Insert(flows, []int{0, 1, 2, 3}[i], f)
			})
		}
	}
	held := do(t, settle(t, e), named(api.RecordLeave, "r", 0), named(api.RecordLeave, "s", 0), epoch(api.RecordHold, 4))
	wantDo(t, "held", held, install("x", source(0)), api.OK, func(b api.Base, flows []api.Flow) []api.Flow {
		f, _ := flow.New(source(0), b.Schemas)
		f, _ = flow.Push(f, 0, b.Sources[0])
		return append(flows, f)
	})
	wantDo(t, "nothing is there", do(t, api.Engine{}, schemas(nil)), install("x", source(0)), api.OK, func(b api.Base, flows []api.Flow) []api.Flow {
		f, _ := flow.New(source(0), b.Schemas)
		return append(flows, f)
	})
}

// 18.2: the flow of a query goes with it.
func TestDoDrop(t *testing.T) {
	e := several(t)
	for i, q := range e.Base.Queries {
		wantDo(t, "drop", e, named(api.RecordDrop, q.Name, 0), api.OK, func(b api.Base, flows []api.Flow) []api.Flow {
			return slices.Delete(flows, i, i+1)
		})
	}
	if got := do(t, e, named(api.RecordDrop, "both", 0)); len(got.Base.Subs) != 1 {
		t.Errorf("subscribers are left: %s", plain(got.Base.Subs))
	}
}

// 18.2: marks of what has not been reached yet.
func TestDoMark(t *testing.T) {
	e := several(t)
	for i, q := range e.Base.Queries {
		_, end, why := front.Done(e.Flows[i], 5)
		if n, failed, no := engine.Done(e, q.Name); n != end || failed || why != api.OK || no != api.OK {
			t.Fatalf("%s: progress %d, want %d", q.Name, n, end)
		}
		for n := q.Done; n <= end; n++ {
			wantDo(t, q.Name, e, named(api.RecordMark, q.Name, n), api.OK, nil)
		}
		for n := end + 1; n <= 5; n++ {
			wantDo(t, q.Name, e, named(api.RecordMark, q.Name, n), api.ErrEarly, nil)
		}
		wantDo(t, q.Name, e, named(api.RecordMark, q.Name, 6), api.ErrRange, nil)
		if q.Done > 0 {
			wantDo(t, q.Name, e, named(api.RecordMark, q.Name, q.Done-1), api.ErrRange, nil)
		}
	}
	all := settle(t, e)
	for _, q := range e.Base.Queries {
		wantDo(t, "settled", all, named(api.RecordMark, q.Name, 5), api.OK, nil)
	}
	// A loop that does not come to an end.
	turn := do(t, api.Engine{}, schemas([]api.Type{number}), install("t", iterate(3, source(0), negate(variable(0)))), put(0, up(2, 1, 1), up(4, -1, 1)), epoch(api.RecordClose, 9))
	turn = settle(t, turn)
	wantDo(t, "a loop", turn, named(api.RecordMark, "t", 2), api.OK, nil)
	wantDo(t, "a loop", turn, named(api.RecordMark, "t", 3), api.ErrEarly, nil)
	if n, failed, why := engine.Done(turn, "t"); n != 2 || !failed || why != api.OK {
		t.Errorf("a loop: progress %d, failed %t, error %d", n, failed, why)
	}
}

// 18.2: what was ahead of an epoch is compacted, but not as long as it waits.
func TestDoHold(t *testing.T) {
	compact := func(n uint64) func(api.Base, []api.Flow) []api.Flow {
		return func(b api.Base, flows []api.Flow) []api.Flow {
			for i := range flows {
				flows[i], _ = flow.Compact(flows[i], n)
			}
			return flows
		}
	}
	e := do(t, several(t), named(api.RecordLeave, "r", 0), named(api.RecordLeave, "s", 0))
	lowest := uint64(5)
	for _, f := range e.Flows {
		if n, found, _ := flow.Low(f); found {
			lowest = min(lowest, n)
		}
	}
	if lowest != 3 {
		t.Fatalf("the first epoch that waits is %d", lowest)
	}
	all := settle(t, e)
	for n := range uint64(7) {
		no := api.OK
		switch {
		case n > 5:
			no = api.ErrRange
		case n > lowest:
			no = api.ErrEarly
		}
		wantDo(t, "it waits", e, epoch(api.RecordHold, n), no, compact(n))
		if no == api.ErrEarly {
			no = api.OK
		}
		wantDo(t, "settled", all, epoch(api.RecordHold, n), no, compact(n))
	}
	// One flow that is behind is enough.
	for i := range all.Flows {
		one := change(all, func(x *api.Engine) { x.Flows[i].States[len(x.Flows[i].States)-1].Waits[0] = ups(up(2, 1, 1, "a")) })
		wantDo(t, "one is behind", one, epoch(api.RecordHold, 3), api.ErrEarly, nil)
		wantDo(t, "one is as far", one, epoch(api.RecordHold, 2), api.OK, compact(2))
	}
	// A flow made by hand that is compacted further than its base stays as it is.
	far := change(all, func(x *api.Engine) { x.Flows[1], _ = flow.Compact(x.Flows[1], 5) })
	wantDo(t, "one is further", far, epoch(api.RecordHold, 4), api.OK, func(b api.Base, flows []api.Flow) []api.Flow {
		kept := flows[1]
		flows = compact(4)(b, flows)
		if plain(flows[1]) != plain(kept) {
			t.Errorf("the flow was compacted")
		}
		return flows
	})
	if got := do(t, far, epoch(api.RecordHold, 4)); got.Flows[0].States[0].Left.Since[0].Epoch != 4 || got.Flows[1].States[0].Left.Since[0].Epoch != 5 {
		t.Errorf("compacted to %s and %s", plain(got.Flows[0].States[0].Left.Since), plain(got.Flows[1].States[0].Left.Since))
	}
	none := do(t, api.Engine{}, schemas(nil), put(0, up(1, 1)), epoch(api.RecordClose, 4))
	wantDo(t, "no query", none, epoch(api.RecordHold, 4), api.OK, nil)
}

// 18.2: the errors of records, ahead of those of flows; the engine is as it was.
func TestDoErrors(t *testing.T) {
	e := several(t)
	over := ups(up(5, greatest, 1), up(5, greatest, 1))
	for _, x := range []struct {
		r  api.Record
		no api.Errno
	}{
		{api.Record{}, api.ErrForm},
		{api.Record{Kind: api.RecordClose, Epoch: 9, Name: "x"}, api.ErrForm},
		{schemas([]api.Type{number}), api.ErrState},
		{put(2), api.ErrRange},
		{put(0, make([]api.Update, 17)...), api.ErrLong},
		{put(0, up(4, 1, 1)), api.ErrLate},
		{put(0, up(5, 1, "x")), api.ErrType},
		{put(0, over...), api.ErrOver},
		{epoch(api.RecordClose, 5), api.ErrLate},
		{install("all", source(0)), api.ErrTwice},
		{install("x", source(2)), api.ErrRange},
		{named(api.RecordDrop, "x", 0), api.ErrNone},
		{named(api.RecordMark, "x", 9), api.ErrNone},
		{named(api.RecordMark, "loop", 9), api.ErrRange},
		{named(api.RecordMark, "all", 1), api.ErrRange},
		{named(api.RecordMark, "loop", 5), api.ErrEarly},
		{subscribe("x", "x", 0), api.ErrNone},
		{named(api.RecordAck, "s", 2), api.ErrRange},
		{named(api.RecordLeave, "x", 0), api.ErrNone},
		{epoch(api.RecordHold, 6), api.ErrRange},
		{epoch(api.RecordHold, 4), api.ErrRange}, // a subscriber has not heard of it
	} {
		wantDo(t, "several", e, x.r, x.no, nil)
	}
	wantDo(t, "nothing", api.Engine{}, epoch(api.RecordClose, 1), api.ErrState, nil)
	// Of a hold, the sum that does not fit comes ahead of what waits.
	b := do(t, api.Engine{}, schemas([]api.Type{number}), put(0, up(0, greatest, 1), up(1, 1, 1)), install("n", source(0)), epoch(api.RecordClose, 4))
	wantDo(t, "no sum", b, epoch(api.RecordHold, 1), api.ErrOver, nil)
	wantDo(t, "past", do(t, settle(t, example(t)), epoch(api.RecordHold, 1)), epoch(api.RecordHold, 0), api.ErrPast, nil)
}

// 18.3
func TestPick(t *testing.T) {
	e := several(t)
	ran := 0
	for i, q := range e.Base.Queries {
		for n := range e.Flows[i].Nodes {
			want := change(e, func(e *api.Engine) { e.Flows[i], _ = flow.Run(e.Flows[i], n) })
			got, why := engine.Pick(e, q.Name, n)
			wantEngine(t, fmt.Sprint(q.Name, " ", n), got, why, want, api.OK)
			if plain(want) != plain(e) {
				ran++
			}
		}
		for _, n := range []int{-1, len(e.Flows[i].Nodes), 1 << 40, -1 << 40} {
			got, why := engine.Pick(e, q.Name, n)
			wantEngine(t, q.Name, got, why, e, api.ErrRange)
		}
	}
	if ran < 3 {
		t.Errorf("only %d nodes did something", ran)
	}
	for _, name := range []string{"", "al", "s", "x"} {
		for _, n := range []int{0, -1, 99} {
			got, why := engine.Pick(e, name, n)
			wantEngine(t, name, got, why, e, api.ErrNone)
			got, why = engine.Pick(api.Engine{}, name, n)
			wantEngine(t, name, got, why, api.Engine{}, api.ErrNone)
		}
	}
}

// 18.3
func TestWork(t *testing.T) {
	e := do(t, several(t), put(0, up(5, 1, 1), up(5, 1, 2), up(5, 1, 3)))
	for i := range 6 {
		e = settle(t, do(t, e, put(0, up(5, 1, 10+i)), put(1, up(5, 1, i, "q"), up(6, 2, i, "r"))))
	}
	worked := 0
	for _, fuel := range []int{-1, 0, 1, 2, 3, 7, 1 << 40} {
		want := change(e, func(e *api.Engine) {
			for i := range e.Flows {
				e.Flows[i], _ = flow.Work(e.Flows[i], fuel)
			}
		})
		got, why := engine.Work(e, fuel)
		wantEngine(t, fmt.Sprint("fuel ", fuel), got, why, want, api.OK)
		for i, f := range got.Flows {
			if plain(f) != plain(e.Flows[i]) {
				worked++
			}
		}
	}
	if worked < 10 {
		t.Errorf("only %d flows worked", worked)
	}
	got, why := engine.Work(api.Engine{}, 1)
	wantEngine(t, "nothing", got, why, api.Engine{}, api.OK)
}
