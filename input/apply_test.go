package input_test

import (
	"math"
	"slices"
	"strings"
	"testing"

	"freshet/api"
	"freshet/input"
)

// wantApply holds what a record makes of a base: a change of it, or an error and a copy of it.
func wantApply(t *testing.T, name string, b api.Base, r api.Record, no api.Errno, change ...func(*api.Base)) {
	t.Helper()
	got, why := input.Apply(b, r)
	for _, f := range change {
		f(&b)
	}
	if why != no || plain(got) != plain(b) {
		t.Errorf("%s: error %d, want %d\n got %s\nwant %s", name, why, no, brief(plain(got)), brief(plain(b)))
	}
	if why := input.Check(got); why != api.OK {
		t.Errorf("%s: not valid", name)
	}
}

// wantErrors holds that each of some records fails with the error beside it: in each of them as much as can be is wrong for which a later error is named.
func wantErrors(t *testing.T, name string, b api.Base, l ...any) {
	t.Helper()
	for i := 0; i < len(l); i += 2 {
		wantApply(t, name, b, l[i].(api.Record), l[i+1].(api.Errno))
	}
}

// 17.1: kinds, and the fields that they do not use.
func TestApplyForm(t *testing.T) {
	for _, kind := range []api.RecordKind{api.RecordNone, api.RecordCount, 77, 255} {
		for _, b := range []api.Base{{}, full()} {
			wantApply(t, "no kind", b, api.Record{Kind: kind}, api.ErrForm)
		}
	}
	for _, r := range odd() {
		wantApply(t, "a field that is not used", api.Base{}, r, api.ErrForm)
		wantApply(t, "a field that is not used", full(), r, api.ErrForm)
	}
	for _, r := range some() {
		no := api.OK
		if r.Kind != api.RecordSchemas {
			no = api.ErrState
		}
		if _, why := input.Apply(api.Base{}, r); why != no {
			t.Errorf("%s for a zero base: error %d", plain(r), why)
		}
		if _, why := input.Apply(full(), r); (why == api.OK) != (no == api.ErrState) {
			t.Errorf("%s: error %d", plain(r), why)
		}
	}
	// Without sources, nothing else of a record matters.
	for kind := api.RecordPut; kind < api.RecordCount; kind++ {
		wantApply(t, "no sources", api.Base{}, api.Record{Kind: kind}, api.ErrState)
	}
}

func schemas(l ...[]api.Type) api.Record {
	return api.Record{Kind: api.RecordSchemas, Schemas: l}
}

// 17.1
func TestApplySchemas(t *testing.T) {
	for _, l := range [][][]api.Type{{{number}}, {{}}, {nil, {text, number}}, slices.Repeat([][]api.Type{slices.Repeat([]api.Type{text}, maxCols)}, maxSources)} {
		wantApply(t, "schemas", api.Base{}, schemas(l...), api.OK, func(b *api.Base) { b.Schemas, b.Sources = l, make([][]api.Update, len(l)) })
		wantApply(t, "twice", begun(), schemas(l...), api.ErrState)
	}
	wantErrors(t, "schemas", api.Base{}, schemas(), api.ErrForm, schemas([]api.Type{3}), api.ErrForm, schemas([]api.Type{api.TypeNone}), api.ErrForm,
		schemas(make([][]api.Type, maxSources+1)...), api.ErrForm, schemas(slices.Repeat([]api.Type{text}, maxCols+1)), api.ErrForm)
	wantErrors(t, "schemas again", full(), schemas(), api.ErrState, schemas([]api.Type{3}), api.ErrState)
	wantErrors(t, "schemas, and more", full(), api.Record{Kind: api.RecordSchemas, Epoch: 1}, api.ErrForm)
}

func put(source int, l ...api.Update) api.Record {
	return api.Record{Kind: api.RecordPut, Source: source, List: l}
}

// 17.1
func TestApplyPut(t *testing.T) {
	of := func(source int, l ...api.Update) func(*api.Base) {
		return func(b *api.Base) { b.Sources[source] = l }
	}
	old := full().Sources[0]
	wantApply(t, "nothing", full(), put(0), api.OK)
	wantApply(t, "to nothing", full(), put(1, up(9, 2, 5), up(9, 1, 4), up(10, 1, 5)), api.OK, of(1, up(9, 1, 4), up(9, 2, 5), up(10, 1, 5)))
	wantApply(t, "in order", full(), put(0, up(12, 1, 2, "b"), up(9, 1, 1, "aa"), up(9, 1, 1, "a"), up(maxNumber, 1, 0, "")), api.OK,
		of(0, up(maxNumber, 1, 0, ""), old[0], old[1], up(9, 1, 1, "a"), up(9, 1, 1, "aa"), up(12, 2, 2, "b")))
	wantApply(t, "away", full(), put(0, up(12, -1, 2, "b")), api.OK, of(0, old[0], old[1]))
	wantApply(t, "a Diff of 0", full(), put(1, up(9, 0, 5)), api.OK)
	wantApply(t, "to and fro", full(), put(1, up(9, greatest, 5), up(9, 1, 5), up(9, -1, 5), up(9, -greatest, 5)), api.OK)
	wantApply(t, "as great as can be", full(), put(2, up(maxNumber, greatest), up(maxNumber, 1)), api.OK, of(2, up(3, greatest)))
	wantApply(t, "too small", full(), put(2, up(maxNumber, -1)), api.ErrOver)
	wantApply(t, "too great", full(), put(1, up(9, greatest, 5), up(9, 1, 5)), api.ErrOver)
	most := slices.Repeat(ups(up(9, 3, 5)), maxList)
	wantApply(t, "as many as can be", full(), put(1, most...), api.OK, of(1, up(9, 3*maxList, 5)))
	keys := []api.Value{}
	wantApply(t, "an empty key", full(), put(1, api.Update{Key: keys, Row: row(5), Time: api.Time{Epoch: 9}, Diff: 1}), api.OK, of(1, up(9, 1, 5)))
	wantApply(t, "the first epoch", begun(), put(0, up(0, 1, 5)), api.OK, of(0, up(0, 1, 5)))

	// The errors in their order.
	long := up(8, 1, 1, 2, 3, 4, 5, 6, 7, 8, 9)
	far := up(maxNumber+1, 1)
	odd := within(keyed(up(8, 1, 1)), 1, 1)
	over := ups(up(9, greatest, 5), up(9, greatest, 5))
	wantErrors(t, "put", full(),
		put(3, slices.Repeat(ups(long), maxList+1)...), api.ErrRange, put(-1, long), api.ErrRange, put(math.MaxInt), api.ErrRange, put(math.MinInt), api.ErrRange,
		put(0, slices.Repeat(ups(long), maxList+1)...), api.ErrLong, put(1, append(most, up(9, 3, 5))...), api.ErrLong, put(1, make([]api.Update, 1<<20)...), api.ErrLong,
		put(1, odd, long, far), api.ErrForm, put(1, odd, far, long), api.ErrRange, put(1, odd, api.Update{Row: []api.Value{{N: 1, S: "x"}}}), api.ErrForm,
		put(1, odd, within(up(9, 1), maxNumber+1)), api.ErrRange, put(1, up(9, 1), api.Update{Key: long.Row}), api.ErrForm,
		put(1, up(8, 1), odd), api.ErrForm, put(1, up(8, 1), keyed(up(9, 1, 5))), api.ErrForm, put(1, up(8, 1), within(up(9, 1, 5), 1)), api.ErrForm, put(1, up(8, 1), within(up(9, 1, 5), 0, 1)), api.ErrForm,
		put(1, append(over, up(9, 1, "x"), up(8, 1, 5))...), api.ErrLate, put(1, up(3, 0, 5)), api.ErrLate, put(1, up(0, 1, 5)), api.ErrLate,
		put(1, append(over, up(9, 1, "x"))...), api.ErrType, put(1, append(over, up(9, 1))...), api.ErrType, put(1, append(over, up(9, 1, 5, 5))...), api.ErrType,
		put(0, up(9, 0, "x", 1)), api.ErrType, put(2, up(9, 1, 0)), api.ErrType,
		put(1, over...), api.ErrOver, put(2, up(9, 1), up(maxNumber, -1)), api.ErrOver)
	// What is late is an error even if no row is.
	all := with(full(), func(b *api.Base) { b.Closed = maxNumber })
	wantErrors(t, "all is closed", all, put(1, up(maxNumber-1, 1, 5)), api.ErrLate, put(1), api.OK)
	wantApply(t, "all is closed", all, put(1, up(maxNumber, 1, 5)), api.OK, of(1, up(maxNumber, 1, 5)))
}

func epoch(kind api.RecordKind, n uint64) api.Record {
	return api.Record{Kind: kind, Epoch: n}
}

// 17.1
func TestApplyClose(t *testing.T) {
	for _, n := range []uint64{10, 11, 1 << 40, maxNumber} {
		wantApply(t, "closing", full(), epoch(api.RecordClose, n), api.OK, func(b *api.Base) { b.Closed = n })
	}
	for _, n := range []uint64{0, 3, 8, 9} {
		wantApply(t, "closed", full(), epoch(api.RecordClose, n), api.ErrLate)
	}
	for _, n := range []uint64{maxNumber + 1, math.MaxUint64} {
		wantApply(t, "too great", full(), epoch(api.RecordClose, n), api.ErrRange)
	}
	wantApply(t, "the first one", begun(), epoch(api.RecordClose, 1), api.OK, func(b *api.Base) { b.Closed = 1 })
	wantApply(t, "none", begun(), epoch(api.RecordClose, 0), api.ErrLate)
	all := with(full(), func(b *api.Base) { b.Closed = maxNumber })
	wantErrors(t, "all is closed", all, epoch(api.RecordClose, maxNumber), api.ErrLate, epoch(api.RecordClose, maxNumber+1), api.ErrRange)
}

func install(name string, p api.Plan) api.Record {
	return api.Record{Kind: api.RecordInstall, Name: name, Plan: p}
}

// 17.1
func TestApplyInstall(t *testing.T) {
	at := func(i int, name string, p api.Plan) func(*api.Base) {
		return func(b *api.Base) { b.Queries = slices.Insert(b.Queries, i, api.Query{Name: name, Plan: p}) }
	}
	longest := strings.Repeat("o", maxName)
	for i, names := range [][]string{{"\x00", "a", "al", "alk\xff"}, {"all\x00", "al\xff", "nond"}, {"none\x00", "nonf", "o", "on"}, {"one\x00", longest, "\xff"}} {
		for _, name := range names {
			wantApply(t, name, full(), install(name, source(2)), api.OK, at(i, name, source(2)))
		}
	}
	loop := iterate(3, source(0), joined(mapped(variable(0), col(0)), mapped(source(0), col(1)), nil, nil))
	wantApply(t, "a loop", begun(), install("q", iterate(3, source(0), variable(0))), api.OK, at(0, "q", iterate(3, source(0), variable(0))))
	wantApply(t, "a loop", full(), install("q", loop), api.OK, at(3, "q", loop))
	wantApply(t, "a long plan", full(), install("x", sized("x", maxData)), api.OK, at(3, "x", sized("x", maxData)))

	// The errors in their order.
	busy := with(full(), at(3, "x", source(0)))
	bad, none := negate(api.Plan{}), source(3)
	wantErrors(t, "install", busy,
		install("", bad), api.ErrForm, install(longest+"x", bad), api.ErrForm, install(strings.Repeat("x", 1<<20), bad), api.ErrForm,
		install("x", bad), api.ErrTwice, install("all", bad), api.ErrTwice, install("none", source(0)), api.ErrTwice,
		install("on", bad), api.ErrFull, install("y", source(0)), api.ErrFull)
	wantErrors(t, "install", full(),
		install("", source(0)), api.ErrForm, install("all", bad), api.ErrTwice, install("one", source(0)), api.ErrTwice,
		install("x", bad), api.ErrForm, install("x", none), api.ErrRange, install("x", source(-1)), api.ErrRange, install("x", variable(0)), api.ErrRange,
		install("x", negates(maxDepth, source(0))), api.ErrLong, install("x", filter(source(0), col(1))), api.ErrType, install("x", concat(source(0), source(1))), api.ErrType,
		install("x", concat(source(0), source(1), sized("x", maxData))), api.ErrType, install("x", negate(sized("x", maxData))), api.ErrLong,
		install("x", sized("x", maxData+1)), api.ErrLong, install("x", sized("y", 2*maxData)), api.ErrLong, install("xx", sized("x", maxData)), api.ErrLong)
}

func named(kind api.RecordKind, name string, n uint64) api.Record {
	return api.Record{Kind: kind, Name: name, Epoch: n}
}

// 17.1
func TestApplyDrop(t *testing.T) {
	wantApply(t, "one with a subscriber", full(), named(api.RecordDrop, "all", 0), api.OK, func(b *api.Base) {
		b.Queries = b.Queries[1:]
		b.Subs = []api.Sub{b.Subs[0], b.Subs[2]}
	})
	wantApply(t, "one without", full(), named(api.RecordDrop, "none", 0), api.OK, func(b *api.Base) { b.Queries = []api.Query{b.Queries[0], b.Queries[2]} })
	wantApply(t, "one with two", full(), named(api.RecordDrop, "one", 0), api.OK, func(b *api.Base) { b.Queries, b.Subs = b.Queries[:2], b.Subs[1:2] })
	for _, name := range []string{"", "a", "b", "on", "ones", "ALL", "\xff", strings.Repeat("x", 1<<20)} {
		wantApply(t, "no such query", full(), named(api.RecordDrop, name, 0), api.ErrNone)
		wantApply(t, "no queries", begun(), named(api.RecordDrop, name, 0), api.ErrNone)
	}
}

// 17.1
func TestApplyMark(t *testing.T) {
	for i, l := range [][]uint64{{9}, {0, 1, 9}, {4, 5, 9}} {
		for _, n := range l {
			name := full().Queries[i].Name
			wantApply(t, name, full(), named(api.RecordMark, name, n), api.OK, func(b *api.Base) { b.Queries[i].Done = n })
		}
	}
	wantErrors(t, "mark", full(),
		named(api.RecordMark, "a", 10), api.ErrNone, named(api.RecordMark, "", 0), api.ErrNone,
		named(api.RecordMark, "all", 8), api.ErrRange, named(api.RecordMark, "one", 3), api.ErrRange, named(api.RecordMark, "one", 0), api.ErrRange,
		named(api.RecordMark, "none", 10), api.ErrRange, named(api.RecordMark, "all", math.MaxUint64), api.ErrRange)
}

func subscribe(name, query string, n uint64) api.Record {
	return api.Record{Kind: api.RecordSub, Name: name, Query: query, Epoch: n}
}

// 17.1
func TestApplySub(t *testing.T) {
	at := func(i int, name, query string, n uint64) func(*api.Base) {
		return func(b *api.Base) { b.Subs = slices.Insert(b.Subs, i, api.Sub{Name: name, Query: query, Next: n}) }
	}
	for i, name := range []string{"\x00", "a\x00", "bb", strings.Repeat("x", maxName)} {
		for _, n := range []uint64{3, 4, 9, 10, maxNumber} {
			wantApply(t, name, full(), subscribe(name, "none", n), api.OK, at(i, name, "none", n))
		}
	}
	busy := with(full(), at(3, "x", "all", 4))
	wantErrors(t, "subscribe", busy,
		subscribe("", "x", 2), api.ErrForm, subscribe(strings.Repeat("a", maxName+1), "x", 2), api.ErrForm,
		subscribe("a", "x", 2), api.ErrTwice, subscribe("x", "all", 4), api.ErrTwice,
		subscribe("y", "x", 2), api.ErrFull, subscribe("y", "all", 4), api.ErrFull)
	wantErrors(t, "subscribe", full(),
		subscribe("", "all", 4), api.ErrForm, subscribe("c", "x", 2), api.ErrTwice,
		subscribe("y", "x", 2), api.ErrNone, subscribe("y", "", maxNumber+1), api.ErrNone, subscribe("y", "a", 4), api.ErrNone, subscribe("y", strings.Repeat("x", 1<<20), 4), api.ErrNone,
		subscribe("y", "all", 2), api.ErrPast, subscribe("y", "all", 0), api.ErrPast,
		subscribe("y", "all", maxNumber+1), api.ErrRange, subscribe("y", "all", math.MaxUint64), api.ErrRange)
}

// 17.1
func TestApplyAck(t *testing.T) {
	for i, n := range []uint64{3, 4} {
		name := full().Subs[i].Name
		wantApply(t, name, full(), named(api.RecordAck, name, n), api.OK, func(b *api.Base) { b.Subs[i].Next, b.Subs[i].Begun = n+1, true })
	}
	late := with(full(), func(b *api.Base) { b.Subs[2].Next = maxNumber - 1 })
	wantApply(t, "up to the end", late, named(api.RecordAck, "c", maxNumber-1), api.OK, func(b *api.Base) { b.Subs[2].Next = maxNumber })
	wantErrors(t, "acknowledge", full(),
		named(api.RecordAck, "all", 3), api.ErrNone, named(api.RecordAck, "", maxNumber), api.ErrNone,
		named(api.RecordAck, "a", 2), api.ErrRange, named(api.RecordAck, "a", 4), api.ErrRange, named(api.RecordAck, "b", 3), api.ErrRange, named(api.RecordAck, "b", 0), api.ErrRange,
		named(api.RecordAck, "c", maxNumber), api.ErrRange, named(api.RecordAck, "c", maxNumber-1), api.ErrRange, named(api.RecordAck, "c", maxNumber+1), api.ErrRange)
}

// 17.1
func TestApplyLeave(t *testing.T) {
	for i, s := range full().Subs {
		wantApply(t, s.Name, full(), named(api.RecordLeave, s.Name, 0), api.OK, func(b *api.Base) { b.Subs = slices.Delete(b.Subs, i, i+1) })
	}
	for _, name := range []string{"", "all", "d", "aa"} {
		wantApply(t, "no such subscriber", full(), named(api.RecordLeave, name, 0), api.ErrNone)
	}
}

// 17.1
func TestApplyHold(t *testing.T) {
	free := func() api.Base {
		return with(full(), func(b *api.Base) { b.Subs = nil })
	}
	wantApply(t, "as it is", full(), epoch(api.RecordHold, 3), api.OK)
	wantApply(t, "up to what is next", with(full(), func(b *api.Base) { b.Subs[0].Next = 4; b.Subs[1].Next = 5 }), epoch(api.RecordHold, 4), api.OK, func(b *api.Base) {
		b.Since = 4
		b.Sources[0][0].Time.Epoch, b.Sources[2][0].Time.Epoch = 4, 4
	})
	for n := uint64(4); n < 10; n++ {
		wantApply(t, "on", free(), epoch(api.RecordHold, n), api.OK, func(b *api.Base) {
			b.Since = n
			b.Sources[0][0].Time.Epoch, b.Sources[2][0].Time.Epoch = n, n
			if n >= 7 {
				b.Sources[0] = ups(up(n, 1, 1, "a"), up(12, 1, 2, "b"))
			}
		})
	}
	away := with(free(), func(b *api.Base) { b.Sources[0][1].Diff = -2 })
	wantApply(t, "away", away, epoch(api.RecordHold, 7), api.OK, func(b *api.Base) {
		b.Since, b.Sources[0], b.Sources[2][0].Time.Epoch = 7, ups(up(12, 1, 2, "b")), 7
	})
	end := with(free(), func(b *api.Base) { b.Closed = maxNumber })
	wantApply(t, "to the end", end, epoch(api.RecordHold, maxNumber), api.OK, func(b *api.Base) {
		b.Since, b.Sources[0], b.Sources[2] = maxNumber, ups(up(maxNumber, 1, 1, "a"), up(maxNumber, 1, 2, "b")), ups(up(maxNumber, -1))
	})
	wantApply(t, "nothing is there", begun(), epoch(api.RecordHold, 0), api.OK)

	// The errors in their order.
	over := with(full(), func(b *api.Base) { b.Sources[1] = ups(up(3, greatest, 1), up(4, 1, 1)) })
	wantErrors(t, "hold", over,
		epoch(api.RecordHold, 0), api.ErrPast, epoch(api.RecordHold, 2), api.ErrPast,
		epoch(api.RecordHold, 10), api.ErrRange, epoch(api.RecordHold, math.MaxUint64), api.ErrRange,
		epoch(api.RecordHold, 4), api.ErrRange, epoch(api.RecordHold, 9), api.ErrRange)
	over.Subs = []api.Sub{{Name: "a", Query: "all", Next: 5}, {Name: "b", Query: "all", Next: 6, Begun: true}}
	wantErrors(t, "hold", over, epoch(api.RecordHold, 6), api.ErrRange, epoch(api.RecordHold, 4), api.ErrOver, epoch(api.RecordHold, 5), api.ErrOver, epoch(api.RecordHold, 2), api.ErrPast)
	over.Subs[1].Next = 5
	wantErrors(t, "hold", over, epoch(api.RecordHold, 5), api.ErrRange, epoch(api.RecordHold, 4), api.ErrOver)
	wantErrors(t, "hold of nothing", begun(), epoch(api.RecordHold, 1), api.ErrRange)
	// Nothing of the other sources is changed with an error of one.
	last := with(free(), func(b *api.Base) { b.Sources[2] = ups(up(3, least), up(5, -1)) })
	wantErrors(t, "hold", last, epoch(api.RecordHold, 5), api.ErrOver)
	wantApply(t, "not all of it", last, epoch(api.RecordHold, 4), api.OK, func(b *api.Base) { b.Since, b.Sources[0][0].Time.Epoch, b.Sources[2][0].Time.Epoch = 4, 4, 4 })
	// What comes behind adds up.
	back := with(free(), func(b *api.Base) { b.Sources[2] = ups(up(3, least), up(4, -1), up(5, 1)) })
	wantApply(t, "all of it", back, epoch(api.RecordHold, 5), api.OK, func(b *api.Base) {
		b.Since, b.Sources[0][0].Time.Epoch, b.Sources[2] = 5, 5, ups(up(5, least))
	})
}

// 17.1, 17.7: the chapter's examples.
func TestExamples(t *testing.T) {
	wantErrors(t, "a zero base", api.Base{}, epoch(api.RecordClose, 2), api.ErrState, schemas(), api.ErrForm)
	b := begun()
	wantErrors(t, "a source", b, put(0, make([]api.Update, 17)...), api.ErrLong, api.Record{Kind: api.RecordClose, Epoch: 2, Name: "x"}, api.ErrForm)
	b, why := input.Apply(b, epoch(api.RecordClose, 2))
	if why != api.OK {
		t.Fatal(why)
	}
	wantErrors(t, "closed", b, epoch(api.RecordClose, 2), api.ErrLate)
	b, _ = input.Apply(b, epoch(api.RecordClose, 3))
	wantErrors(t, "closed", b, put(0, up(2, 1, 7)), api.ErrLate)
	b, _ = input.Apply(b, install("q", source(0)))
	b, _ = input.Apply(b, subscribe("s", "q", 1))
	wantErrors(t, "not the Next", b, named(api.RecordAck, "s", 2), api.ErrRange, named(api.RecordAck, "s", 0), api.ErrRange)
}
