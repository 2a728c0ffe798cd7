package input_test

import (
	"fmt"
	"math"
	"slices"
	"strings"
	"testing"

	"freshet/api"
	"freshet/input"
)

// The limits are written out, as they are themselves part of what is tested.
const (
	maxQueries = 4
	maxList    = 16
	maxSources = 8
	maxDepth   = 16
	maxNodes   = 64
	maxNumber  = 1 << 62
	maxCols    = 8
	maxText    = 64
	maxData    = 65536
	maxName    = 32
)

const (
	greatest = math.MaxInt64
	least    = math.MinInt64
)

const (
	number = api.TypeInt
	text   = api.TypeText
)

// row has a number for each integer, and a text for each string.
func row(l ...any) []api.Value {
	var r []api.Value
	for _, x := range l {
		switch x := x.(type) {
		case int:
			r = append(r, api.Value{N: int64(x)})
		case string:
			r = append(r, api.Value{IsText: true, S: x})
		}
	}
	return r
}

// up is an update without a key, outside of loops.
func up(epoch uint64, n int64, l ...any) api.Update {
	return api.Update{Row: row(l...), Time: api.Time{Epoch: epoch}, Diff: n}
}

// keyed is an update with a key.
func keyed(u api.Update) api.Update {
	u.Key = row(1)
	return u
}

// within is an update in a round of each loop.
func within(u api.Update, rounds ...uint64) api.Update {
	copy(u.Time.Loop[:], rounds)
	return u
}

func ups(l ...api.Update) []api.Update { return l }

func source(n int) api.Plan          { return api.Plan{Kind: api.PlanSource, N: n} }
func variable(n int) api.Plan        { return api.Plan{Kind: api.PlanVar, N: n} }
func negate(kid api.Plan) api.Plan   { return api.Plan{Kind: api.PlanNegate, Kids: []api.Plan{kid}} }
func distinct(kid api.Plan) api.Plan { return api.Plan{Kind: api.PlanDistinct, Kids: []api.Plan{kid}} }

func concat(kids ...api.Plan) api.Plan { return api.Plan{Kind: api.PlanConcat, Kids: kids} }

func mapped(kid api.Plan, exprs ...api.Expr) api.Plan {
	return api.Plan{Kind: api.PlanMap, Kids: []api.Plan{kid}, Exprs: exprs}
}

func filter(kid api.Plan, e api.Expr) api.Plan {
	return api.Plan{Kind: api.PlanFilter, Kids: []api.Plan{kid}, Exprs: []api.Expr{e}}
}

func joined(a, b api.Plan, cols, with []int) api.Plan {
	return api.Plan{Kind: api.PlanJoin, Kids: []api.Plan{a, b}, Cols: cols, With: with}
}

func reduce(kid api.Plan, agg api.AggKind, n int, cols ...int) api.Plan {
	return api.Plan{Kind: api.PlanReduce, Kids: []api.Plan{kid}, Agg: agg, N: n, Cols: cols}
}

func iterate(rounds int, a, b api.Plan) api.Plan {
	return api.Plan{Kind: api.PlanIterate, Kids: []api.Plan{a, b}, Rounds: rounds}
}

func col(i int) api.Expr { return api.Expr{Op: api.ExprCol, Col: i} }

func con(l ...any) api.Expr { return api.Expr{Op: api.ExprConst, Const: row(l...)[0]} }

func op(o api.ExprOp, kids ...api.Expr) api.Expr { return api.Expr{Op: o, Kids: kids} }

// nots is an expression within so many others.
func nots(n int, e api.Expr) api.Expr {
	for range n {
		e = op(api.ExprNot, e)
	}
	return e
}

// negates is a plan within so many others.
func negates(n int, p api.Plan) api.Plan {
	for range n {
		p = negate(p)
	}
	return p
}

// sized is a plan for source 0 whose RecordInstall, with a name, has an encoding of so many bytes, which are many.
func sized(name string, n int) api.Plan {
	p := reduce(source(0), api.AggTop, 1)
	p.Cols = make([]int, n-99)
	p.Cols = append(p.Cols, make([]int, n-len(code(api.Record{Kind: api.RecordInstall, Name: name, Plan: p})))...)
	return p
}

// full is a base of which each list has something in it.
func full() api.Base {
	return api.Base{
		Schemas: [][]api.Type{{number, text}, {number}, {}},
		Sources: [][]api.Update{
			{up(3, 2, 1, "a"), up(7, -1, 1, "a"), up(12, 1, 2, "b")},
			nil,
			{up(3, greatest), up(maxNumber, least)},
		},
		Closed: 9,
		Since:  3,
		Queries: []api.Query{
			{Name: "all", Plan: source(0), Done: 9},
			{Name: "none", Plan: negate(source(1))},
			{Name: "one", Plan: reduce(source(0), api.AggCount, 0, 1), Done: 4},
		},
		Subs: []api.Sub{
			{Name: "a", Query: "one", Next: 3},
			{Name: "b", Query: "all", Next: 4, Begun: true},
			{Name: "c", Query: "one", Next: maxNumber, Begun: true},
		},
	}
}

// begun is a base with a source of one number, and nothing else.
func begun() api.Base {
	return api.Base{Schemas: [][]api.Type{{number}}, Sources: make([][]api.Update, 1)}
}

// with is a base with a change.
func with(b api.Base, change func(*api.Base)) api.Base {
	change(&b)
	return b
}

// plain tells all of a value; a list of nothing is told as none is.
func plain(x any) string { return fmt.Sprintf("%+v", x) }

// brief is the beginning of what plain tells; what is long is not told at all, as some of it has no end.
func brief(s string) string { return s[:min(len(s), 600)] }

// wantNo holds that a base is not valid, for all that look at it.
func wantNo(t *testing.T, name string, b api.Base) {
	t.Helper()
	if why := input.Check(b); why != api.ErrState {
		t.Errorf("%s: Check: error %d", name, why)
	}
	for kind := range api.RecordCount + 1 {
		if c, why := input.Apply(b, api.Record{Kind: kind, Epoch: 10}); why != api.ErrState || plain(c) != plain(api.Base{}) {
			t.Errorf("%s: Apply of %d: error %d, %s", name, kind, why, brief(plain(c)))
		}
	}
	if l, why := input.Make(b); why != api.ErrState || len(l) > 0 {
		t.Errorf("%s: Make: error %d, %d records", name, why, len(l))
	}
}

// wantRight holds that a base is valid, for all that look at it.
func wantRight(t *testing.T, name string, b api.Base) {
	t.Helper()
	if why := input.Check(b); why != api.OK {
		t.Errorf("%s: Check: error %d", name, why)
	}
	if c, why := input.Apply(b, api.Record{}); why != api.ErrForm || plain(c) != plain(b) {
		t.Errorf("%s: Apply: error %d, %s, want %s", name, why, brief(plain(c)), brief(plain(b)))
	}
	if _, why := input.Make(b); why != api.OK {
		t.Errorf("%s: Make: error %d", name, why)
	}
}

// 17.1
func TestCheck(t *testing.T) {
	wantRight(t, "a zero base", api.Base{})
	wantRight(t, "empty lists", api.Base{Schemas: [][]api.Type{}, Sources: [][]api.Update{}, Queries: []api.Query{}, Subs: []api.Sub{}})
	wantRight(t, "a source", begun())
	wantRight(t, "all of it", full())
	for name, change := range map[string]func(*api.Base){
		"a type too great":         func(b *api.Base) { b.Schemas[1] = []api.Type{3} },
		"no type":                  func(b *api.Base) { b.Schemas[2] = []api.Type{api.TypeNone} },
		"a source too few":         func(b *api.Base) { b.Sources = b.Sources[:2] },
		"a source too many":        func(b *api.Base) { b.Sources = append(b.Sources, nil) },
		"no sources":               func(b *api.Base) { b.Sources = nil },
		"no schemas":               func(b *api.Base) { b.Schemas = nil },
		"a schema too few":         func(b *api.Base) { b.Schemas = b.Schemas[:2] },
		"out of order":             func(b *api.Base) { slices.Reverse(b.Sources[0]) },
		"twice":                    func(b *api.Base) { b.Sources[0][1] = b.Sources[0][0] },
		"a Diff of 0":              func(b *api.Base) { b.Sources[0][1].Diff = 0 },
		"a key":                    func(b *api.Base) { b.Sources[0][2].Key = row(1) },
		"all keys":                 func(b *api.Base) { b.Sources[0] = ups(keyed(up(3, 1, 1, "a"))) },
		"a round":                  func(b *api.Base) { b.Sources[0][1].Time.Loop[0] = 1 },
		"a round of the next loop": func(b *api.Base) { b.Sources[0][2].Time.Loop[1] = 1 },
		"ahead of Since":           func(b *api.Base) { b.Sources[0][0].Time.Epoch = 2 },
		"an epoch too great":       func(b *api.Base) { b.Sources[2][1].Time.Epoch = maxNumber + 1 },
		"another row":              func(b *api.Base) { b.Sources[0][0].Row = row(1, 1) },
		"a short row":              func(b *api.Base) { b.Sources[0][0].Row = row(1) },
		"a long row":               func(b *api.Base) { b.Sources[0][2].Row = row(2, "b", 1) },
		"a row of nothing":         func(b *api.Base) { b.Sources[2][0].Row = row(1) },
		"a row of another source":  func(b *api.Base) { b.Sources[1] = ups(up(3, 1)) },
		"a value that is not one":  func(b *api.Base) { b.Sources[0][2].Row[0].S = "x" },
		"a text too long":          func(b *api.Base) { b.Sources[0][2].Row[1].S = strings.Repeat("x", maxText+1) },
		"Closed too great":         func(b *api.Base) { b.Closed = maxNumber + 1 },
		"Since behind Closed":      func(b *api.Base) { b.Closed, b.Queries, b.Subs = 2, nil, nil },
		"Since much too great":     func(b *api.Base) { *b = with(begun(), func(b *api.Base) { b.Since = math.MaxUint64 }) },
		"queries out of order":     func(b *api.Base) { b.Queries[0], b.Queries[1] = b.Queries[1], b.Queries[0] },
		"a query twice":            func(b *api.Base) { b.Queries[1].Name = "all" },
		"a query without a name":   func(b *api.Base) { b.Queries[0].Name, b.Subs = "", nil },
		"the name of a query too long": func(b *api.Base) {
			b.Queries[2].Name, b.Subs = "one"+strings.Repeat("x", maxName-2), nil
		},
		"too many queries": func(b *api.Base) {
			b.Queries = append(b.Queries, api.Query{Name: "x", Plan: source(0)}, api.Query{Name: "y", Plan: source(0)})
		},
		"a plan without a schema":   func(b *api.Base) { b.Queries[1].Plan = source(3) },
		"a plan of another type":    func(b *api.Base) { b.Queries[1].Plan = concat(source(0), source(1)) },
		"no plan":                   func(b *api.Base) { b.Queries[1].Plan = api.Plan{} },
		"a plan that is too long":   func(b *api.Base) { b.Queries[1].Plan = sized("none", maxData+1) },
		"Done behind Closed":        func(b *api.Base) { b.Queries[1].Done = 10 },
		"Done much too great":       func(b *api.Base) { b.Queries[1].Done = math.MaxUint64 },
		"subscribers out of order":  func(b *api.Base) { slices.Reverse(b.Subs) },
		"a subscriber twice":        func(b *api.Base) { b.Subs[1].Name = "a" },
		"one without a name":        func(b *api.Base) { b.Subs[0].Name = "" },
		"the name of one too long":  func(b *api.Base) { b.Subs[2].Name = "c" + strings.Repeat("x", maxName) },
		"too many subscribers":      func(b *api.Base) { b.Subs = append(b.Subs, sub("d", 4), sub("e", 4)) },
		"no such query":             func(b *api.Base) { b.Subs[0].Query = "on" },
		"a query of no name":        func(b *api.Base) { b.Subs[2].Query = "" },
		"Next too great":            func(b *api.Base) { b.Subs[2].Next = maxNumber + 1 },
		"Next ahead of Since":       func(b *api.Base) { b.Subs[0].Next = 2 },
		"Next of Since, but it has": func(b *api.Base) { b.Subs[1].Next = 3 },
	} {
		wantNo(t, name, with(full(), change))
	}
	wantNo(t, "nothing, but Closed", api.Base{Closed: 1})
	wantNo(t, "nothing, but Since", api.Base{Since: 1})
	wantNo(t, "nothing, but a query", api.Base{Queries: []api.Query{{Name: "q", Plan: source(0)}}})
	wantNo(t, "nothing, but a subscriber", api.Base{Subs: []api.Sub{{Name: "q", Query: "q"}}})
	wantNo(t, "nothing, but a source", api.Base{Sources: make([][]api.Update, 1)})
	wantNo(t, "Next of the first epoch, but it has", with(full(), func(b *api.Base) {
		*b = begun()
		b.Queries, b.Subs = []api.Query{{Name: "q", Plan: source(0)}}, []api.Sub{{Name: "s", Query: "q", Begun: true}}
	}))
}

func sub(name string, next uint64) api.Sub {
	return api.Sub{Name: name, Query: "all", Next: next}
}

// 17.1: the limits themselves.
func TestCheckLimits(t *testing.T) {
	for name, change := range map[string]func(*api.Base){
		"another query": func(b *api.Base) {
			b.Queries = append(b.Queries, api.Query{Name: strings.Repeat("x", maxName), Plan: source(0)})
		},
		"another subscriber": func(b *api.Base) { b.Subs = append(b.Subs, sub(strings.Repeat("x", maxName), 4)) },
		"names of any bytes": func(b *api.Base) {
			b.Queries[0].Name, b.Queries[2].Name = "\x00", "\xff\xff"
			b.Subs[0].Query, b.Subs[1].Query, b.Subs[2].Query = "\x00", "\xff\xff", "none"
		},
		"all is closed":         func(b *api.Base) { b.Closed = maxNumber },
		"all is done":           func(b *api.Base) { b.Closed, b.Queries[1].Done = maxNumber, maxNumber },
		"what is held is Since": func(b *api.Base) { b.Closed, b.Queries[0].Done = 3, 3; b.Queries[2].Done = 0 },
		"Next of the end":       func(b *api.Base) { b.Subs[0].Next = maxNumber },
		"a plan that is long":   func(b *api.Base) { b.Queries[1].Plan = sized("none", maxData) },
		"many sources": func(b *api.Base) {
			b.Schemas = append(b.Schemas, slices.Repeat([][]api.Type{slices.Repeat([]api.Type{text}, maxCols)}, maxSources-3)...)
			b.Sources = append(b.Sources, make([][]api.Update, maxSources-3)...)
			b.Sources[7] = ups(up(9, 1, "", "", "", "", "", "", "", strings.Repeat("x", maxText)))
		},
	} {
		wantRight(t, name, with(full(), change))
	}
	wantNo(t, "too many sources", with(full(), func(b *api.Base) {
		b.Schemas = append(b.Schemas, make([][]api.Type, maxSources-2)...)
		b.Sources = append(b.Sources, make([][]api.Update, maxSources-2)...)
	}))
	wantNo(t, "too many types", with(full(), func(b *api.Base) { b.Schemas[1] = slices.Repeat([]api.Type{text}, maxCols+1) }))
	// The name is a part of the encoding.
	wantRight(t, "a long plan with a short name", with(full(), func(b *api.Base) { b.Queries[2].Plan = sized("none", maxData) }))
	wantNo(t, "a long plan with a longer name", with(full(), func(b *api.Base) { b.Queries[1].Plan = sized("one", maxData) }))
}

// P1: what contains itself, and what is very long.
func TestCheckEndless(t *testing.T) {
	p := []api.Plan{{Kind: api.PlanNegate}}
	p[0].Kids = p
	e := []api.Expr{{Op: api.ExprNot}}
	e[0].Kids = e
	for name, p := range map[string]api.Plan{"a plan in itself": p[0], "an expression in itself": mapped(source(0), e...), "one that is not used": {Kind: api.PlanSource, Exprs: e}} {
		wantNo(t, name, with(full(), func(b *api.Base) { b.Queries[1].Plan = p }))
		for kind := range api.RecordCount + 1 {
			r := api.Record{Kind: kind, Name: "x", Plan: p}
			if kind == api.RecordClose || kind == api.RecordSub {
				r.Epoch = 10
			}
			want := api.ErrForm
			if kind == api.RecordInstall && name != "one that is not used" {
				want = api.ErrLong
			}
			if _, why := input.Apply(full(), r); why != want {
				t.Errorf("%s: Apply of %d: error %d", name, kind, why)
			}
			if s, why := input.Encode(r); why != api.ErrForm || s != "" {
				t.Errorf("%s: Encode of %d: error %d", name, kind, why)
			}
		}
	}
	wantNo(t, "very many queries", with(full(), func(b *api.Base) { b.Queries = make([]api.Query, 1<<20) }))
	wantNo(t, "very many subscribers", with(full(), func(b *api.Base) { b.Subs = make([]api.Sub, 1<<20) }))
	wantNo(t, "very many schemas", with(full(), func(b *api.Base) { b.Schemas = make([][]api.Type, 1<<20) }))
	wantNo(t, "a very long name", with(full(), func(b *api.Base) { b.Subs[2].Name = strings.Repeat("x", 1<<20) }))
	wantNo(t, "a very long plan", with(full(), func(b *api.Base) { b.Queries[1].Plan = sized("none", 1<<20) }))
	wide := mapped(source(0), slices.Repeat([]api.Expr{nots(maxDepth-1, col(0))}, 1<<10)...)
	for range 12 {
		wide = mapped(wide, wide.Exprs...)
	}
	if _, why := input.Encode(api.Record{Kind: api.RecordInstall, Plan: wide}); why != api.ErrLong {
		t.Errorf("a wide plan: error %d", why)
	}
}
