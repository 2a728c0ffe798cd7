package input_test

import (
	"cmp"
	"fmt"
	"math/big"
	"reflect"
	"runtime"
	"slices"
	"strings"
	"testing"

	"freshet/api"
	"freshet/diff"
	"freshet/expr"
	"freshet/input"
	"freshet/plan"
)

// chance is numbers that look like chance, the same ones each time.
type chance uint64

func (c *chance) below(n int) int {
	*c ^= *c << 13
	*c ^= *c >> 7
	*c ^= *c << 17
	return int(uint64(*c) >> 16 % uint64(n))
}

// pick is one of several.
func pick[T any](c *chance, l ...T) T {
	return l[c.below(len(l))]
}

// place is where the Diffs of a source are added up.
type place struct {
	source int
	row    string
	epoch  uint64
}

// model is a base as it is written down: of maps, with sums that have no bounds.
type model struct {
	schemas       [][]api.Type
	sums          map[place]*big.Int
	rows          map[string][]api.Value
	closed, since uint64
	queries       map[string]api.Query
	subs          map[string]api.Sub
}

func newModel() *model {
	return &model{sums: map[place]*big.Int{}, rows: map[string][]api.Value{}, queries: map[string]api.Query{}, subs: map[string]api.Sub{}}
}

// add adds to the sums, or reports that one does not fit, and then adds nothing.
func (m *model) add(l map[place][]int64) bool {
	sums := map[place]*big.Int{}
	for p, diffs := range l {
		n := new(big.Int)
		if old := m.sums[p]; old != nil {
			n.Set(old)
		}
		for _, d := range diffs {
			n.Add(n, big.NewInt(d))
		}
		if !n.IsInt64() {
			return false
		}
		sums[p] = n
	}
	for p, n := range sums {
		m.sums[p] = n
	}
	return true
}

// base is the base that a model is of.
func (m *model) base() api.Base {
	b := api.Base{Schemas: m.schemas, Closed: m.closed, Since: m.since}
	for i := range m.schemas {
		var l []api.Update
		for p, n := range m.sums {
			if p.source == i && n.Sign() != 0 {
				l = append(l, api.Update{Row: m.rows[p.row], Time: api.Time{Epoch: p.epoch}, Diff: n.Int64()})
			}
		}
		slices.SortFunc(l, diff.Compare)
		b.Sources = append(b.Sources, l)
	}
	for _, q := range m.queries {
		b.Queries = append(b.Queries, q)
	}
	for _, s := range m.subs {
		b.Subs = append(b.Subs, s)
	}
	slices.SortFunc(b.Queries, func(a, b api.Query) int { return cmp.Compare(a.Name, b.Name) })
	slices.SortFunc(b.Subs, func(a, b api.Sub) int { return cmp.Compare(a.Name, b.Name) })
	return b
}

// check is the first error of several conditions, each ahead of its error.
func check(l ...any) api.Errno {
	for i := 0; i < len(l); i += 2 {
		if l[i].(bool) {
			return l[i+1].(api.Errno)
		}
	}
	return api.OK
}

func wrongName(s string) bool { return s == "" || len(s) > maxName }

// apply applies a record of a kind that uses all that it has, as it is written down; a base has sources but at first.
func (m *model) apply(r api.Record) api.Errno {
	if r.Kind == api.RecordSchemas {
		why := check(len(m.schemas) > 0, api.ErrState, plan.CheckSchemas(r.Schemas) != api.OK || len(r.Schemas) == 0, api.ErrForm)
		if why == api.OK {
			m.schemas = r.Schemas
		}
		return why
	}
	if len(m.schemas) == 0 {
		return api.ErrState
	}
	q, asked := m.queries[r.Name]
	s, heard := m.subs[r.Name]
	switch r.Kind {
	case api.RecordPut:
		return m.put(r)
	case api.RecordClose:
		if why := check(r.Epoch <= m.closed, api.ErrLate, r.Epoch > maxNumber, api.ErrRange); why != api.OK {
			return why
		}
		m.closed = r.Epoch
	case api.RecordInstall:
		_, why := plan.Infer(r.Plan, m.schemas)
		if why := check(wrongName(r.Name), api.ErrForm, asked, api.ErrTwice, len(m.queries) >= maxQueries, api.ErrFull, why != api.OK, why, len(code(r)) > maxData, api.ErrLong); why != api.OK {
			return why
		}
		m.queries[r.Name] = api.Query{Name: r.Name, Plan: r.Plan}
	case api.RecordDrop:
		if !asked {
			return api.ErrNone
		}
		delete(m.queries, r.Name)
		for name, s := range m.subs {
			if s.Query == r.Name {
				delete(m.subs, name)
			}
		}
	case api.RecordMark:
		if why := check(!asked, api.ErrNone, r.Epoch < q.Done || r.Epoch > m.closed, api.ErrRange); why != api.OK {
			return why
		}
		q.Done = r.Epoch
		m.queries[r.Name] = q
	case api.RecordSub:
		_, asked := m.queries[r.Query]
		if why := check(wrongName(r.Name), api.ErrForm, heard, api.ErrTwice, len(m.subs) >= maxQueries, api.ErrFull, !asked, api.ErrNone, r.Epoch < m.since, api.ErrPast, r.Epoch > maxNumber, api.ErrRange); why != api.OK {
			return why
		}
		m.subs[r.Name] = api.Sub{Name: r.Name, Query: r.Query, Next: r.Epoch}
	case api.RecordAck:
		if why := check(!heard, api.ErrNone, r.Epoch != s.Next || r.Epoch == maxNumber, api.ErrRange); why != api.OK {
			return why
		}
		s.Next, s.Begun = s.Next+1, true
		m.subs[r.Name] = s
	case api.RecordLeave:
		if !heard {
			return api.ErrNone
		}
		delete(m.subs, r.Name)
	case api.RecordHold:
		return m.hold(r.Epoch)
	}
	return api.OK
}

func (m *model) put(r api.Record) api.Errno {
	odd, late, other := false, false, false
	l := map[place][]int64{}
	if r.Source < 0 || r.Source >= len(m.schemas) {
		return api.ErrRange
	}
	for _, u := range r.List {
		odd = odd || len(u.Key) > 0 || u.Time.Loop[0] > 0 || u.Time.Loop[1] > 0
		late = late || u.Time.Epoch < m.closed
		other = other || !slices.Equal(expr.Schema(u.Row), m.schemas[r.Source])
		p := place{r.Source, plain(u.Row), u.Time.Epoch}
		l[p] = append(l[p], u.Diff)
		m.rows[p.row] = u.Row
	}
	no := diff.Check(r.List)
	if why := check(len(r.List) > maxList, api.ErrLong, no != api.OK, no, odd, api.ErrForm, late, api.ErrLate, other, api.ErrType); why != api.OK {
		return why
	}
	return check(!m.add(l), api.ErrOver)
}

func (m *model) hold(epoch uint64) api.Errno {
	missed := false
	for _, s := range m.subs {
		missed = missed || epoch > s.Next || epoch == s.Next && s.Begun
	}
	if why := check(epoch < m.since, api.ErrPast, epoch > m.closed || missed, api.ErrRange); why != api.OK {
		return why
	}
	old, l := m.sums, map[place][]int64{}
	for p, n := range m.sums {
		p.epoch = max(p.epoch, epoch)
		l[p] = append(l[p], n.Int64())
	}
	m.sums = map[place]*big.Int{}
	if !m.add(l) {
		m.sums = old
		return api.ErrOver
	}
	m.since = epoch
	return api.OK
}

// anyPlan is a plan, which has a schema mostly.
func anyPlan(c *chance) api.Plan {
	s := source(c.below(3))
	return pick(c, s, negate(s), distinct(s), concat(s, s), reduce(s, api.AggCount, 0), reduce(s, api.AggMax, 0, 0), filter(s, col(0)), mapped(s, con("a"), col(0)),
		joined(s, source(c.below(3)), []int{0}, []int{0}), iterate(1+c.below(16), s, variable(0)), iterate(c.below(18), s, negate(variable(c.below(2)))), source(c.below(5)-1), api.Plan{})
}

// anyRecord is a record, which can be applied mostly.
func anyRecord(c *chance, m *model, diffs ...int64) api.Record {
	names := []string{"a", "b", "c", "d", "e", "f"}
	near := func(n uint64) uint64 { return n + uint64(c.below(3)) - uint64(c.below(3)/2) }
	name := pick(c, names...)
	if c.below(40) == 0 {
		name = pick(c, "", strings.Repeat("x", maxName), strings.Repeat("x", maxName+1))
	}
	switch k := c.below(20); {
	case k < 8:
		var l []api.Update
		for range pick(c, 0, 1, 2, 3, 5, 16, 16+c.below(2)) {
			r := pick(c, []any{c.below(3)}, []any{c.below(3), "x"})
			u := up(m.closed+uint64(c.below(3)), pick(c, diffs...), r...)
			switch c.below(300) {
			case 0:
				u = keyed(u)
			case 1:
				u = within(u, 0, 1)
			case 2:
				u.Time.Epoch = maxNumber + 1
			case 3:
				u.Row = append(u.Row, row(1, 2, 3, 4, 5, 6, 7, 8)...)
			case 4, 5:
				u.Time.Epoch--
			}
			l = append(l, u)
		}
		return put(c.below(3)-c.below(30)/29, l...)
	case k == 8:
		return epoch(api.RecordClose, near(m.closed+1))
	case k < 11:
		return install(name, anyPlan(c))
	case k == 11:
		return named(api.RecordDrop, name, 0)
	case k == 12:
		return named(api.RecordMark, name, near(max(m.closed, 2)-uint64(c.below(3))))
	case k < 15:
		return subscribe(name, pick(c, names...), pick(c, m.since-uint64(c.below(2)), near(m.since), near(m.closed), near(m.closed), near(maxNumber)))
	case k < 18:
		return named(api.RecordAck, name, m.subs[name].Next+uint64(c.below(6)/5))
	case k == 18:
		return named(api.RecordLeave, name, 0)
	}
	n := m.since - uint64(c.below(2))
	if c.below(3) > 0 {
		n = m.since
		for _, s := range m.subs {
			n = max(n, s.Next-uint64(c.below(2)))
		}
	}
	return epoch(api.RecordHold, n)
}

// fixed is what of a base cannot change any more by a RecordPut: what was there of each source at each epoch that is closed, and not held.
func fixed(t *testing.T, b api.Base) map[place]string {
	l := map[place]string{}
	for i, s := range b.Sources {
		for e := b.Since; e < b.Closed; e++ {
			there, why := diff.At(s, api.Time{Epoch: e})
			if why != api.OK && why != api.ErrOver {
				t.Fatal(why)
			}
			l[place{source: i, epoch: e}] = fmt.Sprint(there, why)
		}
	}
	return l
}

// 17.1, 17.2, 17.5 to 17.7: many records, held against what is written down.
func TestModel(t *testing.T) {
	c := chance(31)
	errors, done := map[api.Errno]int{}, map[api.RecordKind]int{}
	for range 300 {
		m, b := newModel(), api.Base{}
		diffs := [][]int64{{1, 1, 2, -1, 0}, {1, -1, greatest, least, -1 << 62}}[c.below(3)/2]
		types := schemas([][]api.Type{{number}, {number, text}, {number}}[:1+c.below(3)]...)
		for step := range 150 {
			r := anyRecord(&c, m, diffs...)
			if step == 2 || c.below(50) == 0 {
				r = types
			}
			was := plain(b)
			before := fixed(t, b)
			no := m.apply(r)
			got, why := input.Apply(b, r)
			if want := m.base(); why != no || plain(got) != plain(want) {
				t.Fatalf("%s\nof %s: error %d, want %d\n got %s\nwant %s", plain(r), was, why, no, plain(got), plain(want))
			}
			if plain(b) != was || why != api.OK && plain(got) != was || input.Check(got) != api.OK {
				t.Fatalf("%s\nof %s: not valid, or it was changed", plain(r), was)
			}
			b = got
			errors[why]++
			if why == api.OK {
				done[r.Kind]++
			}
			after := fixed(t, b)
			for p, x := range before {
				if y, found := after[p]; p.epoch >= b.Since && (!found || x != y) {
					t.Fatalf("%s: at the closed epoch %d there is %s after %s", plain(r), p.epoch, y, x)
				}
			}
			if step%20 == 19 {
				l, why := input.Make(b)
				if why != api.OK {
					t.Fatalf("Make of %s: error %d", plain(b), why)
				}
				wantMade(t, "by chance", b, l)
			}
		}
	}
	for _, why := range []api.Errno{api.OK, api.ErrRange, api.ErrLong, api.ErrForm, api.ErrNone, api.ErrTwice, api.ErrState, api.ErrFull, api.ErrOver, api.ErrType, api.ErrPast, api.ErrLate} {
		if errors[why] < 30 {
			t.Errorf("only %d times the error %d", errors[why], why)
		}
	}
	for kind := api.RecordSchemas; kind < api.RecordCount; kind++ {
		if done[kind] < 100 {
			t.Errorf("only %d times the kind %d", done[kind], kind)
		}
	}
}

// roomy is a copy of a value of which each list has two zero elements behind its end, and equal lists are one and the same.
func roomy[T any](x T) T {
	same := map[string]reflect.Value{}
	var wide func(v reflect.Value)
	wide = func(v reflect.Value) {
		switch v.Kind() {
		case reflect.Slice:
			name := fmt.Sprint(v.Type(), v.Interface())
			c, found := same[name]
			if !found {
				c = reflect.MakeSlice(v.Type(), v.Len(), v.Len()+2)
				reflect.Copy(c, v)
				for i := range c.Len() {
					wide(c.Index(i))
				}
				same[name] = c
			}
			v.Set(c)
		case reflect.Struct:
			for i := range v.NumField() {
				wide(v.Field(i))
			}
		}
	}
	wide(reflect.ValueOf(&x).Elem())
	return x
}

// walk finds all lists in a value, of any depth, each with what is behind its end.
func walk(v reflect.Value, found func(reflect.Value)) {
	switch v.Kind() {
	case reflect.Slice:
		v = v.Slice3(0, v.Cap(), v.Cap())
		found(v)
		for i := range v.Len() {
			walk(v.Index(i), found)
		}
	case reflect.Struct:
		for i := range v.NumField() {
			walk(v.Field(i), found)
		}
	}
}

// whole tells all of a value, also what is behind the ends of its lists.
func whole(l ...any) string {
	s := ""
	for _, x := range l {
		s += plain(x)
		walk(reflect.ValueOf(x), func(v reflect.Value) { s += plain(v.Interface()) })
	}
	return s
}

// memory is the places of all lists that were seen.
type memory map[any]bool

// add takes up values, and reports whether all lists in them are new.
func (m memory) add(l ...any) bool {
	fresh := true
	for _, x := range l {
		walk(reflect.ValueOf(x), func(v reflect.Value) {
			for i := range v.Len() {
				p := v.Index(i).Addr().Interface()
				fresh = fresh && !m[p]
				m[p] = true
			}
		})
	}
	return fresh
}

// hold holds that what a call answers is new, twice, and that its arguments are as they were.
func hold(t *testing.T, name string, args []any, call func() []any) {
	t.Helper()
	told := whole(args...)
	m := memory{}
	m.add(args...)
	a, b := call(), call()
	if !m.add(a...) || !m.add(b...) {
		t.Errorf("%s: memory is shared", name)
	}
	if whole(args...) != told {
		t.Errorf("%s: an argument was changed", name)
	}
	if x, y := plain(a), plain(b); x != y {
		t.Errorf("%s: not the same answers:\n%s\n%s", name, x, y)
	}
}

// 17.4, P3, P4: bases and records are as they were, also behind the ends of their lists, and what is answered is new, and the same each time; nothing is left of a call.
func TestNewMemory(t *testing.T) {
	before := runtime.NumGoroutine()
	bases := []api.Base{{}, begun(), full(), with(full(), func(b *api.Base) { b.Subs = nil }), with(full(), func(b *api.Base) { b.Queries[1].Done = 99 })}
	bases = append(bases, with(full(), func(b *api.Base) {
		b.Sources[0], b.Subs = nil, nil
		for i := range 40 {
			b.Sources[0] = append(b.Sources[0], up(uint64(3+i%7), 1, i/7, "x"))
		}
		b.Queries[0].Plan = iterate(3, source(0), concat(filter(variable(0), col(0)), variable(0)))
	}))
	records := slices.Concat(some(), odd()[:20], []api.Record{epoch(api.RecordHold, 7), schemas(nil, []api.Type{text, text}), put(0, up(3, 1, 1, "a")), put(0, up(12, 1, 1, "a"), up(9, 1, 1, "b"), up(9, 1, 1, "b")), subscribe("y", "none", 8), install("y", iterate(2, source(0), mapped(variable(0), col(0), con("z"))))})
	for i, b := range bases {
		b := roomy(b)
		hold(t, fmt.Sprintf("base %d", i), []any{b}, func() []any {
			l, why := input.Make(b)
			return []any{l, why, input.Check(b)}
		})
		for _, r := range records {
			r := roomy(r)
			hold(t, fmt.Sprintf("base %d and %s", i, plain(r)), []any{b, r}, func() []any {
				c, why := input.Apply(b, r)
				return []any{c, why}
			})
		}
	}
	for _, r := range slices.Concat(records, encodable()[:10]) {
		r := roomy(r)
		hold(t, plain(r), []any{r}, func() []any {
			s, why := input.Encode(r)
			d, no := input.Decode(code(r))
			e, again := input.Decode(s)
			return []any{s, why, d, no, e, again}
		})
	}
	if n := runtime.NumGoroutine(); n > before {
		t.Errorf("%d goroutines are left", n-before)
	}
}

// FindQuery and FindSub: where a name is, or would be.
func TestFind(t *testing.T) {
	b := full()
	for name, want := range map[string]int{"": 0, "al": 0, "all": -1, "all\x00": 1, "none": -2, "nonf": 2, "one": -3, "onf": 3, "\xff": 3} {
		i, found := input.FindQuery(b, name)
		if found != (want < 0) || found && i != -1-want || !found && i != want {
			t.Errorf("the query %q: %d, %t", name, i, found)
		}
	}
	for name, want := range map[string]int{"": 0, "a": -1, "aa": 1, "b": -2, "bb": 2, "c": -3, "one": 3} {
		i, found := input.FindSub(b, name)
		if found != (want < 0) || found && i != -1-want || !found && i != want {
			t.Errorf("the subscriber %q: %d, %t", name, i, found)
		}
	}
	if i, found := input.FindSub(api.Base{}, "a"); i != 0 || found {
		t.Errorf("of none: %d, %t", i, found)
	}
}
