package engine_test

import (
	"fmt"
	"reflect"
	"runtime"
	"slices"
	"testing"

	"freshet/api"
	"freshet/diff"
	"freshet/engine"
	"freshet/flow"
	"freshet/mean"
	"freshet/plan"
)

// chance is numbers that look like chance, the same ones each time.
type chance uint64

func (c *chance) below(n int) int {
	*c ^= *c << 13
	*c ^= *c >> 7
	*c ^= *c << 17
	return int(uint64(*c) >> 16 % uint64(n))
}

// any1 is one of several.
func any1[T any](c *chance, l ...T) T {
	return l[c.below(len(l))]
}

// anyPlan is a plan of two sources of a number each, within so many loops, whose rows have one number.
func anyPlan(c *chance, depth, loops int) api.Plan {
	if depth == 1 || c.below(9) == 0 {
		if n := c.below(loops + 1); n < loops {
			return variable(n)
		}
		return source(c.below(2))
	}
	sub := func() api.Plan { return anyPlan(c, depth-1, loops) }
	switch k := c.below(10); {
	case k == 0:
		return negate(sub())
	case k == 1:
		return next(sub())
	case k == 2 || k == 3:
		return concat(sub(), sub())
	case k == 4:
		return mapped(joined(sub(), sub(), []int{0}, []int{0}), col(1))
	case k == 5:
		return any1(c, tally(sub()), reduce(sub(), api.AggTop, 2), reduce(sub(), api.AggMin, 0), reduce(sub(), api.AggSum, 0))
	case k == 6 || loops == 2:
		return distinct(sub())
	}
	// Mostly what comes to an end.
	p := iterate(2+c.below(6), sub(), anyPlan(c, depth-1, loops+1))
	if c.below(3) > 0 {
		p.Kids[1] = distinct(concat(sub(), next(variable(0))))
		p.Kids[0] = distinct(p.Kids[0])
	}
	return p
}

// story is an engine, and what it was found to answer.
type story struct {
	*testing.T
	chance
	engine api.Engine
	told   map[string]map[uint64]string      // of each query, what it answered at an epoch
	ends   map[string]uint64                 // of each query, how far it had come
	heard  map[string]map[uint64][]api.Count // of each subscriber, what it heard about an epoch
	first  map[string]uint64                 // of each subscriber, the first epoch that it may hear about
	counts [6]int                            // of answers, of answers of loops, of what was heard, of epochs that failed, of restarts, of holds
}

func newStory(t *testing.T, c *chance) *story {
	s := &story{T: t, chance: *c, told: map[string]map[uint64]string{}, ends: map[string]uint64{}, heard: map[string]map[uint64][]api.Count{}, first: map[string]uint64{}}
	s.engine = do(t, api.Engine{}, schemas([]api.Type{number}, []api.Type{number}))
	return s
}

// try applies a record, and reports whether it could be.
func (s *story) try(r api.Record) bool {
	s.Helper()
	e, why := engine.Do(s.engine, r)
	if why != api.OK && plain(e) != plain(s.engine) {
		s.Fatalf("%s: error %d, but the engine was changed", plain(r), why)
	}
	s.engine = e
	if why != api.OK {
		return false
	}
	switch r.Kind {
	case api.RecordInstall:
		s.told[r.Name], s.ends[r.Name] = map[uint64]string{}, 0
	case api.RecordSub:
		s.heard[r.Name], s.first[r.Name] = map[uint64][]api.Count{}, r.Epoch
	case api.RecordHold:
		s.counts[5]++
	}
	return true
}

// step does something.
func (s *story) step() {
	c := &s.chance
	b := s.engine.Base
	name, sub := any1(c, "p", "q", "r"), any1(c, "x", "y", "z")
	switch k := c.below(24); {
	case k < 5:
		var l []api.Update
		for range c.below(4) {
			l = append(l, up(b.Closed+uint64(c.below(3)), any1[int64](c, 1, 1, 2, -1), c.below(4)))
		}
		s.try(put(c.below(2), l...))
	case k < 8:
		s.try(epoch(api.RecordClose, b.Closed+1))
	case k == 8:
		s.try(install(name, anyPlan(c, 2+c.below(4), 0)))
	case k == 9 && c.below(4) == 0:
		s.try(named(api.RecordDrop, name, 0))
	case k == 10:
		s.try(named(api.RecordMark, name, uint64(c.below(9))))
	case k == 11:
		s.try(subscribe(sub, name, b.Since+uint64(c.below(3))))
	case k == 12:
		s.acknowledge(sub)
	case k == 13 && c.below(6) == 0:
		s.try(named(api.RecordLeave, sub, 0))
	case k == 14 && c.below(3) == 0:
		s.try(epoch(api.RecordHold, b.Since+uint64(c.below(3))))
	case k == 15:
		e, why := engine.Work(s.engine, c.below(9))
		if why != api.OK {
			s.Fatalf("working: error %d", why)
		}
		s.engine = e
	case k == 16:
		if c.below(4) == 0 {
			s.restart()
		}
	case k < 20:
		s.sweep(c.below(3))
	default:
		s.run()
	}
}

// run runs a node of a query.
func (s *story) run() {
	for i, q := range s.engine.Base.Queries {
		if s.below(2) == 0 {
			s.engine = pick(s.T, s.engine, q.Name, s.below(len(s.engine.Flows[i].Nodes)))
		}
	}
}

// sweep runs the nodes of a query at which something waits, the last ones first.
func (s *story) sweep(i int) {
	if i >= len(s.engine.Flows) {
		return
	}
	for range 3 {
		l := waits(s.T, s.engine.Flows[i])
		slices.Reverse(l)
		s.engine = pick(s.T, s.engine, s.engine.Base.Queries[i].Name, l...)
	}
}

// acknowledge has a subscriber say that it has heard of an epoch, if it has.
func (s *story) acknowledge(name string) {
	for _, x := range s.engine.Base.Subs {
		if _, found := s.heard[name][x.Next]; x.Name == name && found {
			s.try(named(api.RecordAck, name, x.Next))
			return
		}
	}
}

// restart starts the engine with its base again.
func (s *story) restart() {
	l, why := engine.Marks(s.engine)
	if why != api.OK {
		s.Fatalf("marks: error %d", why)
	}
	if s.below(2) == 0 {
		s.engine = do(s.T, s.engine, l...)
	}
	e, why := engine.Start(s.engine.Base)
	if why != api.OK || plain(e.Base) != plain(s.engine.Base) {
		s.Fatalf("starting: error %d", why)
	}
	for _, q := range e.Base.Queries {
		n, failed, why := engine.Done(e, q.Name)
		if why != api.OK || n < q.Done && !failed {
			s.Fatalf("%s: progress %d, but %d was done", q.Name, n, q.Done)
		}
		s.ends[q.Name] = min(s.ends[q.Name], max(q.Done, n))
	}
	s.engine = e
	s.counts[4]++
}

// contents is what is in the sources at an epoch.
func (s *story) contents(epoch uint64) [][]api.Count {
	var l [][]api.Count
	for _, updates := range s.engine.Base.Sources {
		there, why := diff.At(updates, api.Time{Epoch: epoch})
		if why != api.OK {
			s.Fatal(why)
		}
		l = append(l, there)
	}
	return l
}

// look holds what each query answers against what its plan comes to, and against what it answered before.
func (s *story) look() {
	b := s.engine.Base
	if why := engine.Check(s.engine); why != api.OK {
		s.Fatalf("not valid: error %d", why)
	}
	for i, q := range b.Queries {
		end, failed, why := engine.Done(s.engine, q.Name)
		low, waits, _ := flow.Low(s.engine.Flows[i])
		if why != api.OK || end > b.Closed || end < s.ends[q.Name] || waits && end > low {
			s.Fatalf("%s: progress %d after %d, error %d", q.Name, end, s.ends[q.Name], why)
		}
		s.ends[q.Name] = end
		if s.engine.Flows[i].Failed {
			continue // a number did not fit
		}
		for e := range b.Closed + 1 {
			s.peek(q, e, end, failed)
		}
	}
}

func (s *story) peek(q api.Query, e, end uint64, failed bool) {
	b := s.engine.Base
	got, why := engine.Peek(s.engine, q.Name, e)
	switch {
	case e < b.Since:
		if why != api.ErrPast || len(got) > 0 {
			s.Fatalf("%s at %d: error %d", q.Name, e, why)
		}
		return
	case e >= end:
		if len(got) > 0 || why != api.ErrEarly && (!failed || why != api.ErrFailed) {
			s.Fatalf("%s at %d, progress %d: error %d", q.Name, e, end, why)
		}
		if failed && e == end {
			s.counts[3]++
			if _, no := mean.Of(q.Plan, s.contents(e), b.Schemas); no != api.ErrFix {
				s.Fatalf("%s failed at %d, but its plan has the error %d", q.Name, e, no)
			}
		}
		return
	}
	want, no := mean.Of(q.Plan, s.contents(e), b.Schemas)
	if why != api.OK || no != api.OK || plain(got) != plain(want) {
		s.Fatalf("%s, %s at %d: %s, error %d; want %s, error %d", q.Name, brief(plain(q.Plan)), e, plain(got), why, plain(want), no)
	}
	if old, found := s.told[q.Name][e]; found && old != plain(got) {
		s.Fatalf("%s at %d: %s after %s", q.Name, e, plain(got), old)
	}
	s.told[q.Name][e] = plain(got)
	s.counts[0]++
	if plan.Loops(q.Plan) > 0 {
		s.counts[1]++
	}
}

// hear has each subscriber hear about its epochs, one after the other, and holds what it has heard in all against the answer.
func (s *story) hear() {
	for _, x := range s.engine.Base.Subs {
		var all []api.Count
		for e := s.first[x.Name]; ; e++ {
			got, found := s.about(x, e)
			if !found {
				break
			}
			all, _ = diff.Merge(all, got)
			want, why := engine.Peek(s.engine, x.Query, e)
			if why != api.OK {
				continue
			}
			s.counts[2]++
			if plain(all) != plain(want) {
				s.Fatalf("%s at %d heard %s in all, want %s", x.Name, e, plain(all), plain(want))
			}
		}
	}
}

// about is what a subscriber hears about an epoch, or has heard before.
func (s *story) about(x api.Sub, e uint64) ([]api.Count, bool) {
	old, found := s.heard[x.Name][e]
	if x.Begun && e == s.first[x.Name] {
		// It would not hear the result any more, but how it changed.
		return old, found
	}
	got, why := engine.Hear(s.engine, x.Name, e)
	if why != api.OK {
		end, _, _ := engine.Done(s.engine, x.Query)
		if e < end && (why != api.ErrPast || e > s.engine.Base.Since) {
			s.Fatalf("%s at %d: error %d", x.Name, e, why)
		}
		return old, found
	}
	if found && plain(got) != plain(old) {
		s.Fatalf("%s at %d: %s after %s", x.Name, e, plain(got), plain(old))
	}
	s.heard[x.Name][e] = got
	return got, true
}

// 18.5 to 18.8, P5, P6, P9: many engines, whatever is done to them in whatever order.
func TestStories(t *testing.T) {
	c := chance(41)
	var counts [6]int
	for range 60 {
		s := newStory(t, &c)
		for range 120 {
			s.step()
			s.look()
			s.hear()
		}
		for i, n := range s.counts {
			counts[i] += n
		}
		c = s.chance
	}
	for i, least := range []int{10000, 3000, 5000, 100, 50, 50} {
		if counts[i] < least {
			t.Errorf("only %d of what is counted as %d", counts[i], i)
		}
	}
}

// 18.5, P10: when all nodes were run till nothing waits, each query has come as far as is closed, or to the first epoch at which its plan has no end.
func TestSettled(t *testing.T) {
	c := chance(42)
	ends, fails := 0, 0
	for range 400 {
		s := newStory(t, &c)
		if !s.try(install("q", anyPlan(&s.chance, 2+s.below(4), 0))) {
			c = s.chance
			continue
		}
		for range 6 {
			s.try(put(s.below(2), up(uint64(s.below(5)), any1[int64](&s.chance, 1, 1, 2, -1), s.below(4)), up(uint64(s.below(5)), 1, s.below(4))))
		}
		s.try(epoch(api.RecordClose, 6))
		s.engine = settle(t, s.engine)
		c = s.chance
		q := s.engine.Base.Queries[0]
		end, failed, why := engine.Done(s.engine, "q")
		if why != api.OK || s.engine.Flows[0].Failed {
			continue
		}
		for e := range end {
			s.peek(q, e, end, failed)
		}
		if !failed {
			ends++
			if end != 6 {
				t.Fatalf("%s: progress %d", plain(q.Plan), end)
			}
			continue
		}
		fails++
		if _, no := mean.Of(q.Plan, s.contents(end), s.engine.Base.Schemas); no != api.ErrFix {
			t.Fatalf("%s failed at %d, but its plan has the error %d", plain(q.Plan), end, no)
		}
		// Also if it is started with its base again.
		s.engine, _ = engine.Start(s.engine.Base)
		s.engine = settle(t, s.engine)
		wantDone(t, "again", s.engine, "q", end, true, api.OK)
	}
	if ends < 100 || fails < 50 {
		t.Errorf("%d queries have come to the end, %d have failed", ends, fails)
	}
}

// roomy is a copy of a value of which each list has two zero elements behind its end, and equal rows are one and the same.
func roomy[T any](x T) T {
	rows := map[string]reflect.Value{}
	var wide func(v reflect.Value)
	wide = func(v reflect.Value) {
		switch v.Kind() {
		case reflect.Slice:
			name := fmt.Sprint(v.Type(), v.Interface())
			c, found := rows[name]
			if !found {
				c = reflect.MakeSlice(v.Type(), v.Len(), v.Len()+2)
				reflect.Copy(c, v)
				for i := range c.Len() {
					wide(c.Index(i))
				}
				if _, ok := v.Interface().([]api.Value); ok {
					rows[name] = c
				}
			}
			v.Set(c)
		case reflect.Struct:
			for i := range v.NumField() {
				wide(v.Field(i))
			}
		case reflect.Array:
			for i := range v.Len() {
				wide(v.Index(i))
			}
		}
	}
	wide(reflect.ValueOf(&x).Elem())
	return x
}

// walk finds all lists in a value, of any depth, each with what is behind its end.
func walk(v reflect.Value, found func(reflect.Value)) {
	switch v.Kind() {
	case reflect.Slice:
		v = v.Slice3(0, v.Cap(), v.Cap())
		found(v)
		for i := range v.Len() {
			walk(v.Index(i), found)
		}
	case reflect.Struct:
		for i := range v.NumField() {
			walk(v.Field(i), found)
		}
	case reflect.Array:
		for i := range v.Len() {
			walk(v.Index(i), found)
		}
	}
}

// whole tells all of a value, also what is behind the ends of its lists.
func whole(l ...any) string {
	s := ""
	for _, x := range l {
		s += plain(x)
		walk(reflect.ValueOf(x), func(v reflect.Value) { s += plain(v.Interface()) })
	}
	return s
}

// memory is the places of all lists that were seen.
type memory map[any]bool

// add takes up values, and reports whether all lists in them are new.
func (m memory) add(l ...any) bool {
	fresh := true
	for _, x := range l {
		walk(reflect.ValueOf(x), func(v reflect.Value) {
			for i := range v.Len() {
				p := v.Index(i).Addr().Interface()
				fresh = fresh && !m[p]
				m[p] = true
			}
		})
	}
	return fresh
}

// hold holds that what a call answers is new, twice, and that its arguments are as they were.
func hold(t *testing.T, name string, args []any, call func() []any) {
	t.Helper()
	told := whole(args...)
	m := memory{}
	m.add(args...)
	a, b := call(), call()
	if !m.add(a...) || !m.add(b...) {
		t.Errorf("%s: memory is shared", name)
	}
	if whole(args...) != told {
		t.Errorf("%s: an argument was changed", name)
	}
	if x, y := plain(a), plain(b); x != y {
		t.Errorf("%s: not the same answers:\n%s\n%s", name, x, y)
	}
}

// 18.4, P3, P4: engines, bases and records are as they were, also behind the ends of their lists, and what is answered is new, and the same each time; nothing is left of a call.
func TestNewMemory(t *testing.T) {
	before := runtime.NumGoroutine()
	for name, b := range bases(t) {
		b := roomy(b)
		hold(t, name, []any{b}, func() []any {
			e, why := engine.Start(b)
			return []any{e, why}
		})
	}
	engines := map[string]api.Engine{"nothing": {}, "several": several(t), "settled": settle(t, several(t)), "the example": example(t), "wrong": wrong(t)["a way more"]}
	engines["settled"] = do(t, engines["settled"], named(api.RecordAck, "r", 0), named(api.RecordAck, "s", 1), named(api.RecordAck, "s", 2))
	for name, e := range engines {
		e := roomy(e)
		for _, r := range []api.Record{
			{}, schemas([]api.Type{number}, nil), schemas(), put(0, up(5, 1, 1), up(6, 1, 1)), put(1, up(7, 1, 1, "a"), up(7, 1, 1, "a")), put(0), epoch(api.RecordClose, 7), epoch(api.RecordClose, 0),
			install("x", iterate(2, source(0), next(variable(0)))), install("all", source(0)), named(api.RecordDrop, "both", 0), named(api.RecordDrop, "x", 0), named(api.RecordMark, "loop", 3), named(api.RecordMark, "loop", 5),
			subscribe("x", "all", 4), named(api.RecordAck, "r", 0), named(api.RecordLeave, "s", 0), epoch(api.RecordHold, 0), epoch(api.RecordHold, 5),
		} {
			r := roomy(r)
			hold(t, name+", "+plain(r), []any{e, r}, func() []any {
				e, why := engine.Do(e, r)
				return []any{e, why}
			})
		}
		hold(t, name, []any{e}, func() []any {
			var l []any
			for _, query := range []string{"all", "both", "c", "loop", "x"} {
				for _, n := range []int{-1, 1, 3} {
					a, why := engine.Pick(e, query, n)
					l = append(l, a, why)
				}
				n, failed, why := engine.Done(e, query)
				a, no := engine.Peek(e, query, 2)
				b, not := engine.Peek(e, query, 5)
				l = append(l, n, failed, why, a, no, b, not)
			}
			for _, sub := range []string{"r", "s", "x"} {
				for n := range uint64(6) {
					a, why := engine.Hear(e, sub, n)
					l = append(l, a, why)
				}
			}
			a, why := engine.Work(e, 5)
			b, no := engine.Marks(e)
			return append(l, a, why, b, no, engine.Check(e))
		})
	}
	if n := runtime.NumGoroutine(); n > before {
		t.Errorf("%d goroutines are left", n-before)
	}
}
