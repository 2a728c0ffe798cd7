package flow_test

import (
	"fmt"
	"reflect"
	"runtime"
	"slices"
	"testing"

	"freshet/api"
	"freshet/diff"
	"freshet/flow"
)

// roomy is a copy of a value of which each list has two zero elements behind its end, and equal rows are one and the same.
func roomy[T any](x T) T {
	rows := map[string]reflect.Value{}
	var wide func(v reflect.Value)
	wide = func(v reflect.Value) {
		switch v.Kind() {
		case reflect.Slice:
			name := fmt.Sprint(v.Type(), v.Interface())
			c, found := rows[name]
			if !found {
				c = reflect.MakeSlice(v.Type(), v.Len(), v.Len()+2)
				reflect.Copy(c, v)
				for i := range c.Len() {
					wide(c.Index(i))
				}
				if _, ok := v.Interface().([]api.Value); ok {
					rows[name] = c
				}
			}
			v.Set(c)
		case reflect.Struct:
			for i := range v.NumField() {
				wide(v.Field(i))
			}
		case reflect.Array:
			for i := range v.Len() {
				wide(v.Index(i))
			}
		}
	}
	wide(reflect.ValueOf(&x).Elem())
	return x
}

// walk finds all lists in a value, of any depth, each with what is behind its end.
func walk(v reflect.Value, found func(reflect.Value)) {
	switch v.Kind() {
	case reflect.Slice:
		v = v.Slice3(0, v.Cap(), v.Cap())
		found(v)
		for i := range v.Len() {
			walk(v.Index(i), found)
		}
	case reflect.Struct:
		for i := range v.NumField() {
			walk(v.Field(i), found)
		}
	case reflect.Array:
		for i := range v.Len() {
			walk(v.Index(i), found)
		}
	}
}

// whole tells all of a value, also what is behind the ends of its lists.
func whole(l ...any) string {
	s := ""
	for _, x := range l {
		s += fmt.Sprintf("%+v", x)
		walk(reflect.ValueOf(x), func(v reflect.Value) { s += fmt.Sprintf("%+v", v.Interface()) })
	}
	return s
}

// memory is the places of all lists that were seen.
type memory map[any]bool

// add takes up values, and reports whether all lists in them are new.
func (m memory) add(l ...any) bool {
	fresh := true
	for _, x := range l {
		walk(reflect.ValueOf(x), func(v reflect.Value) {
			for i := range v.Len() {
				p := v.Index(i).Addr().Interface()
				fresh = fresh && !m[p]
				m[p] = true
			}
		})
	}
	return fresh
}

// hold holds that what a call answers is new, twice, and that its arguments are as they were.
func hold(t *testing.T, name string, args []any, call func() []any) {
	t.Helper()
	told := whole(args...)
	m := memory{}
	m.add(args...)
	a, b := call(), call()
	if !m.add(a...) || !m.add(b...) {
		t.Errorf("%s: memory is shared", name)
	}
	if whole(args...) != told {
		t.Errorf("%s: an argument was changed", name)
	}
	if x, y := fmt.Sprintf("%+v", a), fmt.Sprintf("%+v", b); x != y {
		t.Errorf("%s: not the same answers:\n%s\n%s", name, x, y)
	}
}

// 15.4, P3, P4: flows, plans, schemas and updates are as they were, also behind their ends, and what is answered is new, and the same each time; nothing is left of a call.
func TestNewMemory(t *testing.T) {
	before := runtime.NumGoroutine()
	for name, p := range plans() {
		p, s := roomy(p), roomy(schemas(8))
		hold(t, name, []any{p, s}, func() []any {
			f, why := flow.New(p, s)
			return []any{f, why}
		})
	}
	c := chance(14)
	flows := []api.Flow{several(t), wrong(t)["a last key"], wrong(t)["left 2 of 1"]}
	for range 25 {
		f := anyFlow(&c, small...)
		for range c.below(20) {
			f = run(t, f, c.below(len(f.Nodes)))
		}
		if c.below(3) == 0 {
			f.States[c.below(len(f.States))].Left = full(t)
		}
		flows = append(flows, f)
	}
	for i, f := range flows {
		f := roomy(f)
		for _, l := range [][]api.Update{nil, anyUpdates(&c, 1), ups(up(at(1), 1, 1), up(at(1), greatest, 1)), ups(keyed(1, up(at(1), 1, 1)))} {
			l := roomy(l)
			for n := -1; n < 3; n++ {
				hold(t, fmt.Sprintf("flow %d, Push %d", i, n), []any{f, l}, func() []any {
					g, why := flow.Push(f, n, l)
					return []any{g, why}
				})
			}
		}
		for n := -1; n <= len(f.Nodes); n++ {
			hold(t, fmt.Sprintf("flow %d, Run %d", i, n), []any{f}, func() []any {
				g, why := flow.Run(f, n)
				return []any{g, why}
			})
		}
		hold(t, fmt.Sprintf("flow %d", i), []any{f}, func() []any {
			a, _ := flow.Compact(f, 1)
			b, _ := flow.Compact(f, maxNumber)
			c, _ := flow.Compact(f, maxNumber+1)
			d, _ := flow.Work(f, 0)
			e, _ := flow.Work(f, 9)
			w, _ := flow.Waits(f)
			n, found, _ := flow.Low(f)
			out, why := flow.Out(f)
			begun, _ := flow.Begin(f)
			return []any{a, b, c, d, e, w, n, found, out, why, begun.Flow, flow.Check(f)}
		})
	}
	if n := runtime.NumGoroutine(); n > before {
		t.Errorf("%d goroutines are left", n-before)
	}
}

// 15.3, 15.5: a flow that began once, and of which many nodes are run, is as if each had been run alone.
func TestWorking(t *testing.T) {
	c := chance(15)
	for range 200 {
		f := anyFlow(&c, large...)
		w, why := flow.Begin(f)
		for range c.below(20) {
			n := c.below(len(f.Nodes))
			f = run(t, f, n)
			if no := w.Run(n); no != api.OK || w.Run(-1) != api.ErrRange || w.Run(len(f.Nodes)) != api.ErrRange {
				t.Fatalf("running %d: error %d", n, no)
			}
			if l, _ := flow.Waits(f); !slices.Equal(w.Waiting(), l) {
				t.Fatalf("waiting at %d, want %d", w.Waiting(), l)
			}
		}
		wantFlow(t, "working", w.Flow, why, f, api.OK)
	}
	for name, f := range wrong(t) {
		if w, why := flow.Begin(f); why != api.ErrState || !reflect.DeepEqual(w, flow.Working{}) {
			t.Errorf("%s: error %d, %s", name, why, plain(w.Flow))
		}
	}
}

// P1: flows made by hand that are large, in no long time.
func TestMany(t *testing.T) {
	a := source(0)
	nodes := slices.Repeat([]api.Node{by(concat(a), to(1, 0)...), {Kind: api.NodeLoop, Rounds: 16, To: to(1, 0, 2, 0, 2, 1), Back: to(2, 1)}}, 64)
	f := hand(nodes...)
	var l []api.Update
	for i := range 1 << 12 {
		l = append(l, up(at(uint64(i%7), uint64(i%3)), 1, i))
	}
	slices.SortFunc(l, diff.Compare)
	for i := range f.Nodes {
		f.States[i].Waits[0] = l
	}
	begin := put(f, 0, 0)
	if why := flow.Check(begin); why != api.OK {
		t.Fatalf("error %d", why)
	}
	for _, n := range []int{1, 2, 128, 0} {
		begin = run(t, begin, n)
	}
	begin, why := flow.Compact(begin, 0)
	begin, no := flow.Work(begin, 1<<20)
	if n, found, over := flow.Low(begin); n != 0 || !found || why != api.OK || no != api.OK || over != api.OK {
		t.Errorf("low %d, %t, errors %d, %d and %d", n, found, why, no, over)
	}
	nodes = append(nodes, nodes[0])
	if why := flow.Check(hand(nodes...)); why != api.ErrState {
		t.Errorf("too many nodes: error %d", why)
	}
	in := hand(by(mapped(a, op(api.ExprNot, col(0)))))
	in.Nodes[1].Plan.Exprs[0].Kids[0] = in.Nodes[1].Plan.Exprs[0]
	if why := flow.Check(in); why != api.ErrState {
		t.Errorf("an expression in itself: error %d", why)
	}
	if _, why := flow.Run(in, 0); why != api.ErrState {
		t.Errorf("an expression in itself: error %d", why)
	}
}
