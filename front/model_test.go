package front_test

import (
	"fmt"
	"math/big"
	"reflect"
	"runtime"
	"slices"
	"testing"

	"freshet/api"
	"freshet/diff"
	"freshet/flow"
	"freshet/front"
	"freshet/graph"
	"freshet/mean"
	"freshet/plan"
	"freshet/spine"
)

// chance is numbers that look like chance, the same ones each time.
type chance uint64

func (c *chance) below(n int) int {
	*c ^= *c << 13
	*c ^= *c >> 7
	*c ^= *c << 17
	return int(uint64(*c) >> 16 % uint64(n))
}

// pick is one of several.
func pick[T any](c *chance, l ...T) T {
	return l[c.below(len(l))]
}

// converged is whether the loops have converged at an epoch, as it is written down.
func converged(f api.Flow, epoch uint64) bool {
	for i, n := range f.Nodes {
		if n.Kind != api.NodeLeave {
			continue
		}
		l, why := spine.All(f.States[i].Left)
		if why != api.OK {
			return false
		}
		sums := map[string]*big.Int{}
		for _, u := range l {
			if u.Time.Epoch <= epoch {
				k := fmt.Sprintf("%#v %#v %v", u.Key, u.Row, u.Time.Loop)
				if sums[k] == nil {
					sums[k] = new(big.Int)
				}
				sums[k].Add(sums[k], big.NewInt(u.Diff))
			}
		}
		for _, n := range sums {
			if n.Sign() != 0 {
				return false
			}
		}
	}
	return true
}

// progress is how far a flow has come, as it is written down: epochs are few.
func progress(f api.Flow, closed uint64) (uint64, bool) {
	end, since := closed, uint64(0)
	for i, s := range f.States {
		for _, u := range slices.Concat(s.Waits[0], s.Waits[1]) {
			end = min(end, u.Time.Epoch)
		}
		if l := s.Left.Since; f.Nodes[i].Kind == api.NodeLeave && len(l) > 0 {
			since = max(since, l[0].Epoch)
		}
	}
	if f.Failed {
		end = min(end, f.Fail)
	}
	for e := since; e < end; e++ {
		if !converged(f, e) {
			return e, true
		}
	}
	return end, false
}

// anySpine is a spine of few rows and times, compacted now and then.
func anySpine(t *testing.T, c *chance, diffs ...int64) api.Spine {
	s := api.Spine{}
	for range c.below(4) {
		var l []api.Update
		for range 1 + c.below(4) {
			u := up(at(uint64(c.below(6)), uint64(c.below(2))), pick(c, diffs...), c.below(2))
			l = append(l, u)
			if c.below(2) == 0 {
				// What comes goes again, mostly.
				u.Time.Epoch += uint64(c.below(3))
				n, _ := diff.Times(u.Diff, -1)
				u.Diff = n
				l = append(l, u)
			}
		}
		if next, why := spine.Insert(s, l); why == api.OK {
			s = next
		}
		if c.below(3) == 0 {
			s, _ = spine.Compact(s, pick(c, []api.Time{at(uint64(c.below(4)))}, []api.Time{at(1, 1), at(3)}))
		}
	}
	return s
}

// 16.1, 16.2: flows made by hand, held against what is written down.
func TestDoneModel(t *testing.T) {
	c := chance(21)
	fails, ends := 0, 0
	for range 1500 {
		diffs := [][]int64{{1, 1, 2, -1}, {1, -1, 1 << 62, -1 << 62, greatest, least}}[c.below(2)]
		f := leaves()
		for i := range f.States {
			f.States[i].Left = anySpine(t, &c, diffs...)
			if c.below(5) == 0 {
				f.States[i].Waits[0] = ups(up(at(uint64(3+c.below(5)), 1), 1, 1))
			}
		}
		if c.below(5) == 0 {
			f = failing(f, uint64(c.below(9)))
		}
		for e := range uint64(9) {
			wantEnded(t, "a flow", f, e, converged(f, e))
			if converged(f, e) {
				ends++
			}
			end, failed := progress(f, e)
			if failed {
				fails++
				wantDone(t, "a flow", f, e, end, end)
			} else {
				wantDone(t, "a flow", f, e, end)
			}
			wantPeek(t, f, 8, e)
			wantPeek(t, f, e, 5)
		}
		if t.Failed() {
			t.Fatalf("the flow is %+v", f)
		}
	}
	if fails < 1000 || ends < 1000 {
		t.Errorf("%d failures, %d ends", fails, ends)
	}
}

// wantPeek holds Peek and Change against what is written down.
func wantPeek(t *testing.T, f api.Flow, closed, epoch uint64) {
	t.Helper()
	end, failed := progress(f, closed)
	fail := f.Fail
	if failed {
		fail = end
	}
	since := f.States[0].Left.Since
	no, past := api.OK, false
	switch {
	case (f.Failed || failed) && epoch >= fail:
		no = api.ErrFailed
	case epoch >= end:
		no = api.ErrEarly
	case len(since) > 0 && epoch < since[0].Epoch:
		no = api.ErrPast
	case len(since) > 0 && epoch > 0 && epoch <= since[0].Epoch:
		past = true
	}
	all, why := spine.All(f.States[0].Left)
	var now, before []api.Count
	over := why
	if no == api.OK {
		now, no = diff.At(all, at(epoch))
		if why != api.OK {
			no = why
		}
	}
	if no != api.OK {
		now = nil
	}
	wantCounts(t, "a flow", f, front.Peek, closed, epoch, no, now...)
	if no == api.OK && past {
		no = api.ErrPast
	}
	if no == api.OK && epoch > 0 {
		before, over = diff.At(all, at(epoch-1))
		for i, c := range before {
			n := new(big.Int).Neg(big.NewInt(c.N))
			if !n.IsInt64() {
				over = api.ErrOver
			}
			before[i].N = -c.N
		}
		no = over
		if no == api.OK {
			now, no = diff.Merge(before, now)
		}
	}
	if no != api.OK {
		now = nil
	}
	wantCounts(t, "a flow", f, front.Change, closed, epoch, no, now...)
}

// anyPlan is a plan of sources of a number each, within so many loops, that has a schema.
func anyPlan(c *chance, depth, loops int) api.Plan {
	if depth == 1 || c.below(9) == 0 {
		if n := c.below(loops + 1); n < loops {
			return variable(n)
		}
		return source(c.below(2))
	}
	sub := func() api.Plan { return anyPlan(c, depth-1, loops) }
	one := func() []api.Plan { return []api.Plan{sub()} }
	col := []api.Expr{{Op: api.ExprCol}}
	less := api.Expr{Op: api.ExprLess, Kids: []api.Expr{{Op: api.ExprCol}, {Op: api.ExprConst, Const: api.Value{N: 4}}}}
	next := api.Expr{Op: api.ExprAdd, Kids: []api.Expr{{Op: api.ExprCol}, {Op: api.ExprConst, Const: api.Value{N: 1}}}}
	switch k := c.below(10); {
	case k == 0:
		return negate(sub())
	case k == 1:
		return api.Plan{Kind: api.PlanFilter, Kids: one(), Exprs: []api.Expr{less}}
	case k == 2:
		return api.Plan{Kind: api.PlanMap, Kids: one(), Exprs: []api.Expr{next}}
	case k == 3:
		return concat(sub(), sub())
	case k == 4:
		j := api.Plan{Kind: api.PlanJoin, Kids: []api.Plan{sub(), sub()}, Cols: []int{0}, With: []int{0}}
		return api.Plan{Kind: api.PlanMap, Kids: []api.Plan{j}, Exprs: col}
	case k == 5:
		return api.Plan{Kind: api.PlanReduce, Kids: one(), Agg: pick(c, api.AggTop, api.AggCount), N: 0}
	case k == 6 || loops == 2:
		return api.Plan{Kind: api.PlanDistinct, Kids: one()}
	}
	return iterate(1+c.below(6), sub(), anyPlan(c, depth-1, loops+1))
}

// right has the greatest two rows where the greatest none were asked for.
func right(p api.Plan) api.Plan {
	if p.Agg == api.AggTop {
		p.N = 2
	}
	p.Kids = slices.Clone(p.Kids)
	for i, k := range p.Kids {
		p.Kids[i] = right(k)
	}
	return p
}

// query is a plan by chance, its flow, and what was pushed.
type query struct {
	plan api.Plan
	flow api.Flow
	all  [2][]api.Update
}

var types = [][]api.Type{{api.TypeInt}, {api.TypeInt}}

func anyQuery(t *testing.T, c *chance) query {
	t.Helper()
	p := right(anyPlan(c, 2+c.below(5), 0))
	f, why := flow.New(p, types)
	if why != api.OK {
		t.Fatalf("a flow of %+v: error %d", p, why)
	}
	return query{plan: p, flow: f}
}

// push pushes a few updates of epochs from one on.
func (q *query) push(t *testing.T, c *chance, from int) {
	t.Helper()
	for i := range q.all {
		var l []api.Update
		for range c.below(4) {
			l = append(l, up(at(uint64(from+c.below(3))), pick(c, int64(1), 1, 2, -1), c.below(4)))
		}
		f, why := flow.Push(q.flow, i, l)
		if why != api.OK {
			t.Fatalf("pushing: error %d", why)
		}
		q.flow, q.all[i] = f, append(q.all[i], l...)
	}
}

// want is what the plan comes to at an epoch.
func (q *query) want(epoch uint64) ([]api.Count, api.Errno) {
	var given [][]api.Count
	for _, l := range q.all {
		there, _ := diff.At(l, at(epoch))
		given = append(given, there)
	}
	return mean.Of(q.plan, given, types)
}

// 16.5, P5, P10: after no more sweeps than the bound, and one, nothing waits; then all epochs that are closed are committed, up to the first one at which a loop does not come to an end, and their results are those of the plan.
func TestSettled(t *testing.T) {
	c := chance(22)
	open, answers := 0, 0
	for range 1500 {
		q := anyQuery(t, &c)
		for from := range 3 {
			q.push(t, &c, from*2)
			if c.below(2) == 0 {
				f, n, why := front.Settle(q.flow)
				if w, _ := flow.Waits(f); len(w) > 0 || n > graph.Bound(f.Nodes)+1 || why != api.OK {
					t.Fatalf("%+v: waiting at %d after %d sweeps, error %d", q.plan, w, n, why)
				}
				q.flow = f
			}
		}
		f := settle(t, q.flow)
		if w, _ := flow.Waits(f); len(w) > 0 {
			t.Fatalf("%+v: waiting at %d", q.plan, w)
		}
		if f.Failed {
			continue // a number did not fit
		}
		const closed = 9
		g, end, why := front.Done(f, closed)
		if why != api.OK || g.Failed != (end < closed) {
			t.Fatalf("%+v: progress %d, failed %t, error %d", q.plan, end, g.Failed, why)
		}
		for e := range uint64(closed) {
			want, no := q.want(e)
			ok, _ := front.Ended(f, e)
			if ok != (no != api.ErrFix) || no != api.OK && no != api.ErrFix || e < end && no != api.OK || e == end && no == api.OK {
				t.Fatalf("%+v at %d: ended %t, progress %d, error %d", q.plan, e, ok, end, no)
			}
			if e >= end {
				open++
				wantCounts(t, "a loop", f, front.Peek, closed, e, api.ErrFailed)
				wantCounts(t, "a loop", f, front.Change, closed, e, api.ErrFailed)
				continue
			}
			answers += len(want)
			wantCounts(t, "a query", f, front.Peek, closed, e, api.OK, want...)
			change, _ := front.Change(f, closed, e)
			var before []api.Count
			if e > 0 {
				before, _ = q.want(e - 1)
			}
			sum, _ := diff.Merge(before, change)
			if mean.Check(change) != api.OK || show(sum) != show(want) {
				t.Fatalf("%+v at %d: the change is %s, from %s to %s", q.plan, e, show(change), show(before), show(want))
			}
		}
		if t.Failed() {
			t.Fatalf("%+v of %v", q.plan, q.all)
		}
	}
	if open < 500 || answers < 5000 {
		t.Errorf("%d epochs were not answered, %d rows were", open, answers)
	}
}

// 16.6, P6, P9: what was committed stays so, and its result stays the same, whatever is run, pushed, worked and compacted.
func TestStays(t *testing.T) {
	c := chance(23)
	kept, loops := 0, 0
	for range 600 {
		q := anyQuery(t, &c)
		closed, end, since := uint64(0), uint64(0), uint64(0)
		told := map[uint64]string{}
		for range 40 {
			f := q.flow
			switch c.below(8) {
			case 0:
				q.push(t, &c, int(closed))
				f = q.flow
			case 1:
				closed = min(closed+1, 9)
			case 2:
				f, _ = flow.Work(f, c.below(9))
			case 3:
				if e := uint64(c.below(9)); c.below(3) == 0 && e <= end {
					if g, why := flow.Compact(f, e); why == api.OK {
						f, since = g, max(since, e)
					} else if e >= since {
						t.Fatalf("%+v: compacting to %d of %d: error %d", q.plan, e, end, why)
					}
				}
			case 4:
				f, _, _ = front.Sweep(f)
			default:
				f, _ = flow.Run(f, c.below(len(f.Nodes)))
			}
			q.flow = f
			_, n, why := front.Done(f, closed)
			if n < end || n > closed || why != api.OK {
				t.Fatalf("%+v: progress %d after %d, closed %d, error %d", q.plan, n, end, closed, why)
			}
			end = n
			for e := range end {
				l, why := front.Peek(f, closed, e)
				if e < since {
					if why != api.ErrPast {
						t.Fatalf("%+v at %d: %s, error %d", q.plan, e, show(l), why)
					}
					continue
				}
				if s, found := told[e]; found && s != show(l) || why != api.OK {
					t.Fatalf("%+v at %d: %s after %s, error %d", q.plan, e, show(l), s, why)
				}
				told[e] = show(l)
				kept++
				if plan.Loops(q.plan) > 0 {
					loops++
				}
			}
		}
	}
	if kept < 5000 || loops < 1000 {
		t.Errorf("only %d results were kept, %d of loops", kept, loops)
	}
}

// roomy is a copy of a value of which each list has two zero elements behind its end.
func roomy(v reflect.Value) {
	switch v.Kind() {
	case reflect.Slice:
		c := reflect.MakeSlice(v.Type(), v.Len(), v.Len()+2)
		reflect.Copy(c, v)
		for i := range c.Len() {
			roomy(c.Index(i))
		}
		v.Set(c)
	case reflect.Struct:
		for i := range v.NumField() {
			roomy(v.Field(i))
		}
	case reflect.Array:
		for i := range v.Len() {
			roomy(v.Index(i))
		}
	}
}

// walk finds all lists in a value, of any depth, each with what is behind its end.
func walk(v reflect.Value, found func(reflect.Value)) {
	switch v.Kind() {
	case reflect.Slice:
		v = v.Slice3(0, v.Cap(), v.Cap())
		found(v)
		for i := range v.Len() {
			walk(v.Index(i), found)
		}
	case reflect.Struct:
		for i := range v.NumField() {
			walk(v.Field(i), found)
		}
	case reflect.Array:
		for i := range v.Len() {
			walk(v.Index(i), found)
		}
	}
}

// whole tells all of a flow, also what is behind the ends of its lists.
func whole(f api.Flow) string {
	s := fmt.Sprintf("%+v", f)
	walk(reflect.ValueOf(f), func(v reflect.Value) { s += fmt.Sprintf("%+v", v.Interface()) })
	return s
}

// memory is the places of all lists that were seen.
type memory map[any]bool

// add takes up values, and reports whether all lists in them are new.
func (m memory) add(l ...any) bool {
	fresh := true
	for _, x := range l {
		walk(reflect.ValueOf(x), func(v reflect.Value) {
			for i := range v.Len() {
				p := v.Index(i).Addr().Interface()
				fresh = fresh && !m[p]
				m[p] = true
			}
		})
	}
	return fresh
}

// 16.4, P3, P4: flows are as they were, also behind the ends of their lists, and what is answered is new, and the same each time; nothing is left of a call.
func TestNewMemory(t *testing.T) {
	before := runtime.NumGoroutine()
	c := chance(24)
	flows := []api.Flow{settle(t, start(t, negate(source(0)), twice()...)), kept(leaves(), 1, over(t, 3)), failing(leaves(), 4), wrong()["none"], wrong()["a spine"]}
	for range 12 {
		q := anyQuery(t, &c)
		q.push(t, &c, 0)
		for range c.below(4) {
			q.flow, _, _ = front.Sweep(q.flow)
		}
		q.push(t, &c, 1)
		flows = append(flows, q.flow, settle(t, q.flow))
	}
	for i, f := range flows {
		roomy(reflect.ValueOf(&f).Elem())
		told := whole(f)
		m := memory{}
		m.add(f)
		call := func() []any {
			var l []any
			for e := range uint64(5) {
				ok, _ := front.Ended(f, e)
				g, n, _ := front.Done(f, e)
				a, why := front.Peek(f, 9, e)
				b, no := front.Change(f, 9, e)
				l = append(l, ok, g, n, a, why, b, no)
			}
			a, n, _ := front.Sweep(f)
			b, k, _ := front.Settle(f)
			return append(l, a, n, b, k)
		}
		a, b := call(), call()
		if !m.add(a...) || !m.add(b...) {
			t.Errorf("flow %d: memory is shared", i)
		}
		if whole(f) != told {
			t.Errorf("flow %d was changed", i)
		}
		if x, y := fmt.Sprintf("%+v", a), fmt.Sprintf("%+v", b); x != y {
			t.Errorf("flow %d: not the same answers:\n%s\n%s", i, x, y)
		}
	}
	if n := runtime.NumGoroutine(); n > before {
		t.Errorf("%d goroutines are left", n-before)
	}
}

// P1: many epochs, and many rows, in no long time.
func TestMany(t *testing.T) {
	var l []api.Update
	for i := range 1 << 13 {
		l = append(l, up(at(uint64(i)), 1, i), up(at(uint64(i+1)), -1, i))
	}
	f := settle(t, start(t, iterate(2, source(0), variable(0)), l...))
	wantDone(t, "many epochs", f, 1<<20, 1<<20)
	g := f
	for i, n := range g.Nodes {
		if n.Kind == api.NodeLeave {
			g = kept(g, i, insert(t, nil, l, ups(up(at(1<<13), 1, 1))))
		}
	}
	wantDone(t, "many epochs", g, 1<<20, 0, 0)
	for _, e := range []uint64{0, 7, 1<<13 - 1} {
		wantCounts(t, "many epochs", f, front.Peek, 1<<20, e, api.OK, count(1, int(e)))
		wantEnded(t, "many epochs", g, e, false)
	}
	wantCounts(t, "many epochs", f, front.Change, 1<<20, 7, api.OK, count(-1, 6), count(1, 7))
}
