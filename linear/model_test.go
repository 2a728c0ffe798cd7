package linear_test

import (
	"fmt"
	"math/big"
	"reflect"
	"runtime"
	"slices"
	"testing"

	"freshet/api"
	"freshet/diff"
	"freshet/expr"
	"freshet/linear"
	"freshet/mean"
	"freshet/moment"
)

// chance is numbers that look like chance, the same ones each time.
type chance uint64

func (c *chance) below(n int) int {
	*c ^= *c << 13
	*c ^= *c >> 7
	*c ^= *c << 17
	return int(uint64(*c) >> 16 % uint64(n))
}

// pick is one of several.
func pick[T any](c *chance, l ...T) T {
	return l[c.below(len(l))]
}

// tally is what is produced, with sums of any size, and when that failed.
type tally struct {
	made   map[string]*big.Int
	by     map[string]api.Update
	failed []api.Time
}

func (t *tally) add(u api.Update, n *big.Int) {
	k := fmt.Sprintf("%#v %#v %v", slices.Clone(u.Key), slices.Clone(u.Row), u.Time)
	if t.made == nil {
		t.made, t.by = map[string]*big.Int{}, map[string]api.Update{}
	}
	if t.made[k] == nil {
		t.made[k] = new(big.Int)
		t.by[k] = u
	}
	t.made[k].Add(t.made[k], n)
}

func (t *tally) fail(at api.Time) {
	t.failed = append(t.failed, at)
}

func (t *tally) outcome() outcome {
	var o outcome
	for k, n := range t.made {
		u := t.by[k]
		if !n.IsInt64() {
			t.fail(u.Time)
		} else if n.Sign() != 0 {
			u.Diff = n.Int64()
			o.l = append(o.l, u)
		}
	}
	slices.SortFunc(o.l, diff.Compare)
	if len(t.failed) > 0 {
		o.at, o.why = slices.MinFunc(t.failed, moment.Compare), api.ErrOver
	}
	return o
}

// strict is an outcome of which nothing is produced if it failed.
func strict(o outcome) outcome {
	if o.why != api.OK {
		return no(o.why)
	}
	return o
}

// done is what an operator produces, as it is written down.
func done(p api.Plan, l []api.Update) outcome {
	var t tally
	for _, u := range l {
		n := big.NewInt(u.Diff)
		u.Key = nil
		var values []api.Value
		fails, keep := false, true
		for _, e := range p.Exprs {
			v, why := expr.Eval(e, u.Row)
			fails = fails || why != api.OK
			keep = keep && !v.IsText && v.N != 0
			values = append(values, v)
		}
		fails = fails || len(p.Exprs) > maxCols
		switch p.Kind {
		case api.PlanMap:
			u.Row = values
		case api.PlanFilter:
			if !keep {
				n = new(big.Int)
			}
		case api.PlanNegate:
			n = new(big.Int).Neg(n)
			fails = !n.IsInt64()
		case api.PlanConcat:
			fails = false
		}
		if fails {
			t.fail(u.Time)
		} else {
			t.add(u, n)
		}
	}
	return t.outcome()
}

func entered(loop int, l []api.Update) outcome {
	var t tally
	for _, u := range l {
		t.add(u, big.NewInt(u.Diff))
		if u.Diff == least || u.Time.Loop[loop] == maxNumber {
			t.fail(u.Time)
			continue
		}
		u.Time.Loop[loop]++
		t.add(u, big.NewInt(-u.Diff))
	}
	return t.outcome()
}

// moved is updates whose times are changed, as far as they are kept.
func moved(l []api.Update, change func(*api.Time) bool) outcome {
	var t tally
	for _, u := range l {
		if change(&u.Time) {
			t.add(u, big.NewInt(u.Diff))
		}
	}
	return t.outcome()
}

func arranged(cols []int, l []api.Update) outcome {
	var t tally
	for _, u := range l {
		u.Key = nil
		for _, c := range cols {
			if c >= len(u.Row) {
				return no(api.ErrRange)
			}
			u.Key = append(u.Key, u.Row[c])
		}
		t.add(u, big.NewInt(u.Diff))
	}
	return t.outcome()
}

// anyUpdates is a few updates of few rows and times, so that some of them meet; some fail.
func anyUpdates(c *chance, diffs ...int64) []api.Update {
	var l []api.Update
	for range c.below(12) {
		t := at(uint64(c.below(2)), pick(c, uint64(0), 0, 1, 2, 15, 16, 17, maxNumber), uint64(c.below(3)))
		u := up(t, pick(c, diffs...))
		u.Key = pick(c, nil, row(), row(1), row("k"))
		u.Row = pick(c, row(0, 1), row(1, 0), row(1, "a"), row(2, 3), row(2, 3), row(greatest, 1), row(3))
		l = append(l, u)
	}
	return l
}

func anyPlan(c *chance) api.Plan {
	var exprs []api.Expr
	for range c.below(4) {
		exprs = append(exprs, pick(c, col(0), col(0), col(1), con(7), con("t"), con(0), op(api.ExprAdd, col(0), con(1)), op(api.ExprNot, col(1)), op(api.ExprLess, col(0), con(2))))
	}
	if c.below(20) == 0 {
		exprs = slices.Repeat([]api.Expr{con(1)}, maxCols+c.below(2))
	}
	return api.Plan{Kind: pick(c, api.PlanMap, api.PlanFilter, api.PlanNegate, api.PlanConcat), Exprs: exprs}
}

// 11.1 to 11.3: what is answered is what is written down.
func TestModel(t *testing.T) {
	c := chance(5)
	for range 8000 {
		l := anyUpdates(&c, 1, 1, -1, 2, 0, greatest, 1<<62, -1<<62, least)
		p, loop, rounds := anyPlan(&c), c.below(maxLoops), 1+c.below(maxRounds)
		cols := pick(&c, nil, []int{0}, []int{0}, []int{0, 0}, []int{1, 0})
		name := show(l)
		want(t, fmt.Sprintf("the kind %d with %.200s for %s", p.Kind, fmt.Sprint(p.Exprs), name), of(linear.Do(p, l)), done(p, l))
		want(t, fmt.Sprintf("%d as keys of %s", cols, name), list(linear.Arrange(cols, l)), strict(arranged(cols, l)))
		want(t, fmt.Sprintf("entering the loop %d: %s", loop, name), of(linear.Enter(loop, rounds, l)), entered(loop, l))
		want(t, fmt.Sprintf("the next of %d rounds of the loop %d: %s", rounds, loop, name), list(linear.Next(loop, rounds, l)), strict(moved(l, func(t *api.Time) bool {
			t.Loop[loop]++
			return t.Loop[loop] <= uint64(rounds)
		})))
		want(t, fmt.Sprintf("leaving the loop %d: %s", loop, name), of(linear.Leave(loop, l)), moved(l, func(t *api.Time) bool {
			t.Loop[loop] = 0
			return true
		}))
		if t.Failed() {
			return
		}
	}
}

// operators is all that is linear, with a few arguments.
func operators(c *chance) map[string]func([]api.Update) ([]api.Update, api.Time, api.Errno) {
	p, loop, rounds := anyPlan(c), c.below(maxLoops), 1+c.below(maxRounds)
	return map[string]func([]api.Update) ([]api.Update, api.Time, api.Errno){
		"Do":    func(l []api.Update) ([]api.Update, api.Time, api.Errno) { return linear.Do(p, l) },
		"Enter": func(l []api.Update) ([]api.Update, api.Time, api.Errno) { return linear.Enter(loop, rounds, l) },
		"Leave": func(l []api.Update) ([]api.Update, api.Time, api.Errno) { return linear.Leave(loop, l) },
		"Arrange": func(l []api.Update) ([]api.Update, api.Time, api.Errno) {
			l, why := linear.Arrange([]int{0}, l)
			return l, api.Time{}, why
		},
		"Next": func(l []api.Update) ([]api.Update, api.Time, api.Errno) {
			l, why := linear.Next(loop, rounds, l)
			return l, api.Time{}, why
		},
	}
}

// 11.5: in parts, and in any order.
func TestParts(t *testing.T) {
	c := chance(6)
	for range 3000 {
		a, b := anyUpdates(&c, 1, -1, 2, 0, 5), anyUpdates(&c, 1, -1, 3, 0)
		for name, do := range operators(&c) {
			x, early, why := do(a)
			y, other, no := do(b)
			l, first, all := do(slices.Concat(b, a))
			want(t, name+" of "+show(a)+" and "+show(b), list(l, api.OK), list(diff.Consolidate(x, y)))
			// And it fails as the part that fails first.
			fails := failed(early)
			if why == api.OK || no != api.OK && moment.Compare(other, early) < 0 {
				fails = outcome{at: other, why: no}
			}
			want(t, name+" fails", outcome{at: first, why: all}, fails)
		}
	}
}

// 11.6: the contents at a time are what the plan comes to for the contents at this time.
func TestAsThePlan(t *testing.T) {
	c, source := chance(7), []api.Plan{{Kind: api.PlanSource}}
	schemas := [][]api.Type{{api.TypeInt, api.TypeInt}}
	plans := []api.Plan{
		negate, concat, more, mapped(), mapped(con("x"), op(api.ExprMul, col(0), col(1))), filter(col(0)), filter(op(api.ExprLess, col(0), col(1))),
	}
	for range 2000 {
		var l []api.Update
		for range c.below(12) {
			l = append(l, up(at(uint64(c.below(3)), uint64(c.below(3)), uint64(c.below(2))), int64(c.below(5)-2), c.below(3), c.below(3)))
		}
		for _, p := range plans {
			made, _, why := linear.Do(p, l)
			p.Kids = source
			for i := range 18 {
				when := at(uint64(i/6), uint64(i/2%3), uint64(i%2))
				there, _ := diff.At(l, when)
				result, no := mean.Of(p, [][]api.Count{there}, schemas)
				got, _ := diff.At(made, when)
				if !reflect.DeepEqual(slices.Clip(got), slices.Clip(result)) || why != api.OK || no != api.OK {
					t.Fatalf("the kind %d of %s at %d: %v, want %v; errors %d and %d", p.Kind, show(l), when, got, result, why, no)
				}
			}
		}
	}
}

// roomy is updates whose lists have marks behind their ends; equal rows are one and the same.
func roomy(l []api.Update) []api.Update {
	rows := map[string][]api.Value{}
	wide := func(r []api.Value) []api.Value {
		s := showRow(r)
		if rows[s] == nil {
			rows[s] = append(slices.Clone(r), row("mark", "mark")...)[:len(r)]
		}
		return rows[s]
	}
	var c []api.Update
	for _, u := range l {
		c = append(c, api.Update{Key: wide(u.Key), Row: wide(u.Row), Time: u.Time, Diff: u.Diff})
	}
	return append(c, up(at(99), 99, 99), up(at(99), 99, 99))[:len(l)]
}

// whole tells all of updates, also what is behind their ends.
func whole(l []api.Update) string {
	s := ""
	for _, u := range l[:cap(l)] {
		s += show(ups(u)) + showRow(u.Key[:cap(u.Key)]) + showRow(u.Row[:cap(u.Row)])
	}
	return s
}

// spoil changes all of updates, up to their capacities.
func spoil(l []api.Update) {
	l = l[:cap(l)]
	for i, u := range l {
		for _, r := range [][]api.Value{u.Key[:cap(u.Key)], u.Row[:cap(u.Row)]} {
			for j := range r {
				r[j] = api.Value{IsText: true, S: "spoilt"}
			}
		}
		l[i] = up(at(55), 55)
	}
}

// 11.4, P3, P4: updates and plans are as they were, and what is answered is new; nothing is left of a call.
func TestNewMemory(t *testing.T) {
	before := runtime.NumGoroutine()
	c := chance(8)
	for range 400 {
		l := roomy(anyUpdates(&c, 1, 2, -1, greatest))
		told := whole(l)
		for name, do := range operators(&c) {
			x, _, _ := do(l)
			y, _, _ := do(l)
			if whole(l) != told {
				t.Fatalf("%s of %s: the updates were changed", name, show(l))
			}
			for i := range x {
				rest := whole(x[i+1:])
				spoil(x[i : i+1 : i+1])
				if whole(x[i+1:]) != rest {
					t.Errorf("%s of %s: the update %d shares memory with another one", name, show(l), i)
				}
			}
			again := whole(y)
			spoil(x)
			if whole(y) != again || whole(l) != told {
				t.Errorf("%s of %s shares memory", name, show(l))
			}
		}
	}
	p := func() api.Plan {
		return mapped(col(1), op(api.ExprAdd, col(0), con(1)), con("x"))
	}
	given, cols := p(), []int{1, 0, 9}
	x, _, _ := linear.Do(given, ups(up(at(1), 1, 1, "a")))
	y, _ := linear.Arrange(cols[:2], ups(up(at(1), 1, 1, "a")))
	spoil(x)
	spoil(y)
	if !reflect.DeepEqual(given, p()) || !slices.Equal(cols, []int{1, 0, 9}) {
		t.Errorf("a plan, or columns, were changed: %v, %v", given, cols)
	}
	if n := runtime.NumGoroutine(); n > before {
		t.Errorf("%d goroutines are left", n-before)
	}
}

// P1: many updates are processed in no long time, also where each sum fails.
func TestMany(t *testing.T) {
	var l []api.Update
	for i := range 1 << 16 {
		l = append(l, up(at(uint64(i%5), uint64(i%7)), greatest, i%1000))
	}
	for name, do := range operators(new(chance)) {
		if made, _, why := do(l); why != api.ErrOver {
			t.Errorf("%s: %s, error %d", name, show(made), why)
		}
	}
	for i := range l {
		l[i].Diff = 1
	}
	made, _, why := linear.Do(more, l)
	if len(made) == 0 || why != api.OK {
		t.Errorf("%d updates, error %d", len(made), why)
	}
}
