package mean_test

import (
	"fmt"
	"maps"
	"math/big"
	"reflect"
	"runtime"
	"slices"
	"testing"

	"freshet/api"
	"freshet/expr"
	"freshet/mean"
	"freshet/plan"
	"freshet/value"
)

// bag is a collection by the look of its rows, with numbers of any size.
type bag map[string]*item

type item struct {
	row []api.Value
	n   *big.Int
}

func (b bag) add(row []api.Value, n *big.Int) {
	k := fmt.Sprintf("%#v", row)
	if b[k] == nil {
		b[k] = &item{slices.Clone(row), new(big.Int)}
	}
	b[k].n.Add(b[k].n, n)
}

// put adds what is not more than a product of two numbers, which must fit.
func (b bag) put(row []api.Value, n *big.Int) bool {
	b.add(row, n)
	return n.IsInt64()
}

func (b bag) counts() []api.Count {
	var l []api.Count
	for _, x := range b {
		l = append(l, api.Count{Row: x.row, N: x.n.Int64()})
	}
	slices.SortFunc(l, func(x, y api.Count) int { return value.Rows(x.Row, y.Row) })
	return l
}

// settled is a bag without what is there 0 times, and whether all fits.
func (b bag) settled() (bag, bool) {
	fits := true
	for _, x := range b {
		fits = fits && x.n.IsInt64()
	}
	maps.DeleteFunc(b, func(_ string, x *item) bool { return x.n.Sign() == 0 })
	return b, fits
}

func bagOf(l []api.Count) bag {
	b := bag{}
	for _, c := range l {
		b.add(c.Row, big.NewInt(c.N))
	}
	return b
}

// model is the result of a plan as it is written down; the loops around it are given with the outermost first.
func model(p api.Plan, sources, loops []bag) (bag, api.Errno) {
	switch p.Kind {
	case api.PlanSource:
		return sources[p.N], api.OK
	case api.PlanVar:
		return loops[len(loops)-1-p.N], api.OK
	case api.PlanIterate:
		return rounds(p, sources, loops)
	}
	var kids []bag
	for _, k := range p.Kids {
		b, why := model(k, sources, loops)
		if why != api.OK {
			return nil, why
		}
		kids = append(kids, b)
	}
	made, fits := bag{}, true
	switch p.Kind {
	case api.PlanMap, api.PlanFilter:
		for _, x := range kids[0] {
			row, ok := evaluated(p.Exprs, x.row)
			fits = fits && ok
			if p.Kind == api.PlanMap {
				made.add(row, x.n)
			} else if ok && row[0].N != 0 {
				made.add(x.row, x.n)
			}
		}
	case api.PlanConcat:
		for _, b := range kids {
			for _, x := range b {
				made.add(x.row, x.n)
			}
		}
	case api.PlanNegate:
		for _, x := range kids[0] {
			made.add(x.row, new(big.Int).Neg(x.n))
		}
	case api.PlanDistinct:
		for _, x := range kids[0] {
			if x.n.Sign() > 0 {
				made.add(x.row, big.NewInt(1))
			}
		}
	case api.PlanJoin:
		for _, x := range kids[0] {
			for _, y := range kids[1] {
				if len(p.Cols) > maxCols || slices.Equal(at(x.row, p.Cols), at(y.row, p.With)) {
					fits = made.put(slices.Concat(x.row, y.row), new(big.Int).Mul(x.n, y.n)) && fits
				}
			}
		}
	case api.PlanReduce:
		fits = grouped(p, kids[0], made)
	}
	made, ok := made.settled()
	if !fits || !ok {
		return nil, api.ErrOver
	}
	return made, api.OK
}

func rounds(p api.Plan, sources, loops []bag) (bag, api.Errno) {
	x, why := model(p.Kids[0], sources, loops)
	for i := range p.Rounds {
		if why != api.OK {
			return nil, why
		}
		var next bag
		next, why = model(p.Kids[1], sources, append(slices.Clone(loops), x))
		if why == api.OK && i == p.Rounds-1 && !equal(x.counts(), next.counts()) {
			return nil, api.ErrFix
		}
		x = next
	}
	return x, why
}

func evaluated(exprs []api.Expr, r []api.Value) ([]api.Value, bool) {
	var l []api.Value
	for _, e := range exprs {
		v, why := expr.Eval(e, r)
		if why != api.OK {
			return nil, false
		}
		l = append(l, v)
	}
	return l, true
}

func at(r []api.Value, cols []int) []api.Value {
	var l []api.Value
	for _, i := range cols {
		l = append(l, r[i])
	}
	return l
}

// grouped adds the results of all groups to a bag; each group is found by all rows whose values are those of one.
func grouped(p api.Plan, from, made bag) bool {
	fits := true
	done := map[string]bool{}
	for _, x := range from.counts() {
		key := at(x.Row, p.Cols)
		if len(key) > maxCols {
			key = nil
		}
		if k := fmt.Sprintf("%#v", key); done[k] {
			continue
		} else {
			done[k] = true
		}
		var group []api.Count
		for _, y := range from.counts() {
			if len(p.Cols) > maxCols || slices.Equal(at(y.Row, p.Cols), key) {
				group = append(group, y)
			}
		}
		fits = told(p, key, group, made) && fits
	}
	return fits
}

func told(p api.Plan, key []api.Value, group []api.Count, made bag) bool {
	one, sum, fits := big.NewInt(1), new(big.Int), true
	for _, c := range group {
		n := big.NewInt(c.N)
		if p.Agg == api.AggSum {
			n.Mul(n, big.NewInt(c.Row[p.N].N))
		}
		fits = fits && n.IsInt64()
		sum.Add(sum, n)
	}
	if p.Agg == api.AggCount || p.Agg == api.AggSum {
		made.add(slices.Concat(key, []api.Value{{N: sum.Int64()}}), one)
		return fits && sum.IsInt64()
	}
	there := slices.DeleteFunc(group, func(c api.Count) bool { return c.N < 0 })
	if p.Agg == api.AggTop {
		for i, c := range there {
			if i+p.N >= len(there) {
				made.add(c.Row, one)
			}
		}
		return true
	}
	slices.SortFunc(there, func(a, b api.Count) int { return value.Compare(a.Row[p.N], b.Row[p.N]) })
	if len(there) == 0 {
		return true
	}
	best := there[0]
	if p.Agg == api.AggMax {
		best = there[len(there)-1]
	}
	made.add(slices.Concat(key, best.Row[p.N:p.N+1]), one)
	return true
}

// chance is numbers that look like chance.
type chance uint64

func (c *chance) below(n int) int {
	*c ^= *c << 13
	*c ^= *c >> 7
	*c ^= *c << 17
	return int(uint64(*c) >> 11 % uint64(n))
}

// often is how often a row is there; in wild collections numbers may be great.
func (c *chance) often(wild bool) int64 {
	if wild && c.below(3) == 0 {
		return []int64{greatest, least, 1 << 62, -1 << 62, 1 << 31, greatest - 1}[c.below(6)]
	}
	return []int64{1, 1, 2, 3, -1, -2}[c.below(6)]
}

// collection is rows of a schema, of few values so that many of them are the same.
func (c *chance) collection(schema []api.Type, wild bool) []api.Count {
	b := bag{}
	for range c.below(6) {
		var r []api.Value
		for _, x := range schema {
			v := row([]any{0, 1, 2, 3, -1}[c.below(5)])[0]
			if wild && c.below(8) == 0 {
				v = row([]any{greatest, least}[c.below(2)])[0]
			}
			if x == text {
				v = row([]any{"", "a", "b"}[c.below(3)])[0]
			}
			r = append(r, v)
		}
		if n := c.often(wild); b[fmt.Sprintf("%#v", r)] == nil {
			b.add(r, big.NewInt(n))
		}
	}
	return b.counts()
}

func (c *chance) expr() api.Expr {
	l := []api.Expr{
		col(0), col(1), col(0), col(1), col(2), con(1), con("a"),
		op(api.ExprAdd, col(0), con(1)), op(api.ExprLess, col(0), con(1)), op(api.ExprEqual, col(1), con("a")), op(api.ExprNot, col(0)), op(api.ExprNeg, col(0)),
	}
	return l[c.below(len(l))]
}

func (c *chance) cols() []int {
	var l []int
	for range c.below(3) {
		l = append(l, c.below(2))
	}
	for c.below(25) == 0 {
		l = append(l, make([]int, 6)...)
	}
	return l
}

// plan is a plan of at most so many around each other, and within so many loops.
func (c *chance) plan(depth, loops int) api.Plan {
	kinds := []api.PlanKind{
		api.PlanSource, api.PlanVar, api.PlanMap, api.PlanFilter, api.PlanConcat, api.PlanNegate, api.PlanJoin, api.PlanReduce, api.PlanReduce, api.PlanDistinct, api.PlanIterate, api.PlanIterate,
	}
	kind := kinds[c.below(len(kinds))]
	switch {
	case depth == 1:
		kind = kinds[c.below(2)]
	case kind == api.PlanVar && depth > 2:
		kind = api.PlanDistinct
	case kind == api.PlanIterate && loops == 2:
		kind = api.PlanMap
	}
	sub := func() api.Plan { return c.plan(depth-1, loops) }
	switch kind {
	case api.PlanVar:
		if loops > 0 {
			return variable(c.below(loops))
		}
	case api.PlanMap:
		return mapped(sub(), slices.Repeat([]api.Expr{c.expr(), c.expr()}, 1)[c.below(2):]...)
	case api.PlanFilter:
		return filter(sub(), c.expr())
	case api.PlanConcat:
		x := sub()
		return concat([]api.Plan{x, x, negate(x), distinct(x), sub()}[c.below(4):]...)
	case api.PlanNegate:
		return negate(sub())
	case api.PlanJoin:
		cols := c.cols()
		return join(sub(), sub(), cols, cols)
	case api.PlanReduce:
		agg := api.AggKind(1 + c.below(5))
		p := reduce(sub(), agg, c.below(3), c.cols()...)
		if agg == api.AggCount {
			p.N = 0
		}
		return p
	case api.PlanDistinct:
		return distinct(sub())
	case api.PlanIterate:
		return iterate(1+c.below(6), sub(), c.plan(depth-1, loops+1))
	}
	return source(c.below(3))
}

// 10.2, 10.4, 10.5, P3: plans by chance, held against the model and against the laws.
func TestModel(t *testing.T) {
	c := chance(88172645463325252)
	schemas := [][]api.Type{{number, text}, {number}, {text, number}}
	found, kinds := map[api.Errno]int{}, map[api.PlanKind]int{}
	for range 120000 {
		p := c.plan(1+c.below(6), 0)
		schema, why := plan.Infer(p, schemas)
		if why != api.OK {
			continue
		}
		wild := c.below(3) == 0
		var sources [][]api.Count
		var bags []bag
		for _, x := range schemas {
			sources = append(sources, c.collection(x, wild))
			bags = append(bags, bagOf(sources[len(sources)-1]))
		}
		b, no := model(p, bags, nil)
		want := b.counts()
		wantOf(t, p, sources, schemas, want, no)
		found[no]++
		if no != api.OK {
			continue
		}
		if len(want) > 0 {
			kinds[p.Kind]++
		}
		if why := mean.Have([][]api.Count{want}, [][]api.Type{schema}); why != api.OK {
			t.Errorf("%+v: %s is none of %d: error %d", p, show(want), schema, why)
		}
		laws(t, want, schema)
	}
	for _, why := range []api.Errno{api.ErrOver, api.ErrFix} {
		if found[why] < 400 {
			t.Errorf("error %d was found %d times", why, found[why])
		}
	}
	for k := api.PlanSource; k < api.PlanCount; k++ {
		if k != api.PlanVar && kinds[k] < 400 {
			t.Errorf("a plan of the kind %d was found %d times with rows", k, kinds[k])
		}
	}
}

// laws holds a collection against itself.
func laws(t *testing.T, l []api.Count, schema []api.Type) {
	t.Helper()
	p, sources, schemas := source(0), [][]api.Count{l}, [][]api.Type{schema}
	once := bagOf(l).distinct().counts()
	wantOf(t, distinct(p), sources, schemas, once, api.OK)
	wantOf(t, distinct(distinct(p)), sources, schemas, once, api.OK)
	if slices.ContainsFunc(l, func(c api.Count) bool { return c.N == least }) {
		wantOf(t, negate(p), sources, schemas, nil, api.ErrOver)
		return
	}
	wantOf(t, negate(negate(p)), sources, schemas, l, api.OK)
	wantOf(t, concat(p, negate(p)), sources, schemas, nil, api.OK)
}

func (b bag) distinct() bag {
	d := bag{}
	for _, x := range b {
		if x.n.Sign() > 0 {
			d.add(x.row, big.NewInt(1))
		}
	}
	return d
}

// whole is the sources and what stands behind their ends.
func whole(sources [][]api.Count) [][]api.Count {
	var l [][]api.Count
	for _, s := range sources {
		var all []api.Count
		for _, c := range s[:cap(s)] {
			all = append(all, api.Count{Row: slices.Clone(c.Row[:cap(c.Row)]), N: c.N})
		}
		l = append(l, all)
	}
	return l
}

// roomy is two sources with room behind their ends, and behind those of their rows.
func roomy() [][]api.Count {
	var l [][]api.Count
	for _, s := range [][]api.Count{counts(count(2, 1, 2), count(1, 2, 1), count(-1, 2, 2), count(1, 3, 3)), counts(count(1, 1, "a"), count(5, 2, "b"))} {
		for i, c := range s {
			s[i].Row = append(c.Row, row(77, "mark", 78)...)[:2]
		}
		l = append(l, append(s, count(99, "mark"))[:len(s)])
	}
	return l
}

// 10.3, P3, P4: plans and sources are as they were, also behind their ends, and what is answered is new.
func TestNewMemory(t *testing.T) {
	before := runtime.NumGoroutine()
	schemas := [][]api.Type{{number, number}, {number, text}}
	a, b := source(0), source(1)
	for _, made := range []func() api.Plan{
		func() api.Plan { return a },
		func() api.Plan { return concat(a, a) },
		func() api.Plan { return concat(a) },
		func() api.Plan { return negate(negate(a)) },
		func() api.Plan { return distinct(b) },
		func() api.Plan { return mapped(a, col(1), con("x"), col(1)) },
		func() api.Plan { return filter(b, col(0)) },
		func() api.Plan { return join(a, b, []int{0, 9}[:1], []int{0, 9}[:1]) },
		func() api.Plan { return reduce(a, api.AggCount, 0, []int{0, 9}[:1]...) },
		func() api.Plan { return reduce(a, api.AggSum, 1, 0, 1) },
		func() api.Plan { return reduce(b, api.AggMax, 1, 0) },
		func() api.Plan { return reduce(b, api.AggTop, 2) },
		func() api.Plan { return iterate(2, a, variable(0)) },
		func() api.Plan { return iterate(3, b, iterate(3, variable(0), distinct(variable(1)))) },
	} {
		p, sources := made(), roomy()
		l, why := mean.Of(p, sources, schemas)
		again, _ := mean.Of(p, sources, schemas)
		want := bagOf(l).counts()
		mean.Check(sources[0])
		mean.Have(sources, schemas)
		if why != api.OK || len(l) == 0 || !equal(l, want) || !equal(again, want) || !reflect.DeepEqual(p, made()) || !reflect.DeepEqual(whole(sources), whole(roomy())) {
			t.Errorf("Of %+v: %s and %s, error %d; behind it %+v and %v", made(), show(l), show(again), why, p, whole(sources))
		}
		for i := range l {
			rest := slices.Clone(l[i+1:])
			spoil(l[i].Row)
			if !equal(l[i+1:], bagOf(rest).counts()) || !equal(again, want) || !reflect.DeepEqual(whole(sources), whole(roomy())) {
				t.Errorf("Of %+v: the row %d shares memory", made(), i)
			}
		}
		for i := range l[:cap(l)] {
			l[:cap(l)][i] = count(55, "spoilt")
		}
		if !equal(again, want) || !reflect.DeepEqual(whole(sources), whole(roomy())) {
			t.Errorf("Of %+v shares memory", made())
		}
	}
	if n := runtime.NumGoroutine(); n > before {
		t.Errorf("%d goroutines are left", n-before)
	}
}

// spoil changes all of a row, up to its capacity.
func spoil(r []api.Value) {
	for i := range r[:cap(r)] {
		r[:cap(r)][i] = api.Value{IsText: true, S: "spoilt"}
	}
}
