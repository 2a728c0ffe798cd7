package plan_test

import (
	"fmt"
	"math"
	"slices"
	"testing"

	"freshet/api"
	"freshet/plan"
)

// The limits are written out, as they are themselves part of what is tested.
const (
	maxCols    = 8
	maxDepth   = 16
	maxLoops   = 2
	maxNodes   = 64
	maxRounds  = 16
	maxSources = 8
	maxTop     = 8
)

const (
	number = api.TypeInt
	text   = api.TypeText
)

func source(n int) api.Plan   { return api.Plan{Kind: api.PlanSource, N: n} }
func variable(n int) api.Plan { return api.Plan{Kind: api.PlanVar, N: n} }

func mapped(kid api.Plan, exprs ...api.Expr) api.Plan {
	return api.Plan{Kind: api.PlanMap, Kids: []api.Plan{kid}, Exprs: exprs}
}

func filter(kid api.Plan, exprs ...api.Expr) api.Plan {
	return api.Plan{Kind: api.PlanFilter, Kids: []api.Plan{kid}, Exprs: exprs}
}

func concat(kids ...api.Plan) api.Plan { return api.Plan{Kind: api.PlanConcat, Kids: kids} }
func negate(kid api.Plan) api.Plan     { return api.Plan{Kind: api.PlanNegate, Kids: []api.Plan{kid}} }
func distinct(kid api.Plan) api.Plan   { return api.Plan{Kind: api.PlanDistinct, Kids: []api.Plan{kid}} }

func join(a, b api.Plan, cols, with []int) api.Plan {
	return api.Plan{Kind: api.PlanJoin, Kids: []api.Plan{a, b}, Cols: cols, With: with}
}

func reduce(kid api.Plan, agg api.AggKind, n int, cols ...int) api.Plan {
	return api.Plan{Kind: api.PlanReduce, Kids: []api.Plan{kid}, Agg: agg, N: n, Cols: cols}
}

func iterate(rounds int, a, b api.Plan) api.Plan {
	return api.Plan{Kind: api.PlanIterate, Kids: []api.Plan{a, b}, Rounds: rounds}
}

// negates is a plan within so many others.
func negates(n int, p api.Plan) api.Plan {
	for range n {
		p = negate(p)
	}
	return p
}

func col(i int) api.Expr    { return api.Expr{Op: api.ExprCol, Col: i} }
func num(n int64) api.Expr  { return api.Expr{Op: api.ExprConst, Const: api.Value{N: n}} }
func str(s string) api.Expr { return api.Expr{Op: api.ExprConst, Const: api.Value{IsText: true, S: s}} }

func op(o api.ExprOp, kids ...api.Expr) api.Expr { return api.Expr{Op: o, Kids: kids} }

// nots is an expression within so many others.
func nots(n int, e api.Expr) api.Expr {
	for range n {
		e = op(api.ExprNot, e)
	}
	return e
}

// sums is an expression of 2 times n plus 1 expressions.
func sums(n int) api.Expr {
	if n == 0 {
		return num(1)
	}
	return op(api.ExprAdd, sums(n/2), sums(n-1-n/2))
}

// example is the schemas of the document's examples.
func example() [][]api.Type {
	return [][]api.Type{{number, text}, {number}}
}

// show is a plan as far as a line goes; what is deep within others is left out, as a plan may contain itself.
func show(p api.Plan) string {
	s := shown(p, 5)
	return s[:min(len(s), 400)]
}

func shown(p api.Plan, depth int) string {
	s := fmt.Sprint("kind ", p.Kind, " N ", p.N, " agg ", p.Agg, " rounds ", p.Rounds, " cols ", len(p.Cols), " with ", len(p.With), " exprs ", len(p.Exprs))
	for i, k := range p.Kids {
		if depth == 0 || i == 5 {
			return s + ", .."
		}
		s += ", (" + shown(k, depth-1) + ")"
	}
	return s
}

// wantNo holds what Check answers, and that the others answer accordingly, whatever the schemas are.
func wantNo(t *testing.T, p api.Plan, no api.Errno) {
	t.Helper()
	if why := plan.Check(p); why != no {
		t.Errorf("Check of %s: error %d, want %d", show(p), why, no)
	}
	if no == api.OK {
		return
	}
	if n := plan.Loops(p); n != 0 {
		t.Errorf("Loops of %s: %d", show(p), n)
	}
	for _, sources := range [][][]api.Type{nil, example(), make([][]api.Type, maxSources)} {
		wantSchema(t, p, sources, nil, no)
	}
}

func wantSchema(t *testing.T, p api.Plan, sources [][]api.Type, want []api.Type, no api.Errno) {
	t.Helper()
	if l, why := plan.Infer(p, sources); !slices.Equal(l, want) || why != no {
		t.Errorf("Infer of %s for %d: %d, error %d; want %d, error %d", show(p), sources, l, why, want, no)
	}
}

// formed is a plan of each kind, and of each aggregate, of which each has what its kind may have.
func formed() []api.Plan {
	s := source(0)
	return []api.Plan{
		source(3), variable(1), mapped(s, col(0), num(1)), filter(s, col(0)), concat(s), concat(s, s, s), negate(s), distinct(s),
		join(s, s, []int{0}, []int{0}), iterate(3, s, variable(0)),
		reduce(s, api.AggCount, 0, 0), reduce(s, api.AggSum, 1, 0), reduce(s, api.AggMin, 1, 0), reduce(s, api.AggMax, 1, 0), reduce(s, api.AggTop, 1, 0),
	}
}

// 9.1: each kind with all that it may have, right or not.
func TestCheck(t *testing.T) {
	s := source(0)
	for _, p := range formed() {
		wantNo(t, p, api.OK)
		wantNo(t, negate(p), api.OK)
	}
	for _, n := range []int{0, -1, maxSources, math.MinInt, math.MaxInt} {
		wantNo(t, source(n), api.OK)
		wantNo(t, variable(n), api.OK)
		for _, agg := range []api.AggKind{api.AggSum, api.AggMin, api.AggMax, api.AggTop} {
			wantNo(t, reduce(s, agg, n), api.OK)
		}
		wantNo(t, reduce(s, api.AggCount, 0, n, n), api.OK)
		wantNo(t, join(s, s, []int{n}, nil), api.OK)
		wantNo(t, join(s, s, nil, []int{n, n}), api.OK)
	}
	many := make([]int, 99)
	for _, p := range []api.Plan{
		mapped(s), mapped(s, slices.Repeat([]api.Expr{col(9)}, 99)...), filter(s, str("a")), concat(slices.Repeat([]api.Plan{s}, 20)...),
		join(s, s, nil, nil), join(s, s, many, many[1:]), reduce(s, api.AggTop, 0, many...),
		{Kind: api.PlanSource, Kids: []api.Plan{}, Exprs: []api.Expr{}, Cols: []int{}, With: []int{}},
	} {
		wantNo(t, p, api.OK)
	}
	for rounds := -20; rounds <= 40; rounds++ {
		no := api.ErrForm
		if rounds >= 1 && rounds <= maxRounds {
			no = api.OK
		}
		wantNo(t, iterate(rounds, s, s), no)
	}
	for _, rounds := range []int{math.MinInt, math.MaxInt, 1 << 32, 1<<32 + 1} {
		wantNo(t, iterate(rounds, s, s), api.ErrForm)
	}
}

// kids is how many Kids a kind has.
func kids(k api.PlanKind) (fewest, most int) {
	switch k {
	case api.PlanSource, api.PlanVar:
		return 0, 0
	case api.PlanJoin, api.PlanIterate:
		return 2, 2
	case api.PlanConcat:
		return 1, math.MaxInt
	}
	return 1, 1
}

// uses reports whether a plan's kind has a field.
func uses(p api.Plan, field string) bool {
	switch field {
	case "N":
		return p.Kind == api.PlanSource || p.Kind == api.PlanVar || p.Kind == api.PlanReduce && p.Agg != api.AggCount
	case "Exprs":
		return p.Kind == api.PlanMap || p.Kind == api.PlanFilter
	case "Cols":
		return p.Kind == api.PlanJoin || p.Kind == api.PlanReduce
	case "With":
		return p.Kind == api.PlanJoin
	case "Agg":
		return p.Kind == api.PlanReduce
	}
	return p.Kind == api.PlanIterate
}

// odd is plans with a field that their kind has not.
func odd() []api.Plan {
	var l []api.Plan
	add := func(p api.Plan, field string, change func(*api.Plan)) {
		if !uses(p, field) {
			change(&p)
			l = append(l, p)
		}
	}
	for _, p := range formed() {
		for _, n := range []int{1, -1, math.MaxInt, math.MinInt} {
			add(p, "N", func(p *api.Plan) { p.N = n })
			add(p, "Rounds", func(p *api.Plan) { p.Rounds = n })
			add(p, "Cols", func(p *api.Plan) { p.Cols = []int{n} })
			add(p, "With", func(p *api.Plan) { p.With = []int{0, n} })
		}
		add(p, "Cols", func(p *api.Plan) { p.Cols = []int{0} })
		add(p, "With", func(p *api.Plan) { p.With = []int{0} })
		for _, agg := range []api.AggKind{api.AggCount, api.AggTop, api.AggCountKinds, 255} {
			add(p, "Agg", func(p *api.Plan) { p.Agg = agg })
		}
		add(p, "Exprs", func(p *api.Plan) { p.Exprs = []api.Expr{num(1)} })
		add(p, "Exprs", func(p *api.Plan) { p.Exprs = []api.Expr{nots(99, num(1))} })
	}
	return l
}

// malformed is plans of which each is wrong in one way.
func malformed() []api.Plan {
	s := source(0)
	l := []api.Plan{
		filter(s), filter(s, num(1), num(1)), filter(s, num(1), num(1), num(1)),
		iterate(0, s, s), iterate(-1, s, s), iterate(maxRounds+1, s, s),
		concat(), {Kind: api.PlanSource, Rounds: 1},
	}
	for _, kind := range []api.PlanKind{api.PlanNone, api.PlanCount, 77, 255} {
		for n := range 4 {
			l = append(l, api.Plan{Kind: kind, Kids: slices.Repeat([]api.Plan{s}, n)})
		}
	}
	for _, agg := range []api.AggKind{api.AggNone, api.AggCountKinds, 77, 255} {
		l = append(l, reduce(s, agg, 0), reduce(s, agg, 1, 0))
	}
	for _, n := range []int{1, -1, math.MinInt} {
		l = append(l, reduce(s, api.AggCount, n), reduce(s, api.AggCount, n, 0))
	}
	for _, e := range []api.Expr{{}, op(api.ExprNot), op(api.ExprCount), {Op: api.ExprCol, Const: api.Value{N: 1}}, nots(maxDepth, op(api.ExprNot)), op(api.ExprAdd, sums(99), op(api.ExprNot))} {
		l = append(l, mapped(s, e), mapped(s, num(1), e), mapped(s, nots(maxDepth, num(1)), e), filter(s, e))
	}
	for _, p := range formed() {
		fewest, most := kids(p.Kind)
		for n := range 5 {
			if n < fewest || n > most {
				q := p
				q.Kids = slices.Repeat([]api.Plan{s}, n)
				l = append(l, q)
			}
		}
	}
	return append(l, odd()...)
}

// 9.1: what is not well-formed, alone and as any Kid of any kind.
func TestMalformed(t *testing.T) {
	if n := len(odd()); n < 200 {
		t.Errorf("only %d odd plans", n)
	}
	for _, m := range malformed() {
		wantNo(t, m, api.ErrForm)
		for _, p := range formed() {
			for i := range p.Kids {
				q := p
				q.Kids = slices.Clone(p.Kids)
				q.Kids[i] = m
				wantNo(t, q, api.ErrForm)
			}
		}
	}
}

// many is a plan of so many plans, at most 15 around each other.
func many(n int) api.Plan {
	p := concat()
	for n > 15 {
		p.Kids = append(p.Kids, negates(13, source(0)))
		n -= 14
	}
	for range n - 1 {
		p.Kids = append(p.Kids, source(0))
	}
	return p
}

// 9.1: the bounds of depth and number themselves, and one beyond.
func TestBounds(t *testing.T) {
	s := source(0)
	wantNo(t, negates(maxDepth-1, s), api.OK)
	wantNo(t, negates(maxDepth, s), api.ErrLong)
	wantNo(t, negates(99, s), api.ErrLong)
	wantNo(t, join(s, negates(maxDepth-2, s), nil, nil), api.OK)
	wantNo(t, join(s, negates(maxDepth-1, s), nil, nil), api.ErrLong)
	wantNo(t, join(negates(maxDepth-1, s), s, nil, nil), api.ErrLong)
	wantNo(t, iterate(1, negates(maxDepth-1, s), s), api.ErrLong)
	wantNo(t, iterate(1, s, negates(maxDepth-2, s)), api.OK)
	wantNo(t, iterate(1, s, negates(maxDepth-1, s)), api.ErrLong)
	wantNo(t, concat(slices.Repeat([]api.Plan{s}, maxNodes-1)...), api.OK)
	wantNo(t, concat(slices.Repeat([]api.Plan{s}, maxNodes)...), api.ErrLong)
	for n := 4; n < 200; n++ {
		no := api.OK
		if n > maxNodes {
			no = api.ErrLong
		}
		wantNo(t, many(n), no)
		wantNo(t, concat(s, many(n-2)), no)
		wantNo(t, iterate(1, many(n-2), s), no)
	}
	wantNo(t, many(99999), api.ErrLong)
}

// 9.1: the bounds of expressions.
func TestExprBounds(t *testing.T) {
	s := source(1)
	for _, x := range []struct {
		e  api.Expr
		no api.Errno
	}{
		{nots(maxDepth-1, num(1)), api.OK},
		{nots(maxDepth, num(1)), api.ErrLong},
		{sums(31), api.OK},
		{sums(32), api.ErrLong},
	} {
		for _, p := range []api.Plan{mapped(s, x.e), mapped(s, num(1), x.e, num(1)), mapped(s, x.e, x.e, x.e), filter(s, x.e)} {
			wantNo(t, p, x.no)
			wantNo(t, concat(s, negate(p)), x.no)
			wantNo(t, negates(maxDepth-2, p), x.no)
			wantNo(t, negates(maxDepth-1, p), api.ErrLong)
			// The bounds of expressions are their own.
			wantNo(t, concat(append(slices.Repeat([]api.Plan{p}, 20), s)...), x.no)
		}
	}
}

// 9.1: loops around each other.
func TestLoops(t *testing.T) {
	s := source(0)
	loop := func(a, b api.Plan) api.Plan { return iterate(2, a, b) }
	one := loop(s, s)
	two := loop(s, one)
	three := loop(s, two)
	for _, x := range []struct {
		p    api.Plan
		want int
		no   api.Errno
	}{
		{s, 0, api.OK},
		{negate(s), 0, api.OK},
		{one, 1, api.OK},
		{negate(one), 1, api.OK},
		{concat(s, one, s), 1, api.OK},
		{concat(one, one, one), 1, api.OK},
		{two, 2, api.OK},
		{loop(s, negate(concat(s, negate(one)))), 2, api.OK},
		{concat(one, two, one), 2, api.OK},
		{join(two, one, nil, nil), 2, api.OK},
		{three, 0, api.ErrLong},
		{loop(three, s), 0, api.ErrLong},
		{negate(three), 0, api.ErrLong},
		{concat(s, three), 0, api.ErrLong},
		{loop(s, negate(loop(s, negate(loop(s, s))))), 0, api.ErrLong},
		{loop(s, three), 0, api.ErrLong},
		// The first Kid is not within the loop.
		{loop(one, s), 1, api.OK},
		{loop(loop(loop(loop(one, s), s), s), s), 1, api.OK},
		{loop(two, s), 2, api.OK},
		{loop(two, one), 2, api.OK},
		{loop(two, loop(one, s)), 2, api.OK},
		{loop(s, loop(one, s)), 2, api.OK},
		{loop(s, loop(two, s)), 0, api.ErrLong},
		{loop(one, two), 0, api.ErrLong},
		{loop(negate(loop(s, negate(one))), one), 2, api.OK},
	} {
		wantNo(t, x.p, x.no)
		if n := plan.Loops(x.p); n != x.want {
			t.Errorf("Loops of %s: %d, want %d", show(x.p), n, x.want)
		}
	}
	// What a variable or a source is does not matter to Loops, but what Check says does.
	for _, p := range []api.Plan{loop(variable(7), variable(-1)), loop(source(99), mapped(s, str("")))} {
		if n := plan.Loops(p); n != 1 {
			t.Errorf("Loops of %s: %d", show(p), n)
		}
	}
	for _, p := range []api.Plan{loop(one, api.Plan{}), loop(s, negates(maxDepth, s)), concat(one, negates(maxDepth, s)), concat(two, mapped(s, sums(32)))} {
		if n := plan.Loops(p); n != 0 {
			t.Errorf("Loops of %s: %d", show(p), n)
		}
	}
}

// 9.1: what is not well-formed comes first, as far as it is examined: within at most MaxDepth others.
func TestDeep(t *testing.T) {
	s := source(0)
	for _, m := range malformed() {
		wantNo(t, negates(maxDepth-1, m), api.ErrForm)
		wantNo(t, negates(maxDepth, m), api.ErrForm)
		wantNo(t, negates(maxDepth+1, m), api.ErrLong)
		wantNo(t, negates(99, m), api.ErrLong)
	}
	bad := negate(concat())
	loops := iterate(1, s, iterate(1, s, iterate(1, s, s)))
	for _, long := range []api.Plan{negates(99, s), many(999), loops, mapped(s, nots(maxDepth, num(1))), filter(s, sums(32))} {
		wantNo(t, long, api.ErrLong)
		wantNo(t, concat(long, bad), api.ErrForm)
		wantNo(t, concat(bad, long), api.ErrForm)
		wantNo(t, join(long, filter(s, op(api.ExprNot)), nil, nil), api.ErrForm)
	}
	// A malformed plan at the last examined place, and one just beyond, within a plan that is too deep.
	wantNo(t, negates(maxDepth-1, bad), api.ErrForm)
	wantNo(t, negates(maxDepth, bad), api.ErrLong)
}

// P1: plans that contain themselves, or one thing many times.
func TestEndless(t *testing.T) {
	one := []api.Plan{{Kind: api.PlanNegate}}
	one[0].Kids = one
	wantNo(t, one[0], api.ErrLong)
	two := []api.Plan{{Kind: api.PlanIterate, Rounds: 1}, {Kind: api.PlanJoin}}
	two[0].Kids, two[1].Kids = two, two
	if why := plan.Check(two[0]); why != api.ErrLong {
		t.Errorf("Check: error %d", why)
	}
	two[1].Cols, two[0].Cols = []int{9}, []int{9}
	wantNo(t, two[1], api.ErrForm)
	deep := source(0)
	for range 9999 {
		deep = negate(deep)
	}
	wantNo(t, deep, api.ErrLong)
}
