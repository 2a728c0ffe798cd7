package plan_test

import (
	"fmt"
	"math"
	"reflect"
	"runtime"
	"slices"
	"testing"

	"freshet/api"
	"freshet/expr"
	"freshet/plan"
)

// types is a schema of so many types.
func types(n int) []api.Type {
	return slices.Repeat([]api.Type{number, text}, n)[:n]
}

// wrongSchemas is schemas that are not valid.
func wrongSchemas() [][][]api.Type {
	return [][][]api.Type{
		make([][]api.Type, maxSources+1), slices.Repeat([][]api.Type{{number}}, maxSources+1), make([][]api.Type, 99),
		{types(maxCols + 1)}, {nil, {text}, types(99)}, {types(maxCols + 1), nil},
		{{api.TypeNone}}, {{number, text, api.TypeNone}}, {{3}}, {{number}, {text, 3}}, {{255}}, {nil, {255, number}},
	}
}

// 9.1
func TestCheckSchemas(t *testing.T) {
	for _, l := range [][][]api.Type{
		nil, {}, {nil}, {{}}, {nil, {number}, {}, {text}}, example(), {types(maxCols)}, make([][]api.Type, maxSources), slices.Repeat([][]api.Type{types(maxCols)}, maxSources),
	} {
		if why := plan.CheckSchemas(l); why != api.OK {
			t.Errorf("CheckSchemas of %d: error %d", l, why)
		}
	}
	for _, l := range wrongSchemas() {
		if why := plan.CheckSchemas(l); why != api.ErrForm {
			t.Errorf("CheckSchemas of %d: error %d", l, why)
		}
	}
}

// 9.1: the errors of the schemas come first, then those of the form, then that of the schema.
func TestInferFirst(t *testing.T) {
	for _, l := range wrongSchemas() {
		for _, p := range []api.Plan{source(0), source(99), {}, negates(99, source(0))} {
			wantSchema(t, p, l, nil, api.ErrForm)
		}
	}
	wantSchema(t, negates(maxDepth, source(99)), example(), nil, api.ErrLong)
	wantSchema(t, concat(source(99), concat()), example(), nil, api.ErrForm)
	wantSchema(t, concat(source(99), mapped(source(0), sums(32))), example(), nil, api.ErrLong)
}

// 9.1: the document's examples.
func TestInferExamples(t *testing.T) {
	a, b := source(0), source(1)
	wantSchema(t, join(a, b, []int{0}, []int{0}), example(), []api.Type{number, text, number}, api.OK)
	wantSchema(t, join(a, b, []int{1}, []int{0}), example(), nil, api.ErrType)
	wantSchema(t, concat(a, b), example(), nil, api.ErrType)
	wantSchema(t, source(2), example(), nil, api.ErrRange)
	wantSchema(t, reduce(a, api.AggSum, 0, 1), example(), []api.Type{text, number}, api.OK)
	wantSchema(t, reduce(a, api.AggTop, 0), example(), nil, api.ErrRange)
	wantSchema(t, iterate(3, a, b), example(), nil, api.ErrType)
}

// 9.1
func TestInferSources(t *testing.T) {
	full := slices.Repeat([][]api.Type{types(maxCols)}, maxSources)
	for i := range maxSources {
		full[i] = full[i][i:]
		wantSchema(t, source(i), full, types(maxCols)[i:], api.OK)
	}
	for _, n := range []int{-1, maxSources, math.MinInt, math.MaxInt} {
		wantSchema(t, source(n), full, nil, api.ErrRange)
		wantSchema(t, source(n), nil, nil, api.ErrRange)
		wantSchema(t, iterate(1, source(0), variable(n)), full, nil, api.ErrRange)
	}
	wantSchema(t, source(0), nil, nil, api.ErrRange)
	wantSchema(t, source(0), [][]api.Type{nil}, nil, api.OK)
	wantSchema(t, variable(0), example(), nil, api.ErrRange)
	for _, p := range []api.Plan{source(0), source(1)} {
		schema, _ := plan.Infer(p, example())
		for _, q := range []api.Plan{negate(p), distinct(p), concat(p), concat(p, p, negate(p)), negates(9, distinct(p))} {
			wantSchema(t, q, example(), schema, api.OK)
		}
	}
}

// 9.1
func TestInferMaps(t *testing.T) {
	a := source(0)
	wantSchema(t, mapped(a), example(), nil, api.OK)
	wantSchema(t, mapped(a, col(1), num(1), str("a"), col(0)), example(), []api.Type{text, number, text, number}, api.OK)
	wantSchema(t, mapped(a, slices.Repeat([]api.Expr{col(1)}, maxCols)...), example(), slices.Repeat([]api.Type{text}, maxCols), api.OK)
	nine := slices.Repeat([]api.Expr{col(1)}, maxCols+1)
	wantSchema(t, mapped(a, nine...), example(), nil, api.ErrLong)
	wantSchema(t, mapped(a, append(nine, col(2))...), example(), nil, api.ErrRange)
	wantSchema(t, mapped(a, append(nine, op(api.ExprNot, col(1)))...), example(), nil, api.ErrType)
	wantSchema(t, mapped(a, col(2), op(api.ExprNot, col(1))), example(), nil, api.ErrRange)
	wantSchema(t, mapped(a, op(api.ExprNot, col(1)), col(2)), example(), nil, api.ErrType)
	wantSchema(t, filter(a, col(0)), example(), []api.Type{number, text}, api.OK)
	wantSchema(t, filter(a, num(1)), example(), []api.Type{number, text}, api.OK)
	wantSchema(t, filter(a, col(1)), example(), nil, api.ErrType)
	wantSchema(t, filter(a, str("")), example(), nil, api.ErrType)
	wantSchema(t, filter(a, col(2)), example(), nil, api.ErrRange)
	wantSchema(t, filter(a, op(api.ExprNot, col(2))), example(), nil, api.ErrRange)
	wantSchema(t, filter(source(1), col(1)), example(), nil, api.ErrRange)
}

// 9.1
func TestInferConcat(t *testing.T) {
	a, b := source(0), source(1)
	wantSchema(t, concat(a, a, b), example(), nil, api.ErrType)
	wantSchema(t, concat(b, a, a), example(), nil, api.ErrType)
	wantSchema(t, concat(a, mapped(a)), example(), nil, api.ErrType)
	wantSchema(t, concat(mapped(a), a), example(), nil, api.ErrType)
	wantSchema(t, concat(a, mapped(a, col(1), col(0))), example(), nil, api.ErrType)
	wantSchema(t, concat(b, mapped(a, col(0))), example(), []api.Type{number}, api.OK)
	// A Kid's error comes ahead of the differing schema.
	wantSchema(t, concat(a, b, source(2)), example(), nil, api.ErrRange)
	wantSchema(t, concat(a, mapped(b, op(api.ExprNot, str(""))), source(2)), example(), nil, api.ErrType)
	wantSchema(t, concat(a, source(2), mapped(b, op(api.ExprNot, str("")))), example(), nil, api.ErrRange)
}

// 9.1
func TestInferJoins(t *testing.T) {
	a, b := source(0), source(1)
	none := [][]api.Type{types(4), types(4), types(5), nil}
	for _, x := range []struct {
		p       api.Plan
		sources [][]api.Type
		want    []api.Type
		no      api.Errno
	}{
		{join(a, b, nil, nil), example(), []api.Type{number, text, number}, api.OK},
		{join(b, a, nil, nil), example(), []api.Type{number, number, text}, api.OK},
		{join(a, a, []int{1, 0}, []int{1, 0}), example(), []api.Type{number, text, number, text}, api.OK},
		{join(a, a, []int{1, 0}, []int{0, 1}), example(), nil, api.ErrType},
		{join(a, a, []int{0, 0, 0}, []int{0, 0, 0}), example(), []api.Type{number, text, number, text}, api.OK},
		{join(a, a, []int{0, 0}, []int{0, 0, 0}), example(), nil, api.ErrType},
		{join(a, a, []int{0}, nil), example(), nil, api.ErrType},
		{join(a, a, nil, []int{0}), example(), nil, api.ErrType},
		{join(a, a, make([]int, 9), make([]int, 9)), example(), []api.Type{number, text, number, text}, api.OK},
		{join(a, a, make([]int, 99), make([]int, 99)), example(), []api.Type{number, text, number, text}, api.OK},
		{join(a, b, []int{2}, []int{0}), example(), nil, api.ErrRange},
		{join(a, b, []int{0}, []int{1}), example(), nil, api.ErrRange},
		{join(a, b, []int{-1}, []int{0}), example(), nil, api.ErrRange},
		{join(a, b, []int{0}, []int{math.MinInt}), example(), nil, api.ErrRange},
		{join(a, b, []int{1, 1, 7}, nil), example(), nil, api.ErrRange},
		{join(a, b, []int{1}, []int{0, math.MaxInt}), example(), nil, api.ErrRange},
		{join(a, b, nil, nil), none, slices.Concat(types(4), types(4)), api.OK},
		{join(a, source(2), nil, nil), none, nil, api.ErrLong},
		{join(source(2), a, []int{0}, []int{0}), none, nil, api.ErrLong},
		{join(a, source(2), []int{0}, []int{1}), none, nil, api.ErrType},
		{join(a, source(2), []int{4}, []int{1}), none, nil, api.ErrRange},
		{join(a, source(2), []int{0}, []int{5}), none, nil, api.ErrRange},
		{join(a, source(2), []int{0}, []int{4}), none, nil, api.ErrLong},
		{join(source(3), source(3), nil, nil), none, nil, api.OK},
		{join(source(9), mapped(a, op(api.ExprNot, str(""))), nil, []int{77}), none, nil, api.ErrRange},
		{join(mapped(a, op(api.ExprNot, str(""))), source(9), nil, []int{77}), none, nil, api.ErrType},
		{join(a, mapped(a, slices.Repeat([]api.Expr{num(1)}, 9)...), []int{99}, nil), none, nil, api.ErrLong},
	} {
		wantSchema(t, x.p, x.sources, x.want, x.no)
	}
}

// 9.1
func TestInferReduce(t *testing.T) {
	a := source(0)
	seven, eight := [][]api.Type{types(7)}, [][]api.Type{types(8)}
	type test struct {
		p       api.Plan
		sources [][]api.Type
		want    []api.Type
		no      api.Errno
	}
	l := []test{
		{reduce(a, api.AggCount, 0), example(), []api.Type{number}, api.OK},
		{reduce(a, api.AggCount, 0, 1, 0, 1), example(), []api.Type{text, number, text, number}, api.OK},
		{reduce(a, api.AggSum, 0), example(), []api.Type{number}, api.OK},
		{reduce(a, api.AggSum, 1), example(), nil, api.ErrType},
		{reduce(a, api.AggSum, 1, 1), example(), nil, api.ErrType},
		{reduce(a, api.AggSum, 1, 2), example(), nil, api.ErrRange},
		{reduce(a, api.AggMin, 0, 1), example(), []api.Type{text, number}, api.OK},
		{reduce(a, api.AggMax, 0), example(), []api.Type{number}, api.OK},
		{reduce(a, api.AggMin, 1), example(), []api.Type{text}, api.OK},
		{reduce(a, api.AggMax, 1, 0, 1), example(), []api.Type{number, text, text}, api.OK},
		{reduce(a, api.AggTop, 1), example(), []api.Type{number, text}, api.OK},
		{reduce(a, api.AggTop, maxTop, 1, 0), example(), []api.Type{number, text}, api.OK},
		{reduce(a, api.AggTop, 1, make([]int, 99)...), example(), []api.Type{number, text}, api.OK},
		{reduce(a, api.AggTop, 1), eight, types(8), api.OK},
		{reduce(a, api.AggTop, 1, 0, 1, 2, 3, 4, 5, 6, 7), eight, types(8), api.OK},
		{reduce(a, api.AggCount, 0, 0, 1, 2, 3, 4, 5, 6), seven, append(types(7), number), api.OK},
		{reduce(a, api.AggMin, 1, 0, 1, 2, 3, 4, 5, 6), seven, append(types(7), text), api.OK},
		{reduce(a, api.AggSum, 1, 0, 1, 2, 3, 4, 5, 6, 7), eight, nil, api.ErrType},
		{reduce(a, api.AggSum, 8, 0, 1, 2, 3, 4, 5, 6, 7), eight, nil, api.ErrRange},
		{reduce(a, api.AggCount, 0, append(make([]int, 9), 1)...), [][]api.Type{{number}}, nil, api.ErrRange},
		{reduce(source(9), api.AggSum, 1), example(), nil, api.ErrRange},
		{reduce(filter(a, col(1)), api.AggSum, 9), example(), nil, api.ErrType},
	}
	for _, agg := range []api.AggKind{api.AggCount, api.AggSum, api.AggMin, api.AggMax} {
		l = append(l, test{reduce(a, agg, 0, 0, 1, 2, 3, 4, 5, 6, 7), eight, nil, api.ErrLong}, test{reduce(a, agg, 0, make([]int, 99)...), eight, nil, api.ErrLong})
	}
	for _, n := range []int{-1, 2, math.MinInt, math.MaxInt} {
		for _, agg := range []api.AggKind{api.AggSum, api.AggMin, api.AggMax} {
			l = append(l, test{reduce(a, agg, n), example(), nil, api.ErrRange}, test{reduce(a, agg, n, make([]int, 8)...), example(), nil, api.ErrRange})
		}
		for _, agg := range []api.AggKind{api.AggMin, api.AggMax, api.AggTop} {
			l = append(l, test{reduce(a, agg, 1, n), example(), nil, api.ErrRange}, test{reduce(a, agg, 1, 0, n), example(), nil, api.ErrRange})
		}
		l = append(l, test{reduce(a, api.AggSum, 0, n), example(), nil, api.ErrRange}, test{reduce(a, api.AggCount, 0, 0, n), example(), nil, api.ErrRange})
	}
	for _, n := range []int{0, -1, maxTop + 1, math.MinInt, math.MaxInt} {
		l = append(l, test{reduce(a, api.AggTop, n), example(), nil, api.ErrRange}, test{reduce(a, api.AggTop, n, 1), eight, nil, api.ErrRange})
	}
	for _, x := range l {
		wantSchema(t, x.p, x.sources, x.want, x.no)
	}
}

// 9.1: what a variable is within loops, and without.
func TestInferIterates(t *testing.T) {
	a, b := source(0), source(1)
	for _, x := range []struct {
		p    api.Plan
		want []api.Type
		no   api.Errno
	}{
		{iterate(1, a, variable(0)), []api.Type{number, text}, api.OK},
		{iterate(maxRounds, b, concat(variable(0), variable(0))), []api.Type{number}, api.OK},
		{iterate(1, a, variable(1)), nil, api.ErrRange},
		{iterate(1, variable(0), b), nil, api.ErrRange},
		{iterate(1, a, mapped(variable(0), col(0))), nil, api.ErrType},
		{iterate(1, a, mapped(variable(0), col(1), col(0))), nil, api.ErrType},
		{iterate(1, b, mapped(a, col(0))), []api.Type{number}, api.OK},
		{iterate(1, mapped(a), mapped(b)), nil, api.OK},
		{iterate(1, iterate(1, a, variable(0)), variable(0)), []api.Type{number, text}, api.OK},
		{iterate(1, iterate(1, a, variable(1)), variable(0)), nil, api.ErrRange},
		// In a loop in a loop, the nearest one is 0.
		{iterate(1, a, iterate(1, variable(0), variable(0))), []api.Type{number, text}, api.OK},
		{iterate(1, a, iterate(1, variable(0), variable(1))), []api.Type{number, text}, api.OK},
		{iterate(1, a, iterate(1, variable(0), variable(2))), nil, api.ErrRange},
		{iterate(1, a, iterate(1, variable(1), variable(0))), nil, api.ErrRange},
		{iterate(1, a, join(mapped(iterate(1, b, variable(0))), variable(0), nil, nil)), []api.Type{number, text}, api.OK},
		{iterate(1, a, join(mapped(iterate(1, b, mapped(variable(1), col(0)))), variable(0), nil, nil)), []api.Type{number, text}, api.OK},
		{iterate(1, a, join(mapped(iterate(1, b, mapped(variable(0), col(1)))), variable(0), nil, nil)), nil, api.ErrRange},
		{iterate(1, a, join(mapped(iterate(1, b, variable(1))), variable(0), nil, nil)), nil, api.ErrType},
		{iterate(1, b, mapped(iterate(1, a, join(mapped(variable(1)), variable(0), nil, nil)), col(0))), []api.Type{number}, api.OK},
		{iterate(1, b, mapped(iterate(1, a, variable(0)), col(0))), []api.Type{number}, api.OK},
		{iterate(1, b, iterate(1, a, variable(0))), nil, api.ErrType},
		{iterate(1, b, mapped(join(variable(0), variable(0), nil, nil), col(1))), []api.Type{number}, api.OK},
		{concat(iterate(1, a, variable(0)), variable(0)), nil, api.ErrRange},
		{concat(iterate(1, a, variable(0)), a), []api.Type{number, text}, api.OK},
		// The errors of the Kids come first, in their order.
		{iterate(1, source(2), filter(a, str(""))), nil, api.ErrRange},
		{iterate(1, filter(a, str("")), source(2)), nil, api.ErrType},
		{iterate(1, a, concat(b, source(2))), nil, api.ErrRange},
	} {
		wantSchema(t, x.p, example(), x.want, x.no)
	}
}

// chance is numbers that look like chance.
type chance uint64

func (c *chance) below(n int) int {
	*c ^= *c << 13
	*c ^= *c >> 7
	*c ^= *c << 17
	return int(uint64(*c) >> 11 % uint64(n))
}

func (c *chance) expr() api.Expr {
	l := []api.Expr{col(0), col(1), col(0), num(1), str("a"), op(api.ExprAdd, col(0), num(1)), op(api.ExprLess, col(0), col(1)), col(2), op(api.ExprNot, col(1))}
	return l[c.below(len(l))]
}

func (c *chance) cols() []int {
	var l []int
	for range c.below(3) {
		l = append(l, c.below(3))
	}
	if c.below(40) == 0 {
		l = append(l, -1)
	}
	return l
}

// plan is a plan of at most so many around each other.
func (c *chance) plan(depth int) api.Plan {
	p := api.Plan{Kind: api.PlanKind(1 + c.below(int(api.PlanCount)-1))}
	if depth == 1 {
		p.Kind = api.PlanKind(1 + c.below(2))
	}
	fewest, _ := kids(p.Kind)
	if p.Kind == api.PlanConcat {
		fewest += c.below(2)
	}
	for range fewest {
		p.Kids = append(p.Kids, c.plan(depth-1))
	}
	switch p.Kind {
	case api.PlanSource, api.PlanVar:
		p.N = c.below(3)
	case api.PlanMap:
		for range 1 + c.below(2) {
			p.Exprs = append(p.Exprs, c.expr())
		}
	case api.PlanFilter:
		p.Exprs = append(p.Exprs, c.expr())
	case api.PlanJoin:
		p.Cols, p.With = c.cols(), c.cols()
	case api.PlanReduce:
		p.Cols, p.Agg = c.cols(), api.AggKind(1+c.below(5))
		if p.Agg != api.AggCount {
			p.N = c.below(3)
		}
	case api.PlanIterate:
		p.Rounds = 1 + c.below(maxRounds)
	}
	return p
}

// pick is an element of a list, or ErrRange.
func pick[T any](l []T, i int) (x T, why api.Errno) {
	if i < 0 || i >= len(l) {
		return x, api.ErrRange
	}
	return l[i], api.OK
}

func picks(l []api.Type, cols []int) ([]api.Type, api.Errno) {
	var all []api.Type
	for _, i := range cols {
		x, why := pick(l, i)
		if why != api.OK {
			return nil, why
		}
		all = append(all, x)
	}
	return all, api.OK
}

// model is the schema of a plan as it is written down; the loops around it are given with the outermost first.
func model(p api.Plan, sources, loops [][]api.Type) ([]api.Type, api.Errno) {
	switch p.Kind {
	case api.PlanSource:
		return pick(sources, p.N)
	case api.PlanVar:
		return pick(loops, len(loops)-1-p.N)
	}
	var l [][]api.Type
	for i, k := range p.Kids {
		around := loops
		if p.Kind == api.PlanIterate && i == 1 {
			around = append(slices.Clone(loops), l[0])
		}
		x, why := model(k, sources, around)
		if why != api.OK {
			return nil, why
		}
		l = append(l, x)
	}
	want := l[0]
	switch p.Kind {
	case api.PlanMap, api.PlanFilter:
		var of []api.Type
		for _, e := range p.Exprs {
			x, why := expr.Infer(e, l[0])
			if why != api.OK {
				return nil, why
			}
			of = append(of, x)
		}
		if p.Kind == api.PlanFilter {
			if of[0] != number {
				return nil, api.ErrType
			}
			return want, api.OK
		}
		want = of
	case api.PlanConcat, api.PlanIterate:
		for _, x := range l {
			if !reflect.DeepEqual(append([]api.Type{}, x...), append([]api.Type{}, want...)) {
				return nil, api.ErrType
			}
		}
	case api.PlanJoin:
		a, why := picks(l[0], p.Cols)
		b, no := picks(l[1], p.With)
		if why != api.OK || no != api.OK {
			return nil, api.ErrRange
		}
		if fmt.Sprint(a) != fmt.Sprint(b) {
			return nil, api.ErrType
		}
		want = append(append([]api.Type{}, l[0]...), l[1]...)
	case api.PlanReduce:
		of, why := picks(l[0], p.Cols)
		if why != api.OK {
			return nil, why
		}
		at := number
		switch p.Agg {
		case api.AggTop:
			if p.N < 1 || p.N > maxTop {
				return nil, api.ErrRange
			}
			return want, api.OK
		case api.AggSum, api.AggMin, api.AggMax:
			if at, why = pick(l[0], p.N); why != api.OK {
				return nil, why
			}
			if p.Agg == api.AggSum && at != number {
				return nil, api.ErrType
			}
		}
		want = append(of, at)
	}
	if len(want) > maxCols {
		return nil, api.ErrLong
	}
	return want, api.OK
}

// 9.1, 9.3, 9.4: plans by chance, held against the model, and the schemas of their parts, and with further sources.
func TestInferModel(t *testing.T) {
	c := chance(88172645463325252)
	found := map[api.Errno]int{}
	further := append(example(), []api.Type{text, text}, nil)
	for range 60000 {
		p := c.plan(1 + c.below(5))
		if plan.Check(p) != api.OK {
			continue
		}
		want, no := model(p, example(), nil)
		found[no]++
		wantSchema(t, p, example(), want, no)
		if no != api.OK {
			continue
		}
		wantSchema(t, p, further, want, api.OK)
		wantSchema(t, p, further[:3], want, api.OK)
		for i, k := range p.Kids {
			if _, why := plan.Infer(k, example()); why != api.OK && (p.Kind != api.PlanIterate || i == 0) {
				t.Errorf("the Kid %d of %s: error %d", i, show(p), why)
			}
		}
	}
	for _, why := range []api.Errno{api.OK, api.ErrRange, api.ErrType} {
		if found[why] < 1000 {
			t.Errorf("error %d was found %d times", why, found[why])
		}
	}
}

// 9.2, P3, P4: plans and schemas are as they were, also behind their ends, and what is answered is new.
func TestNewMemory(t *testing.T) {
	before := runtime.NumGoroutine()
	roomy := func() [][]api.Type {
		l := [][]api.Type{{number, text, 77, 77, 77, 77}, {number, 77, 77, 77}, {88}}
		return [][]api.Type{l[0][:2], l[1][:1], l[2]}[:2]
	}
	whole := func(l [][]api.Type) string {
		return fmt.Sprint(l[0][:cap(l[0])], l[1][:cap(l[1])], l[:3])
	}
	a, b := source(0), source(1)
	for _, made := range []func() api.Plan{
		func() api.Plan { return a },
		func() api.Plan { return negate(distinct(filter(concat(a, a), col(0)))) },
		func() api.Plan { return mapped(a, col(1), col(1)) },
		func() api.Plan { return join(b, a, []int{0, 77}[:1], []int{0, 77}[:1]) },
		func() api.Plan { return join(join(a, b, nil, nil), b, nil, nil) },
		func() api.Plan { return reduce(a, api.AggMax, 1, 0, 0) },
		func() api.Plan { return reduce(a, api.AggTop, 1, 0, 0) },
		func() api.Plan { return iterate(2, a, variable(0)) },
		func() api.Plan { return iterate(2, a, iterate(2, variable(0), concat(variable(0), variable(1)))) },
	} {
		p, sources := made(), roomy()
		schema, why := plan.Infer(p, sources)
		again, _ := plan.Infer(p, sources)
		want := slices.Clone(schema)
		plan.Check(p)
		plan.Loops(p)
		plan.CheckSchemas(sources)
		if why != api.OK || !slices.Equal(schema, again) || !reflect.DeepEqual(p, made()) || whole(sources) != whole(roomy()) {
			t.Errorf("Infer of %s: %d and %d, error %d; behind it %s and %s", show(made()), schema, again, why, show(p), whole(sources))
		}
		for i := range schema[:cap(schema)] {
			schema[:cap(schema)][i] = 99
		}
		if !slices.Equal(again, want) || whole(sources) != whole(roomy()) {
			t.Errorf("Infer of %s shares memory", show(p))
		}
	}
	if n := runtime.NumGoroutine(); n > before {
		t.Errorf("%d goroutines are left", n-before)
	}
}
