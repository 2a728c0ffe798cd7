package flow_test

import (
	"fmt"
	"slices"
	"testing"

	"freshet/api"
	"freshet/diff"
	"freshet/flow"
	"freshet/group"
	"freshet/join"
	"freshet/linear"
	"freshet/mean"
	"freshet/moment"
	"freshet/plan"
	"freshet/spine"
)

// chance is numbers that look like chance, the same ones each time.
type chance uint64

func (c *chance) below(n int) int {
	*c ^= *c << 13
	*c ^= *c >> 7
	*c ^= *c << 17
	return int(uint64(*c) >> 16 % uint64(n))
}

// pick is one of several.
func pick[T any](c *chance, l ...T) T {
	return l[c.below(len(l))]
}

// model is a flow as it is written down, and all times at which it fails.
type model struct {
	nodes  []api.Node
	states []api.State
	times  []api.Time
}

func modelOf(f api.Flow) *model {
	m := &model{nodes: f.Nodes, states: slices.Clone(f.States)}
	if f.Failed {
		m.times = append(m.times, at(f.Fail))
	}
	return m
}

func (m *model) flow() api.Flow {
	f := api.Flow{Nodes: m.nodes, States: m.states, Failed: len(m.times) > 0}
	if f.Failed {
		f.Fail = slices.MinFunc(m.times, moment.Compare).Epoch
	}
	return f
}

// fails: at the first time of l, unless why is OK.
func (m *model) fails(l []api.Update, why api.Errno) bool {
	if why == api.OK {
		return false
	}
	first := slices.MinFunc(l, func(a, b api.Update) int { return moment.Compare(a.Time, b.Time) })
	m.times = append(m.times, first.Time)
	return true
}

// told: a failure with its time.
func (m *model) told(l []api.Update, t api.Time, why api.Errno) []api.Update {
	if why == api.ErrOver {
		m.times = append(m.times, t)
	}
	return l
}

func (m *model) pass(l []api.Update, ports []api.Port) {
	for _, p := range ports {
		sum, why := diff.Consolidate(l, m.states[p.Node].Waits[p.Port])
		if !m.fails(l, why) {
			m.states[p.Node].Waits[p.Port] = sum
		}
	}
}

// insert: into the Left of node i, of what was taken a part.
func (m *model) insert(i int, taken, part []api.Update) {
	s, why := spine.Insert(m.states[i].Left, part)
	if !m.fails(taken, why) {
		m.states[i].Left = s
	}
}

// arranged: with the columns, or all of a row.
func (m *model) arranged(l []api.Update, cols func(api.Update) []int) ([]api.Update, bool) {
	var all []api.Update
	for _, u := range l {
		a, why := linear.Arrange(cols(u), ups(u))
		if m.fails(l, why) {
			return nil, false
		}
		all = append(all, a...)
	}
	return all, true
}

// run: port 0, and what it produces is passed on; then port 1.
func (m *model) run(i int) {
	for port := range 2 {
		l := m.states[i].Waits[port]
		m.states[i].Waits[port] = nil
		if len(l) > 0 {
			m.take(i, port, l)
		}
	}
}

func (m *model) take(i, port int, l []api.Update) {
	n := m.nodes[i]
	switch n.Kind {
	case api.NodeSource:
		m.pass(l, n.To)
	case api.NodeOut:
		m.insert(i, l, l)
	case api.NodeLeave:
		var last []api.Update
		for _, u := range l {
			if u.Time.Loop[n.Loop] == uint64(n.Rounds) {
				u.Time.Loop[n.Loop] = 0
				last = append(last, u)
			}
		}
		m.insert(i, l, last)
		m.pass(m.told(linear.Leave(n.Loop, l)), n.To)
	case api.NodeLoop:
		var made []api.Update
		if port == 0 {
			made = m.told(linear.Enter(n.Loop, n.Rounds, l))
		} else {
			made, _ = linear.Next(n.Loop, n.Rounds, l)
		}
		m.pass(made, n.To)
		m.pass(slices.DeleteFunc(slices.Clone(made), func(u api.Update) bool { return u.Time.Loop[n.Loop] >= uint64(n.Rounds) }), n.Back)
	default:
		m.pass(m.operate(i, port, l), n.To)
	}
}

func (m *model) operate(i, port int, l []api.Update) []api.Update {
	p, s := m.nodes[i].Plan, &m.states[i]
	cols := func(u api.Update) []int {
		if p.Kind == api.PlanDistinct {
			return []int{0, 1, 2, 3, 4, 5, 6, 7}[:len(u.Row)]
		}
		return [][]int{p.Cols, p.With}[port]
	}
	switch p.Kind {
	case api.PlanJoin:
		a, ok := m.arranged(l, cols)
		if !ok {
			return nil
		}
		x, y, made, t, why := join.Step(s.Left, s.Right, port, a)
		s.Left, s.Right = x, y
		return m.told(made, t, why)
	case api.PlanReduce, api.PlanDistinct:
		a, ok := m.arranged(l, cols)
		if !ok {
			return nil
		}
		x, made, t, why := group.Step(p, s.Left, a)
		if why == api.ErrForm {
			m.fails(l, why)
			return nil
		}
		s.Left = x
		return m.told(made, t, why)
	}
	return m.told(linear.Do(p, l))
}

// anyNode is a node that goes to none yet.
func anyNode(c *chance) api.Node {
	a := source(0)
	loop := api.Node{Kind: api.NodeLoop, Loop: c.below(2), Rounds: 1 + c.below(4)}
	leave := loop
	leave.Kind = api.NodeLeave
	return pick(c, api.Node{Kind: api.NodeSource, N: c.below(3)}, loop, loop, leave, leave,
		by(mapped(a, pick(c, col(0), col(1), op(api.ExprMul, col(0), con(1<<32))))), by(filter(a, col(0))), by(concat(a)), by(negate(a)),
		by(joined(a, a, pick(c, nil, []int{0}), pick(c, nil, []int{0}, []int{1}))), by(joined(a, a, []int{0}, []int{0})),
		by(reduce(a, api.AggCount, 0, pick(c, nil, []int{0}, []int{1}, make([]int, 9))...)), by(reduce(a, api.AggSum, c.below(2), 0)),
		by(reduce(a, api.AggKind(1+c.below(4)), 0, 0)), by(reduce(a, api.AggTop, c.below(3), pick(c, nil, []int{1})...)), by(distinct(a)))
}

// anyPorts is up to three ports of nodes that may be gone to.
func anyPorts(c *chance, l []api.Node) []api.Port {
	var ports []api.Port
	for range c.below(4) {
		i := c.below(len(l))
		switch n := l[i]; {
		case n.Kind == api.NodeSource:
		case n.Kind == api.NodeLoop, n.Plan.Kind == api.PlanJoin:
			ports = append(ports, port(i, c.below(2)))
		default:
			ports = append(ports, port(i))
		}
	}
	return ports
}

// anyUpdates is a few updates of few rows and times, so that some of them meet, in order.
func anyUpdates(c *chance, diffs ...int64) []api.Update {
	var l []api.Update
	for range c.below(4) {
		t := at(uint64(c.below(3)), uint64(c.below(3)), uint64(c.below(2)))
		r := pick(c, row(1), row(1, 2), row(2, "a"), row(2, 1), row(-3), row(1<<40, 1), row())
		l = append(l, api.Update{Row: r, Time: t, Diff: pick(c, diffs...)})
	}
	l, _ = diff.Consolidate(l)
	return l
}

// anyFlow is nodes that lead anywhere, with updates that wait anywhere.
func anyFlow(c *chance, diffs ...int64) api.Flow {
	var l []api.Node
	for range 1 + c.below(6) {
		l = append(l, anyNode(c))
	}
	f := hand(l...)
	for i := range f.Nodes {
		f.Nodes[i].To = anyPorts(c, f.Nodes)
		if f.Nodes[i].Kind == api.NodeLoop {
			f.Nodes[i].Back = anyPorts(c, f.Nodes)
		}
		f.States[i].Waits[0] = anyUpdates(c, diffs...)
		if f.Nodes[i].Kind == api.NodeLoop || f.Nodes[i].Plan.Kind == api.PlanJoin {
			f.States[i].Waits[1] = anyUpdates(c, diffs...)
		}
	}
	return f
}

var (
	small = []int64{1, 1, 2, -1}
	large = []int64{1, 1, 2, -1, 1 << 31, 1 << 62, -1 << 62, greatest, least}
)

// 15.2: nodes that are run one behind the other, while spines work and are compacted now and then, and updates are pushed.
func TestRunModel(t *testing.T) {
	c := chance(11)
	failed, quiet := 0, 0
	for range 3000 {
		diffs := [][]int64{small, large}[c.below(2)]
		f := anyFlow(&c, diffs...)
		for range 2 + c.below(12) {
			m := modelOf(f)
			n := c.below(len(f.Nodes))
			if w, _ := flow.Waits(f); len(w) > 0 && c.below(9) > 0 {
				n = pick(&c, w...)
			}
			m.run(n)
			before := plain(f)
			g, why := flow.Run(f, n)
			wantFlow(t, fmt.Sprintf("running %d of\n%s", n, before), g, why, m.flow(), api.OK)
			f = g
			if c.below(3) == 0 {
				m, l, n := modelOf(f), anyUpdates(&c, diffs...), c.below(3)
				for i, x := range f.Nodes {
					if len(l) > 0 && x.Kind == api.NodeSource && x.N == n {
						m.pass(l, to(i, 0))
					}
				}
				g, why := flow.Push(f, n, l)
				wantFlow(t, "pushing", g, why, m.flow(), api.OK)
				f = g
			}
			if c.below(4) == 0 {
				f, _ = flow.Work(f, c.below(5))
			}
			if c.below(6) == 0 {
				f, _ = flow.Compact(f, uint64(c.below(3)))
			}
			if t.Failed() {
				return
			}
		}
		if f.Failed {
			failed++
		} else {
			quiet++
		}
	}
	if failed < 500 || quiet < 500 {
		t.Errorf("%d flows failed, and %d did not", failed, quiet)
	}
}

// anyExpr is an expression for rows of a number, and maybe a text or a number.
func anyExpr(c *chance) api.Expr {
	return pick(c, col(0), col(0), col(1), op(api.ExprAdd, col(0), con(1)), op(api.ExprLess, col(0), con(2)), op(api.ExprNot, col(0)), op(api.ExprEqual, col(0), con(1)))
}

// anyPlan is a plan of at most so many around each other, within so many loops; it may have no schema.
func anyPlan(c *chance, depth, loops int) api.Plan {
	if depth == 1 || c.below(9) == 0 {
		if n := c.below(loops + 1); n < loops {
			return variable(n)
		}
		return source(c.below(3))
	}
	sub := func() api.Plan { return anyPlan(c, depth-1, loops) }
	switch k := c.below(12); {
	case k == 0:
		return mapped(sub(), []api.Expr{anyExpr(c), anyExpr(c)}[c.below(2):]...)
	case k == 1:
		return filter(sub(), anyExpr(c))
	case k == 2:
		x := sub()
		return concat(x, pick(c, negate(x), distinct(x), sub()), sub())
	case k == 3:
		return negate(sub())
	case k < 6:
		cols := pick(c, nil, []int{0}, []int{0}, []int{1})
		return mapped(joined(sub(), sub(), cols, pick(c, cols, []int{0})), col(0), col(c.below(3)))
	case k < 8:
		agg := api.AggKind(1 + c.below(5))
		n := 0
		if agg == api.AggTop {
			n = 1 + c.below(2)
		}
		return reduce(sub(), agg, n, pick(c, nil, []int{0}, []int{1})...)
	case k == 8 || loops == 2:
		return distinct(sub())
	}
	return iterate(1+c.below(5), sub(), anyPlan(c, depth-1, loops+1))
}

// sourceTypes is the schemas of the sources of plans by chance.
var sourceTypes = [][]api.Type{{api.TypeInt, api.TypeText}, {api.TypeInt}, {api.TypeInt, api.TypeInt}}

// anyInput is a few updates of each source, of epochs from one on.
func anyInput(c *chance, from int) [][]api.Update {
	var l [][]api.Update
	for _, schema := range sourceTypes {
		var ups []api.Update
		for range c.below(4) {
			r := row(c.below(4))
			if len(schema) == 2 && schema[1] == api.TypeInt {
				r = row(c.below(4), c.below(3))
			} else if len(schema) == 2 {
				r = row(c.below(4), pick(c, "a", "b"))
			}
			ups = append(ups, api.Update{Row: r, Time: at(uint64(from + c.below(4))), Diff: pick(c, small...)})
		}
		l = append(l, ups)
	}
	return l
}

// anyQuery is a plan by chance with a schema, and its flow.
func anyQuery(t *testing.T, c *chance) (api.Plan, api.Flow) {
	t.Helper()
	for {
		p := anyPlan(c, 2+c.below(5), 0)
		if _, why := plan.Infer(p, sourceTypes); why != api.OK {
			continue
		}
		f, why := flow.New(p, sourceTypes)
		if why != api.OK {
			t.Fatalf("%+v: error %d", p, why)
		}
		return p, f
	}
}

// settle runs nodes in an order by chance till nothing waits, with work in between.
func settle(t *testing.T, c *chance, f api.Flow) api.Flow {
	t.Helper()
	for {
		l, why := flow.Waits(f)
		if why != api.OK {
			t.Fatalf("%s: error %d", plain(f), why)
		}
		if len(l) == 0 {
			return f
		}
		f = run(t, f, pick(c, l...))
		if c.below(9) == 0 {
			f, _ = flow.Work(f, c.below(9))
		}
	}
}

// feed pushes updates, source by source, and runs some nodes in between.
func feed(t *testing.T, c *chance, f api.Flow, lists [][]api.Update) api.Flow {
	t.Helper()
	for i, l := range lists {
		f = push(t, f, i, l...)
		for range c.below(4) {
			f = run(t, f, c.below(len(f.Nodes)))
		}
	}
	return f
}

// 15.5, 15.6: whatever is run, worked and compacted in whatever order, there is what the plan comes to.
func TestAsPlan(t *testing.T) {
	c := chance(12)
	answers, loops := 0, 0
	for range 1500 {
		p, f := anyQuery(t, &c)
		g, since := f, 0
		all := make([][]api.Update, len(sourceTypes))
		for from := range 4 {
			input := anyInput(&c, from)
			for i, l := range input {
				all[i] = append(all[i], l...)
			}
			f = feed(t, &c, f, input)
			g = feed(t, &c, g, input)
			if c.below(2) == 0 {
				f = settle(t, &c, f)
				if h, why := flow.Compact(f, uint64(from)); why == api.OK {
					f, since = h, from
				}
			}
		}
		f, g = settle(t, &c, f), settle(t, &c, g)
		x, _ := flow.Out(f)
		y, _ := flow.Out(g)
		if f.Failed || g.Failed {
			continue
		}
		for e := since; e < 9; e++ {
			have, _ := diff.At(x, at(uint64(e)))
			again, _ := diff.At(y, at(uint64(e)))
			var given [][]api.Count
			for _, l := range all {
				there, _ := diff.At(l, at(uint64(e)))
				given = append(given, there)
			}
			want, why := mean.Of(p, given, sourceTypes)
			if fmt.Sprint(have) != fmt.Sprint(again) || why == api.OK && fmt.Sprint(have) != fmt.Sprint(want) {
				t.Fatalf("%+v of %v at %d:\n%v, and\n%v; want\n%v, error %d", p, given, e, have, again, want, why)
			}
			if why == api.OK && len(want) > 0 {
				answers++
				if plan.Loops(p) > 0 {
					loops++
				}
			}
		}
		if g, why := flow.Compact(g, uint64(since)); why != api.OK {
			t.Fatalf("compacting: error %d", why)
		} else if y, _ := flow.Out(g); since > 0 && show(x) != show(y) {
			t.Fatalf("%+v: %s; want %s", p, show(x), show(y))
		}
	}
	if answers < 2000 || loops < 500 {
		t.Errorf("only %d answers, %d of loops", answers, loops)
	}
}

// 15.5, 15.6: plans whose loops have something to do: paths of a graph, and how far a number goes.
func TestLoopsAsPlan(t *testing.T) {
	c := chance(13)
	e, x := source(2), variable(0)
	next := func(from, edges api.Plan) api.Plan {
		return mapped(joined(from, edges, []int{1}, []int{0}), col(0), col(3))
	}
	up := mapped(filter(x, op(api.ExprLess, col(0), con(9))), op(api.ExprAdd, col(0), con(1)), col(1))
	for name, p := range map[string]api.Plan{
		"paths":          iterate(9, distinct(e), distinct(concat(x, next(x, e)))),
		"squared":        iterate(5, distinct(e), distinct(concat(x, next(x, x)))),
		"paths of paths": iterate(4, distinct(e), iterate(6, x, distinct(concat(x, next(x, variable(1)))))),
		"numbers":        iterate(16, e, distinct(concat(x, up))),
		"the greatest":   reduce(iterate(16, e, distinct(concat(x, up))), api.AggMax, 0, 1),
		"loops of loops": iterate(6, iterate(9, e, distinct(concat(x, next(x, e)))), reduce(iterate(11, x, distinct(concat(x, up))), api.AggTop, 8, 1)),
	} {
		answers := 0
		for range 4 {
			f, why := flow.New(p, sourceTypes)
			if why != api.OK {
				t.Fatalf("%s: error %d", name, why)
			}
			var all []api.Update
			for from := range 3 {
				var l []api.Update
				for range 1 + c.below(4) {
					l = append(l, api.Update{Row: row(c.below(4), c.below(4)), Time: at(uint64(from + c.below(2))), Diff: pick(&c, small...)})
				}
				all = append(all, l...)
				f = feed(t, &c, f, [][]api.Update{nil, nil, l})
			}
			f = settle(t, &c, f)
			l, _ := flow.Out(f)
			for epoch := range uint64(5) {
				have, _ := diff.At(l, at(epoch))
				there, _ := diff.At(all, at(epoch))
				want, why := mean.Of(p, [][]api.Count{nil, nil, there}, sourceTypes)
				if why == api.OK {
					answers += len(want)
				}
				if f.Failed || why == api.OK && fmt.Sprint(have) != fmt.Sprint(want) || why != api.OK && why != api.ErrFix {
					t.Fatalf("%s at %d of %v: %v; want %v, error %d, failed %t", name, epoch, there, have, want, why, f.Failed)
				}
			}
		}
		if answers < 20 {
			t.Errorf("%s: only %d rows", name, answers)
		}
	}
}
