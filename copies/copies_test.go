package copies_test

import (
	"reflect"
	"slices"
	"testing"

	"freshet/api"
	"freshet/copies"
)

func TestList(t *testing.T) {
	for _, l := range [][]int{nil, {}, {1}, {1, 2, 3, 4, 5}} {
		given := append(slices.Clone(l), 7, 7, 7)
		c := copies.List(given[:len(l)])
		if !slices.Equal(c, l) || cap(c) != len(c) {
			t.Errorf("%d: %d, capacity %d", l, c, cap(c))
		}
		for i := range c {
			c[i] = 9
		}
		if !slices.Equal(given, append(slices.Clone(l), 7, 7, 7)) {
			t.Errorf("%d was changed: %d", l, given)
		}
	}
}

// updates is three updates with the same rows.
func updates() []api.Update {
	row := []api.Value{{N: 1}, {IsText: true, S: "a"}}
	time := api.Time{Epoch: 1, Loop: [2]uint64{2, 3}}
	return []api.Update{{Key: row[:1], Row: row, Time: time, Diff: 4}, {Row: row, Time: time, Diff: -4}, {Key: row, Diff: 7}}
}

func TestUpdates(t *testing.T) {
	if c := copies.Updates(nil); len(c) != 0 {
		t.Errorf("of none: %v", c)
	}
	l := updates()
	c := copies.Updates(l)
	if !reflect.DeepEqual(c, l) {
		t.Errorf("copied: %v", c)
	}
	for _, u := range c {
		if cap(u.Key) != len(u.Key) || cap(u.Row) != len(u.Row) {
			t.Errorf("rows with spare capacity: %v", u)
		}
	}
	c[0].Key[0].N, c[0].Row[1].S, c[0].Diff = 8, "b", 8
	if !reflect.DeepEqual(l, updates()) || !reflect.DeepEqual(c[1:], l[1:]) || c[0].Row[0].N != 1 {
		t.Errorf("the copies %v of %v share memory", c, l)
	}
}

func TestCounts(t *testing.T) {
	row := []api.Value{{N: 1}, {IsText: true, S: "a"}, {N: 2}}
	made := func() []api.Count { return []api.Count{{Row: row[:2], N: 5}, {N: 6}, {Row: row, N: -7}} }
	l := made()
	c, d := copies.Counts(l), copies.Counts(l)
	if !reflect.DeepEqual(c, l) || !reflect.DeepEqual(l, made()) {
		t.Errorf("copied: %v", c)
	}
	for _, x := range c {
		if cap(x.Row) != len(x.Row) {
			t.Errorf("a row with spare capacity: %v", x)
		}
	}
	if !apart(l, c, d) {
		t.Error("copies share memory")
	}
	if e := copies.Counts(nil); len(e) != 0 {
		t.Errorf("of none: %v", e)
	}
}

// lists finds all lists in a value, of any depth.
func lists(v reflect.Value, found func(reflect.Value)) {
	switch v.Kind() {
	case reflect.Slice:
		found(v)
		for i := range v.Len() {
			lists(v.Index(i), found)
		}
	case reflect.Array:
		for i := range v.Len() {
			lists(v.Index(i), found)
		}
	case reflect.Struct:
		for i := range v.NumField() {
			lists(v.Field(i), found)
		}
	}
}

// apart reports whether no two lists of values share an element, nor one of them and the given one.
func apart(given any, l ...any) bool {
	seen, ok := map[any]bool{}, true
	look := func(x any) {
		lists(reflect.ValueOf(x), func(v reflect.Value) {
			for i := range v.Len() {
				p := v.Index(i).Addr().Interface()
				ok = ok && !seen[p]
				seen[p] = true
			}
		})
	}
	look(given)
	ok = true // what is given may share what it likes
	for _, x := range l {
		look(x)
	}
	return ok
}

func TestSpine(t *testing.T) {
	since := []api.Time{{Epoch: 3}, {Epoch: 4}}
	made := func() api.Spine {
		return api.Spine{Since: since, Levels: []api.Level{
			{Class: 5, Busy: true, Merger: api.Merger{A: updates(), B: updates(), I: 1, J: 2, Since: since[:1], Out: updates()}},
			{Class: 3, Batch: api.Batch{Since: since, Updates: updates()}},
			{},
		}}
	}
	s := made()
	c, d := copies.Spine(s), copies.Spine(s)
	b, m := copies.Batch(s.Levels[1].Batch), copies.Merger(s.Levels[0].Merger)
	if !reflect.DeepEqual(s, made()) || !reflect.DeepEqual(c, s) || !reflect.DeepEqual(b, s.Levels[1].Batch) || !reflect.DeepEqual(m, s.Levels[0].Merger) {
		t.Errorf("copied: %v, %v, %v", c, b, m)
	}
	if !apart(s, c, d, b, m) {
		t.Error("copies share memory")
	}
	if e := copies.Spine(api.Spine{}); len(e.Since)+len(e.Levels) != 0 {
		t.Errorf("of none: %v", e)
	}
}

func TestPlan(t *testing.T) {
	exprs := []api.Expr{{Op: api.ExprAdd, Kids: []api.Expr{{Op: api.ExprCol, Col: 1}, {Op: api.ExprNot, Kids: []api.Expr{{Op: api.ExprConst, Const: api.Value{N: 5}}}}}}, {Op: api.ExprCol}}
	cols := []int{1, 2, 3}
	made := func() api.Plan {
		kid := api.Plan{Kind: api.PlanMap, Exprs: exprs, Kids: []api.Plan{{Kind: api.PlanReduce, N: 3, Agg: api.AggTop, Cols: cols[:1]}}}
		return api.Plan{Kind: api.PlanJoin, Cols: cols, With: cols[1:], Exprs: exprs[:1], Rounds: 4, Kids: []api.Plan{kid, kid}}
	}
	p := made()
	c, d, e := copies.Plan(p), copies.Plan(p), copies.Exprs(exprs)
	if !reflect.DeepEqual(p, made()) || !reflect.DeepEqual(c, p) || !reflect.DeepEqual(e, exprs) {
		t.Errorf("copied: %v, %v", c, e)
	}
	// All lists of exprs are in the plan, too.
	if !apart(p, c, d, e) {
		t.Error("copies share memory")
	}
	if e := copies.Plan(api.Plan{Kids: []api.Plan{}, Exprs: []api.Expr{}}); len(e.Kids)+len(e.Exprs)+len(e.Cols)+len(e.With) != 0 {
		t.Errorf("of none: %v", e)
	}
}

func TestFlow(t *testing.T) {
	ports := []api.Port{{Node: 1}, {Node: 2, Port: 1}}
	made := func() api.Flow {
		s := api.Spine{Since: []api.Time{{Epoch: 3}}, Levels: []api.Level{{Class: 2, Batch: api.Batch{Updates: updates()}}}}
		n := api.Node{Kind: api.NodePlan, Plan: api.Plan{Kind: api.PlanJoin, Cols: []int{1}, With: []int{2}}, N: 1, Loop: 2, Rounds: 3, To: ports, Back: ports[1:]}
		return api.Flow{
			Nodes:  []api.Node{{Kind: api.NodeOut}, n, n},
			States: []api.State{{}, {Waits: [2][]api.Update{updates(), updates()[:1]}, Left: s, Right: s}, {Waits: [2][]api.Update{nil, updates()}}},
			Failed: true,
			Fail:   5,
		}
	}
	f := made()
	c, d, n := copies.Flow(f), copies.Flow(f), copies.Nodes(f.Nodes)
	if !reflect.DeepEqual(f, made()) || !reflect.DeepEqual(c, f) || !reflect.DeepEqual(n, f.Nodes) {
		t.Errorf("copied: %v, %v", c, n)
	}
	if !apart(f, c, d, n) {
		t.Error("copies share memory")
	}
	if e := copies.Flow(api.Flow{}); len(e.Nodes)+len(e.States) != 0 {
		t.Errorf("of none: %v", e)
	}
}

func TestEngine(t *testing.T) {
	types := []api.Type{api.TypeInt, api.TypeText}
	cols := []int{1, 2}
	made := func() api.Engine {
		q := api.Query{Name: "q", Plan: api.Plan{Kind: api.PlanReduce, Cols: cols, Kids: []api.Plan{{Kind: api.PlanSource}}}, Done: 3}
		f := api.Flow{Nodes: []api.Node{{Kind: api.NodeOut, Plan: q.Plan}}, States: []api.State{{Waits: [2][]api.Update{updates(), nil}}}, Failed: true, Fail: 4}
		return api.Engine{
			Base: api.Base{
				Schemas: [][]api.Type{types, types[:1], nil},
				Sources: [][]api.Update{updates(), nil, updates()[:2]},
				Closed:  5,
				Since:   2,
				Queries: []api.Query{q, q},
				Subs:    []api.Sub{{Name: "s", Query: "q", Next: 6, Begun: true}, {}},
			},
			Flows: []api.Flow{f, {}, f},
		}
	}
	e := made()
	c, d := copies.Engine(e), copies.Engine(e)
	b, s := copies.Base(e.Base), copies.Schemas(e.Base.Schemas)
	if !reflect.DeepEqual(e, made()) || !reflect.DeepEqual(c, e) || !reflect.DeepEqual(b, e.Base) || !reflect.DeepEqual(s, e.Base.Schemas) {
		t.Errorf("copied: %v, %v, %v", c, b, s)
	}
	if !apart(e, c, d, b, s) {
		t.Error("copies share memory")
	}
	if e := copies.Engine(api.Engine{}); !reflect.DeepEqual(e, api.Engine{}) {
		t.Errorf("of none: %v", e)
	}
	if s := copies.Schemas(nil); len(s) != 0 {
		t.Errorf("of none: %v", s)
	}
}

func TestWorld(t *testing.T) {
	counts := []api.Count{{Row: []api.Value{{N: 1}, {IsText: true, S: "a"}}, N: 2}, {N: -3}}
	made := func() api.World {
		d := api.Disk{Files: []api.File{{Name: "a", Data: "b"}, {}}, Waits: []api.Write{{Kind: api.WriteRename, Name: "a", To: "c"}, {Data: "x"}}, Room: 5, Down: true, Fuse: 6}
		e := api.Engine{Base: api.Base{Sources: [][]api.Update{updates()}, Closed: 7}, Flows: []api.Flow{{Nodes: []api.Node{{Kind: api.NodeOut}}}}}
		return api.World{
			Up:      true,
			Server:  api.Server{Disk: d, Gen: 8, Engine: e},
			Clients: []api.Client{{Name: "x", First: 9, Heard: [][]api.Count{counts, nil, counts[:1]}}, {}, {Name: "y", Heard: [][]api.Count{counts}}},
		}
	}
	w := made()
	c, d := copies.World(w), copies.World(w)
	k, s, l := copies.Disk(w.Server.Disk), copies.Server(w.Server), copies.Clients(w.Clients)
	if !reflect.DeepEqual(w, made()) || !reflect.DeepEqual(c, w) || !reflect.DeepEqual(k, w.Server.Disk) || !reflect.DeepEqual(s, w.Server) || !reflect.DeepEqual(l, w.Clients) {
		t.Errorf("copied: %v, %v, %v, %v", c, k, s, l)
	}
	if !apart(w, c, d, k, s, l) {
		t.Error("copies share memory")
	}
	if e := copies.World(api.World{}); !reflect.DeepEqual(e, api.World{}) {
		t.Errorf("of none: %v", e)
	}
}
