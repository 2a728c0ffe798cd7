// Package copies makes copies that share no memory with what they are copies of: no answer of the program shares any with an argument, or with another answer.
package copies

import "freshet/api"

// List returns a copy of l without spare capacity; what its elements share, they share still.
func List[T any](l []T) []T {
	if len(l) == 0 {
		return nil
	}
	c := make([]T, len(l))
	copy(c, l)
	return c
}

// rows makes copies of rows that lie one behind the other, so that many of them do not need memory one by one.
type rows []api.Value

// copy returns a copy of r without spare capacity, so that no other row is written into by what is appended to it.
func (l *rows) copy(r []api.Value) []api.Value {
	if len(r) == 0 {
		return nil
	}
	i := len(*l)
	*l = append(*l, r...)
	return (*l)[i:len(*l):len(*l)]
}

// Updates returns a copy of updates with their rows.
func Updates(l []api.Update) []api.Update {
	n := 0
	for _, u := range l {
		n += len(u.Key) + len(u.Row)
	}
	c, values := List(l), make(rows, 0, n)
	for i, u := range c {
		c[i].Key, c[i].Row = values.copy(u.Key), values.copy(u.Row)
	}
	return c
}

// Counts returns a copy of counts with their rows.
func Counts(l []api.Count) []api.Count {
	n := 0
	for _, c := range l {
		n += len(c.Row)
	}
	c, values := List(l), make(rows, 0, n)
	for i, x := range c {
		c[i].Row = values.copy(x.Row)
	}
	return c
}

// Batch returns a copy of a batch with all its lists.
func Batch(b api.Batch) api.Batch {
	return api.Batch{Since: List(b.Since), Updates: Updates(b.Updates)}
}

// Merger returns a copy of a merger with all its lists.
func Merger(m api.Merger) api.Merger {
	return api.Merger{A: Updates(m.A), B: Updates(m.B), I: m.I, J: m.J, Since: List(m.Since), Out: Updates(m.Out)}
}

// Spine returns a copy of a spine with all its lists.
func Spine(s api.Spine) api.Spine {
	c := api.Spine{Since: List(s.Since), Levels: List(s.Levels)}
	for i, l := range c.Levels {
		c.Levels[i].Batch, c.Levels[i].Merger = Batch(l.Batch), Merger(l.Merger)
	}
	return c
}

// Exprs returns a copy of expressions with all those in them, which are of a limited depth.
func Exprs(l []api.Expr) []api.Expr {
	c := List(l)
	for i, e := range c {
		c[i].Kids = Exprs(e.Kids)
	}
	return c
}

// Plan returns a copy of a plan with all those in it, which are of a limited depth.
func Plan(p api.Plan) api.Plan {
	p.Kids = List(p.Kids)
	for i, k := range p.Kids {
		p.Kids[i] = Plan(k)
	}
	p.Exprs, p.Cols, p.With = Exprs(p.Exprs), List(p.Cols), List(p.With)
	return p
}

// Nodes returns a copy of nodes with all their lists.
func Nodes(l []api.Node) []api.Node {
	c := List(l)
	for i, n := range c {
		c[i].Plan, c[i].To, c[i].Back = Plan(n.Plan), List(n.To), List(n.Back)
	}
	return c
}

// Flow returns a copy of a flow with all its lists.
func Flow(f api.Flow) api.Flow {
	f.Nodes, f.States = Nodes(f.Nodes), List(f.States)
	for i, s := range f.States {
		for port, l := range s.Waits {
			s.Waits[port] = Updates(l)
		}
		s.Left, s.Right = Spine(s.Left), Spine(s.Right)
		f.States[i] = s
	}
	return f
}

// Schemas returns a copy of the schemas of sources.
func Schemas(l [][]api.Type) [][]api.Type {
	c := List(l)
	for i, schema := range c {
		c[i] = List(schema)
	}
	return c
}

// Base returns a copy of a base with all its lists.
func Base(b api.Base) api.Base {
	b.Schemas, b.Sources = Schemas(b.Schemas), List(b.Sources)
	for i, l := range b.Sources {
		b.Sources[i] = Updates(l)
	}
	b.Queries, b.Subs = List(b.Queries), List(b.Subs)
	for i, q := range b.Queries {
		b.Queries[i].Plan = Plan(q.Plan)
	}
	return b
}

// Engine returns a copy of an engine with all its lists.
func Engine(e api.Engine) api.Engine {
	e.Base, e.Flows = Base(e.Base), List(e.Flows)
	for i, f := range e.Flows {
		e.Flows[i] = Flow(f)
	}
	return e
}

// Disk returns a copy of a disk with all its lists.
func Disk(d api.Disk) api.Disk {
	d.Files, d.Waits = List(d.Files), List(d.Waits)
	return d
}

// Server returns a copy of a server with all its lists.
func Server(s api.Server) api.Server {
	s.Disk, s.Engine = Disk(s.Disk), Engine(s.Engine)
	return s
}

// Clients returns a copy of clients with all that they have heard.
func Clients(l []api.Client) []api.Client {
	c := List(l)
	for i, x := range c {
		c[i].Heard = List(x.Heard)
		for k, heard := range x.Heard {
			c[i].Heard[k] = Counts(heard)
		}
	}
	return c
}

// World returns a copy of a world with all its lists.
func World(w api.World) api.World {
	w.Server, w.Clients = Server(w.Server), Clients(w.Clients)
	return w
}
