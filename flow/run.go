package flow

import (
	"freshet/api"
	"freshet/group"
	"freshet/join"
	"freshet/linear"
	"freshet/spine"
)

// Run runs a node: it takes what waits at its ports, and passes on what it produces. It returns ErrRange if there is no such node.
func (w *Working) Run(node int) api.Errno {
	if node < 0 || node >= len(w.Nodes) {
		return api.ErrRange
	}
	waits := &w.States[node].Waits
	for port := range waits {
		// What port 0 passes on to port 1 of the node itself waits there by now, and is taken with the rest.
		if l := waits[port]; len(l) > 0 {
			waits[port] = nil
			w.process(node, port, l)
		}
	}
	return api.OK
}

// process processes updates that were taken at a port of a node.
func (w *Working) process(node, port int, l []api.Update) {
	n := &w.Nodes[node]
	switch n.Kind {
	case api.NodeSource:
		w.pass(n.To, l)
	case api.NodePlan:
		w.pass(n.To, w.operate(node, port, l))
	case api.NodeLoop:
		w.loop(n, port, l)
	case api.NodeLeave:
		w.pass(n.To, w.leave(node, l))
	case api.NodeOut:
		w.insert(node, l, l)
	}
}

// operate returns what the plan of a node produces.
func (w *Working) operate(node, port int, l []api.Update) []api.Update {
	switch p := w.Nodes[node].Plan; p.Kind {
	case api.PlanJoin:
		return w.join(node, port, l)
	case api.PlanReduce:
		return w.group(node, l, w.arrange(p.Cols, l))
	case api.PlanDistinct:
		return w.group(node, l, byRow(l))
	default:
		return w.made(linear.Do(p, l))
	}
}

// made is what was produced; its failure, if there is one, is recorded.
func (w *Working) made(l []api.Update, t api.Time, why api.Errno) []api.Update {
	if why != api.OK {
		w.fail(t)
	}
	return l
}

// arrange returns updates with keys, or none, and a failure, if there are no such keys.
func (w *Working) arrange(cols []int, l []api.Update) []api.Update {
	arranged, why := linear.Arrange(cols, l)
	if why != api.OK {
		w.failAll(l)
	}
	return arranged
}

// byRow is updates with their rows as keys.
func byRow(l []api.Update) []api.Update {
	var arranged []api.Update
	for _, u := range l {
		u.Key = u.Row
		arranged = append(arranged, u)
	}
	return arranged
}

func (w *Working) join(node, port int, l []api.Update) []api.Update {
	p, s := w.Nodes[node].Plan, &w.States[node]
	arranged := w.arrange([2][]int{p.Cols, p.With}[port], l)
	left, right, l, t, why := join.Step(s.Left, s.Right, port, arranged)
	s.Left, s.Right = left, right
	return w.made(l, t, why)
}

// group returns what the groups of updates, which are arranged, produce.
func (w *Working) group(node int, l, arranged []api.Update) []api.Update {
	s := &w.States[node]
	left, made, t, why := group.Step(w.Nodes[node].Plan, s.Left, arranged)
	if why == api.ErrForm {
		w.failAll(l)
		return nil
	}
	s.Left = left
	return w.made(made, t, why)
}

// loop passes on what begins a loop, at port 0, or its next round, at port 1: all of it to where the loop is left, and back into the loop what is not of the last round.
func (w *Working) loop(n *api.Node, port int, l []api.Update) {
	if port == 0 {
		l = w.made(linear.Enter(n.Loop, n.Rounds, l))
	} else {
		l = w.next(n, l)
	}
	w.pass(n.To, l)
	var again []api.Update
	for _, u := range l {
		if u.Time.Loop[n.Loop] < uint64(n.Rounds) {
			again = append(again, u)
		}
	}
	w.pass(n.Back, again)
}

func (w *Working) next(n *api.Node, l []api.Update) []api.Update {
	made, why := linear.Next(n.Loop, n.Rounds, l)
	if why != api.OK {
		w.failAll(l)
	}
	return made
}

// leave returns what leaves a loop, and keeps what is of its last round.
func (w *Working) leave(node int, l []api.Update) []api.Update {
	n := &w.Nodes[node]
	var last []api.Update
	for _, u := range l {
		if u.Time.Loop[n.Loop] == uint64(n.Rounds) {
			u.Time.Loop[n.Loop] = 0
			last = append(last, u)
		}
	}
	w.insert(node, last, l)
	return w.made(linear.Leave(n.Loop, l))
}

// insert puts updates, which are of those that were taken, into the Left of a node.
func (w *Working) insert(node int, l, taken []api.Update) {
	s, why := spine.Insert(w.States[node].Left, l)
	if why != api.OK {
		w.failAll(taken)
	}
	w.States[node].Left = s
}
