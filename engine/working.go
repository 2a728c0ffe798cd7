package engine

import (
	"slices"

	"freshet/api"
	"freshet/copies"
	"freshet/flow"
	"freshet/front"
	"freshet/input"
)

// working is an engine that is being changed; all its lists are its own. What cannot be done leaves it as it was.
type working struct {
	api.Engine
}

// begin returns a working copy of an engine, or ErrState if it is not valid.
func begin(e api.Engine) (working, api.Errno) {
	if why := Check(e); why != api.OK {
		return working{}, why
	}
	return working{Engine: copies.Engine(e)}, api.OK
}

// Start returns an engine of a base. Its queries have progressed as far as they had when their Done was marked.
func Start(b api.Base) (api.Engine, api.Errno) {
	if why := input.Check(b); why != api.OK {
		return api.Engine{}, why
	}
	w := working{Engine: api.Engine{Base: copies.Base(b)}}
	for _, q := range w.Base.Queries {
		w.Flows = append(w.Flows, w.start(q))
	}
	return w.Engine, api.OK
}

// start returns a flow of a query that has worked off all that is ahead of its Done.
func (w *working) start(q api.Query) api.Flow {
	f, _ := flow.New(q.Plan, w.Base.Schemas)
	f = w.feed(f, func(u api.Update) bool { return u.Time.Epoch < q.Done })
	f, _, _ = front.Settle(f)
	f, _ = flow.Compact(f, w.Base.Since)
	return w.feed(f, func(u api.Update) bool { return u.Time.Epoch >= q.Done })
}

// feed returns a flow to which those updates of the sources were pushed that which picks.
func (w *working) feed(f api.Flow, which func(api.Update) bool) api.Flow {
	for i, l := range w.Base.Sources {
		var some []api.Update
		for _, u := range l {
			if which(u) {
				some = append(some, u)
			}
		}
		f, _ = flow.Push(f, i, some)
	}
	return f
}

// Do applies a record to the base, and has the flows follow.
func Do(e api.Engine, r api.Record) (api.Engine, api.Errno) {
	w, why := begin(e)
	if why == api.OK {
		why = w.do(r)
	}
	return w.Engine, why
}

func (w *working) do(r api.Record) api.Errno {
	b, why := input.Apply(w.Base, r)
	if why != api.OK {
		return why
	}
	if w.early(r) {
		return api.ErrEarly
	}
	before := w.Base
	w.Base = b
	switch r.Kind {
	case api.RecordPut:
		w.flows(func(f api.Flow) (api.Flow, api.Errno) { return flow.Push(f, r.Source, r.List) })
	case api.RecordInstall:
		i, _ := input.FindQuery(b, r.Name)
		w.Flows = slices.Insert(w.Flows, i, w.install(r.Plan))
	case api.RecordDrop:
		i, _ := input.FindQuery(before, r.Name)
		w.Flows = slices.Delete(w.Flows, i, i+1)
	case api.RecordHold:
		w.flows(func(f api.Flow) (api.Flow, api.Errno) { return flow.Compact(f, r.Epoch) })
	}
	return api.OK
}

// early reports whether the flows are not yet as far as a record says, or needs.
func (w *working) early(r api.Record) bool {
	switch r.Kind {
	case api.RecordMark:
		f, _ := find(w.Engine, r.Name)
		_, epoch, _ := front.Done(*f, w.Base.Closed)
		return r.Epoch > epoch
	case api.RecordHold:
		return slices.ContainsFunc(w.Flows, func(f api.Flow) bool {
			epoch, waits, _ := flow.Low(f)
			return waits && epoch < r.Epoch
		})
	}
	return false
}

// flows changes each flow. With an error, which says that a flow made by hand cannot be changed so, the flow that is returned is as it was.
func (w *working) flows(change func(api.Flow) (api.Flow, api.Errno)) {
	for i, f := range w.Flows {
		w.Flows[i], _ = change(f)
	}
}

// install returns a flow of a plan at which all updates wait.
func (w *working) install(p api.Plan) api.Flow {
	f, _ := flow.New(p, w.Base.Schemas)
	return w.feed(f, func(api.Update) bool { return true })
}

// Pick runs a node of the flow of a query.
func Pick(e api.Engine, query string, node int) (api.Engine, api.Errno) {
	w, why := begin(e)
	if why != api.OK {
		return w.Engine, why
	}
	f, why := find(w.Engine, query)
	if why == api.OK {
		*f, why = flow.Run(*f, node)
	}
	return w.Engine, why
}

// Work has each flow work.
func Work(e api.Engine, fuel int) (api.Engine, api.Errno) {
	w, why := begin(e)
	if why == api.OK {
		w.flows(func(f api.Flow) (api.Flow, api.Errno) { return flow.Work(f, fuel) })
	}
	return w.Engine, why
}
