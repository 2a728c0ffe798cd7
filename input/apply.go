package input

import (
	"slices"

	"freshet/api"
	"freshet/copies"
	"freshet/diff"
	"freshet/plan"
)

// working is a base that is being changed; all its lists are its own. What cannot be done leaves it as it was.
type working struct {
	api.Base
}

// Apply returns the base after applying a record; with an error of the record, a copy of the base.
func Apply(b api.Base, r api.Record) (api.Base, api.Errno) {
	if why := Check(b); why != api.OK {
		return api.Base{}, why
	}
	w := working{Base: copies.Base(b)}
	why := w.apply(r)
	return w.Base, why
}

func (w *working) apply(r api.Record) api.Errno {
	switch {
	case !plain(r):
		return api.ErrForm
	case r.Kind == api.RecordSchemas:
		return w.begin(r)
	case len(w.Schemas) == 0:
		return api.ErrState
	}
	switch r.Kind {
	case api.RecordPut:
		return w.put(r)
	case api.RecordClose:
		return w.closeBelow(r)
	case api.RecordInstall:
		return w.install(r)
	case api.RecordDrop:
		return w.drop(r)
	case api.RecordMark:
		return w.mark(r)
	case api.RecordSub:
		return w.subscribe(r)
	case api.RecordAck:
		return w.acknowledge(r)
	case api.RecordLeave:
		return w.leave(r)
	}
	return w.hold(r)
}

// plain reports whether a record is of one of the kinds, and has nothing but what its kind uses.
func plain(r api.Record) bool {
	// What a kind uses is taken from the record; then nothing must be left.
	switch r.Kind {
	case api.RecordSchemas:
		r.Schemas = nil
	case api.RecordPut:
		r.Source, r.List = 0, nil
	case api.RecordInstall:
		r.Plan = api.Plan{}
		fallthrough
	case api.RecordDrop, api.RecordLeave:
		r.Name = ""
	case api.RecordSub:
		r.Query = ""
		fallthrough
	case api.RecordMark, api.RecordAck:
		r.Name = ""
		fallthrough
	case api.RecordClose, api.RecordHold:
		r.Epoch = 0
	default:
		return false
	}
	return len(r.Schemas) == 0 && r.Source == 0 && len(r.List) == 0 && r.Name == "" && r.Query == "" && noPlan(r.Plan) && r.Epoch == 0
}

func noPlan(p api.Plan) bool {
	return p.Kind == api.PlanNone && p.N == 0 && len(p.Kids) == 0 && len(p.Exprs) == 0 && len(p.Cols) == 0 && len(p.With) == 0 && p.Agg == api.AggNone && p.Rounds == 0
}

// begin has the sources begin.
func (w *working) begin(r api.Record) api.Errno {
	if len(w.Schemas) > 0 {
		return api.ErrState
	}
	if why := plan.CheckSchemas(r.Schemas); why != api.OK {
		return why
	}
	if len(r.Schemas) == 0 {
		return api.ErrForm
	}
	w.Schemas, w.Sources = copies.Schemas(r.Schemas), make([][]api.Update, len(r.Schemas))
	return api.OK
}

func (w *working) put(r api.Record) api.Errno {
	if r.Source < 0 || r.Source >= len(w.Sources) {
		return api.ErrRange
	}
	if len(r.List) > api.MaxList {
		return api.ErrLong
	}
	if why := diff.Check(r.List); why != api.OK {
		return why
	}
	late := func(u api.Update) bool { return u.Time.Epoch < w.Closed }
	switch {
	case slices.ContainsFunc(r.List, inner):
		return api.ErrForm
	case slices.ContainsFunc(r.List, late):
		return api.ErrLate
	case !typed(r.List, w.Schemas[r.Source]):
		return api.ErrType
	}
	all, why := diff.Consolidate(w.Sources[r.Source], r.List)
	if why == api.OK {
		w.Sources[r.Source] = all
	}
	return why
}

func (w *working) closeBelow(r api.Record) api.Errno {
	if r.Epoch <= w.Closed {
		return api.ErrLate
	}
	if r.Epoch > api.MaxNumber {
		return api.ErrRange
	}
	w.Closed = r.Epoch
	return api.OK
}

func (w *working) hold(r api.Record) api.Errno {
	if r.Epoch < w.Since {
		return api.ErrPast
	}
	missed := func(s api.Sub) bool { return r.Epoch > s.Next || s.Begun && r.Epoch == s.Next }
	if r.Epoch > w.Closed || slices.ContainsFunc(w.Subs, missed) {
		return api.ErrRange
	}
	var sources [][]api.Update
	for _, l := range w.Sources {
		held, why := advance(l, r.Epoch)
		if why != api.OK {
			return why
		}
		sources = append(sources, held)
	}
	w.Sources, w.Since = sources, r.Epoch
	return api.OK
}

// advance returns updates of which those of an earlier epoch are of the given one.
func advance(l []api.Update, epoch uint64) ([]api.Update, api.Errno) {
	l = slices.Clone(l)
	for i, u := range l {
		l[i].Time.Epoch = max(u.Time.Epoch, epoch)
	}
	return diff.Consolidate(l)
}
