package input

import (
	"slices"

	"freshet/api"
	"freshet/copies"
)

func (w *working) install(r api.Record) api.Errno {
	i, found := FindQuery(w.Base, r.Name)
	switch {
	case !isName(r.Name):
		return api.ErrForm
	case found:
		return api.ErrTwice
	case len(w.Queries) >= api.MaxQueries:
		return api.ErrFull
	}
	if why := installable(r, w.Schemas); why != api.OK {
		return why
	}
	w.Queries = slices.Insert(w.Queries, i, api.Query{Name: r.Name, Plan: copies.Plan(r.Plan)})
	return api.OK
}

func (w *working) drop(r api.Record) api.Errno {
	i, found := FindQuery(w.Base, r.Name)
	if !found {
		return api.ErrNone
	}
	w.Queries = slices.Delete(w.Queries, i, i+1)
	w.Subs = slices.DeleteFunc(w.Subs, func(s api.Sub) bool { return s.Query == r.Name })
	return api.OK
}

func (w *working) mark(r api.Record) api.Errno {
	i, found := FindQuery(w.Base, r.Name)
	if !found {
		return api.ErrNone
	}
	if r.Epoch < w.Queries[i].Done || r.Epoch > w.Closed {
		return api.ErrRange
	}
	w.Queries[i].Done = r.Epoch
	return api.OK
}

func (w *working) subscribe(r api.Record) api.Errno {
	i, found := FindSub(w.Base, r.Name)
	_, asked := FindQuery(w.Base, r.Query)
	switch {
	case !isName(r.Name):
		return api.ErrForm
	case found:
		return api.ErrTwice
	case len(w.Subs) >= api.MaxQueries:
		return api.ErrFull
	case !asked:
		return api.ErrNone
	case r.Epoch < w.Since:
		return api.ErrPast
	case r.Epoch > api.MaxNumber:
		return api.ErrRange
	}
	w.Subs = slices.Insert(w.Subs, i, api.Sub{Name: r.Name, Query: r.Query, Next: r.Epoch})
	return api.OK
}

func (w *working) acknowledge(r api.Record) api.Errno {
	i, found := FindSub(w.Base, r.Name)
	if !found {
		return api.ErrNone
	}
	s := &w.Subs[i]
	if r.Epoch != s.Next || r.Epoch == api.MaxNumber {
		return api.ErrRange
	}
	s.Next, s.Begun = s.Next+1, true
	return api.OK
}

func (w *working) leave(r api.Record) api.Errno {
	i, found := FindSub(w.Base, r.Name)
	if !found {
		return api.ErrNone
	}
	w.Subs = slices.Delete(w.Subs, i, i+1)
	return api.OK
}
