package input

import (
	"iter"

	"freshet/api"
	"freshet/copies"
)

// Make returns records that produce a base when they are applied, one after the other, to a zero base.
func Make(b api.Base) ([]api.Record, api.Errno) {
	if why := Check(b); why != api.OK || len(b.Schemas) == 0 {
		return nil, why
	}
	l := []api.Record{{Kind: api.RecordSchemas, Schemas: copies.Schemas(b.Schemas)}}
	for i, updates := range b.Sources {
		for some := range divided(updates) {
			l = append(l, api.Record{Kind: api.RecordPut, Source: i, List: copies.Updates(some)})
		}
	}
	l = append(l, reached(api.RecordClose, "", b.Closed)...)
	for _, q := range b.Queries {
		q.Plan = copies.Plan(q.Plan)
		l = append(l, install(q))
		l = append(l, reached(api.RecordMark, q.Name, q.Done)...)
	}
	l = append(l, reached(api.RecordHold, "", b.Since)...)
	for _, s := range b.Subs {
		l = append(l, subscribed(s)...)
	}
	return l, api.OK
}

// divided yields the updates of a list, as many at a time as a record has at most.
func divided(l []api.Update) iter.Seq[[]api.Update] {
	return func(yield func([]api.Update) bool) {
		for len(l) > 0 {
			n := min(len(l), api.MaxList)
			if !yield(l[:n]) {
				return
			}
			l = l[n:]
		}
	}
}

// reached is the record that an epoch was reached, or none if it is the first one, which is so from the start.
func reached(kind api.RecordKind, name string, epoch uint64) []api.Record {
	if epoch == 0 {
		return nil
	}
	return []api.Record{{Kind: kind, Name: name, Epoch: epoch}}
}

// subscribed is the records that add a subscriber.
func subscribed(s api.Sub) []api.Record {
	r := api.Record{Kind: api.RecordSub, Name: s.Name, Query: s.Query, Epoch: s.Next}
	if !s.Begun {
		return []api.Record{r}
	}
	r.Epoch--
	return []api.Record{r, {Kind: api.RecordAck, Name: s.Name, Epoch: r.Epoch}}
}
