package spine

import (
	"iter"
	"math"
	"slices"

	"freshet/api"
	"freshet/batch"
	"freshet/copies"
)

// working is a spine that is being changed; all its lists are its own.
type working struct {
	api.Spine
}

// Insert puts the batch of all updates of the lists into a spine.
func Insert(s api.Spine, lists ...[]api.Update) (api.Spine, api.Errno) {
	if why := Check(s); why != api.OK {
		return api.Spine{}, why
	}
	w := working{Spine: copies.Spine(s)}
	b, why := batch.Build(w.Since, lists...)
	if why == api.OK {
		why = w.put(b)
	}
	if why != api.OK {
		return copies.Spine(s), why
	}
	return w.Spine, api.OK
}

// Work has the mergers work, that of the smallest class first, and returns what that cost.
func Work(s api.Spine, fuel int) (api.Spine, int, api.Errno) {
	if why := Check(s); why != api.OK {
		return api.Spine{}, 0, why
	}
	w := working{Spine: copies.Spine(s)}
	cost, why := w.work(fuel)
	if why != api.OK {
		return copies.Spine(s), 0, why
	}
	return w.Spine, cost, api.OK
}

// busy yields the levels that are Busy, from the last one on. The level that it yielded last may be removed meanwhile, as those that are still to come are in front of it.
func (w *working) busy() iter.Seq2[int, api.Merger] {
	return func(yield func(int, api.Merger) bool) {
		for i, l := range slices.Backward(w.Levels) {
			if l.Busy && !yield(i, l.Merger) {
				return
			}
		}
	}
}

func (w *working) work(fuel int) (int, api.Errno) {
	cost := 0
	var done []api.Batch
	for i, m := range w.busy() {
		if cost >= fuel {
			break
		}
		m, n, why := batch.Work(m, fuel-cost)
		if why != api.OK {
			return 0, why
		}
		cost += n
		if left(m) {
			w.Levels[i].Merger = m
			continue
		}
		done = append(done, w.end(i, m))
	}
	// Only now: what is put in may complete mergers whose turn would still come.
	for _, b := range done {
		if why := w.put(b); why != api.OK {
			return 0, why
		}
	}
	return cost, api.OK
}

// end removes the level i, whose merger is finished, and returns what became of it.
func (w *working) end(i int, m api.Merger) api.Batch {
	w.Levels = slices.Delete(w.Levels, i, i+1)
	b, _ := batch.End(m)
	return b
}

// put puts a batch into the spine. If the level of its class is Busy, there is one such level fewer afterwards, so that this comes to an end.
func (w *working) put(b api.Batch) api.Errno {
	c := class(b.Updates)
	if c == 0 {
		return api.OK
	}
	i := slices.IndexFunc(w.Levels, func(l api.Level) bool { return l.Class <= c })
	if i < 0 {
		i = len(w.Levels)
	}
	if i == len(w.Levels) || w.Levels[i].Class < c {
		w.Levels = slices.Insert(w.Levels, i, api.Level{Class: c, Batch: b})
		return api.OK
	}
	if l := w.Levels[i]; !l.Busy {
		// Both are valid, and of no later Since than the spine.
		m, _ := batch.Start(w.Since, l.Batch, b)
		w.Levels[i] = api.Level{Class: c, Busy: true, Merger: m}
		return api.OK
	}
	m, _, why := batch.Work(w.Levels[i].Merger, math.MaxInt)
	if why != api.OK {
		return why
	}
	merged := w.end(i, m)
	if why := w.put(b); why != api.OK {
		return why
	}
	return w.put(merged)
}
