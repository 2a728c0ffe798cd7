package world_test

import (
	"slices"
	"testing"

	"freshet/api"
	"freshet/diff"
	"freshet/engine"
	"freshet/graph"
	"freshet/input"
	"freshet/mean"
	"freshet/world"
)

// chance is numbers that look like chance, the same ones each time.
type chance uint64

func (c *chance) below(n int) int {
	*c ^= *c << 13
	*c ^= *c >> 7
	*c ^= *c << 17
	return int(uint64(*c) >> 16 % uint64(n))
}

// any1 is one of several.
func any1[T any](c *chance, l ...T) T {
	return l[c.below(len(l))]
}

// anyPlan is a plan of two sources of a number each, within so many loops, whose rows have one number.
func anyPlan(c *chance, depth, loops int) api.Plan {
	if depth == 1 || c.below(9) == 0 {
		if n := c.below(loops + 1); n < loops {
			return variable(n)
		}
		return source(c.below(2))
	}
	sub := func() api.Plan { return anyPlan(c, depth-1, loops) }
	switch k := c.below(10); {
	case k == 0:
		return negate(sub())
	case k == 1:
		return next(sub())
	case k == 2 || k == 3:
		return concat(sub(), sub())
	case k == 4:
		return mapped(joined(sub(), sub(), []int{0}, []int{0}), col(1))
	case k == 5:
		return any1(c, tally(sub()), reduce(sub(), api.AggTop, 2), reduce(sub(), api.AggMin, 0), reduce(sub(), api.AggSum, 0))
	case k == 6 || loops == 2:
		return distinct(sub())
	}
	// Mostly what comes to an end.
	p := iterate(2+c.below(6), sub(), anyPlan(c, depth-1, loops+1))
	if c.below(3) > 0 {
		p.Kids[1] = distinct(concat(sub(), next(variable(0))))
		p.Kids[0] = distinct(p.Kids[0])
	}
	return p
}

// story is a world, and what it has accepted and answered.
type story struct {
	*testing.T
	chance
	world   api.World
	records []api.Record                 // that were accepted
	bases   []api.Base                   // a zero one, and the one after each of these
	sure    int                          // how many records last, at least
	told    map[string]map[uint64]string // of each plan, what it answered at a closed epoch
	free    bool                         // queries and subscribers come and go all the time
	counts  [8]int                       // of answers, of failures, of what was heard, acks, falls, falls within steps, records that were lost, queries that were swept to the end
}

func newStory(t *testing.T, c chance, free bool) *story {
	return &story{T: t, chance: c, world: world.New(1 << 20), bases: make([]api.Base, 1), told: map[string]map[uint64]string{}, free: free}
}

// do does a step, and follows what becomes of records.
func (s *story) do(step api.WorldStep) api.Errno {
	s.Helper()
	before := s.world
	got, why := world.Do(before, step)
	if why != api.OK && why != api.ErrPower && why != api.ErrFull && step.Kind != api.WorldRise && plain(got) != plain(before) {
		s.Fatalf("%s: error %d, but the world was changed", brief(step), why)
	}
	s.world = got
	r := step.Record
	if step.Kind == api.WorldAck && before.Up {
		for _, x := range before.Server.Engine.Base.Subs {
			if x.Name == step.Name {
				r = named(api.RecordAck, x.Name, x.Next)
			}
		}
	}
	if step.Kind == api.WorldRecord || step.Kind == api.WorldAck {
		s.follow(r, before.Up, why)
	}
	if why == api.OK && (step.Kind == api.WorldSync || step.Kind == api.WorldCheckpoint) {
		s.sure = len(s.records)
	}
	if before.Up && !got.Up && why == api.ErrPower {
		s.counts[5]++
	}
	if why == api.OK && step.Kind == api.WorldRise {
		s.find()
	}
	return why
}

// follow adds a record that was accepted, or in which the power failed: then it may be kept.
func (s *story) follow(r api.Record, up bool, why api.Errno) {
	b, no := input.Apply(s.bases[len(s.bases)-1], r)
	switch {
	case why == api.OK:
		if no != api.OK {
			s.Fatalf("%s was accepted, error %d", brief(r), no)
		}
	case why != api.ErrPower || !up || no != api.OK:
		return
	}
	s.records, s.bases = append(s.records, r), append(s.bases, b)
}

// unmarked tells all of a base but its marks.
func unmarked(b api.Base) string {
	b.Queries = slices.Clone(b.Queries)
	for i := range b.Queries {
		b.Queries[i].Done = 0
	}
	return plain(b)
}

// find finds, after a rise, which records are left.
func (s *story) find() {
	left := unmarked(s.world.Server.Engine.Base)
	n := len(s.records)
	for n >= s.sure && unmarked(s.bases[n]) != left {
		n--
	}
	if n < s.sure {
		s.Fatalf("after a rise, the base is %s", left)
	}
	s.counts[6] += len(s.records) - n
	s.records, s.bases, s.sure = s.records[:n:n], s.bases[:n+1:n+1], n
	s.bases[n] = s.world.Server.Engine.Base // for its marks
	// What was closed, and is not any more, may change.
	for _, told := range s.told {
		for e := range told {
			if e >= s.bases[n].Closed {
				delete(told, e)
			}
		}
	}
}

// contents is what was put into the sources up to an epoch, whatever was held since.
func (s *story) contents(epoch uint64) [][]api.Count {
	all := make([][]api.Update, 2)
	for _, r := range s.records {
		if r.Kind == api.RecordPut {
			all[r.Source] = append(all[r.Source], r.List...)
		}
	}
	var l [][]api.Count
	for _, updates := range all {
		there, why := diff.At(updates, api.Time{Epoch: epoch})
		if why != api.OK {
			s.Fatal(why)
		}
		l = append(l, there)
	}
	return l
}

// result is what a plan comes to at an epoch.
func (s *story) result(p api.Plan, epoch uint64) ([]api.Count, api.Errno) {
	return mean.Of(p, s.contents(epoch), s.bases[len(s.bases)-1].Schemas)
}

// step does something.
func (s *story) step() {
	b := s.world.Server.Engine.Base
	query, sub := any1(&s.chance, "p", "q", "r"), any1(&s.chance, "x", "y", "z")
	if !s.world.Up {
		if s.below(3) == 0 {
			s.do(any1(&s.chance, hear(sub), record(epoch(api.RecordClose, 1)), just(api.WorldFall, 0), api.WorldStep{}))
		}
		s.rise()
		return
	}
	switch k := s.below(32); {
	case k < 5:
		var l []api.Update
		for range s.below(4) {
			l = append(l, up(b.Closed+uint64(s.below(3)), any1[int64](&s.chance, 1, 1, 2, -1), s.below(4)))
		}
		s.do(record(put(s.below(2), l...)))
	case k < 8:
		s.do(record(epoch(api.RecordClose, b.Closed+1)))
	case k == 8:
		s.do(record(named(api.RecordMark, query, uint64(s.below(9)))))
	case k == 9 && s.below(3) == 0:
		s.do(record(epoch(api.RecordHold, b.Since+uint64(s.below(3)))))
	case k < 15:
		s.do(hear(sub))
	case k < 18:
		if s.do(ack(sub)) == api.OK {
			s.counts[3]++
		}
	case k < 22:
		for range 1 + s.below(5) {
			s.do(about(api.WorldSweep, query))
		}
	case k < 24:
		s.do(pick(query, s.below(9)))
	case k == 24:
		s.do(just(api.WorldWork, s.below(9)))
	case k == 25:
		s.do(just(api.WorldSync, 0))
	case k == 26:
		s.do(just(api.WorldCheckpoint, 0))
	case k == 27:
		s.do(just(api.WorldFuse, s.below(40)-20))
	case k == 28 && s.below(2) == 0:
		s.do(just(api.WorldFall, 0))
	case k == 29:
		s.sweep(query)
	case s.free && s.below(2) == 0:
		s.comeAndGo(query, sub)
	}
}

// rise has the power come again.
func (s *story) rise() {
	s.counts[4]++
	n := len(s.world.Server.Disk.Waits)
	if why := s.do(rise(s.below(n+2), s.below(80)-10)); why != api.OK {
		s.Fatalf("rise: error %d", why)
	}
}

// comeAndGo adds or removes a query or a subscriber.
func (s *story) comeAndGo(query, sub string) {
	b := s.world.Server.Engine.Base
	s.do(record(any1(&s.chance, install(query, anyPlan(&s.chance, 2+s.below(4), 0)), subscribe(sub, query, b.Since+uint64(s.below(4))), subscribe(sub, query, b.Closed), named(api.RecordDrop, query, 0), named(api.RecordLeave, sub, 0))))
}

// sweep sweeps a query as often as its bound says, and once more.
func (s *story) sweep(query string) {
	i, found := input.FindQuery(s.world.Server.Engine.Base, query)
	if !found {
		return
	}
	n := graph.Bound(s.world.Server.Engine.Flows[i].Nodes) + 1
	for range n {
		if why := s.do(about(api.WorldSweep, query)); why != api.OK {
			s.Fatalf("%s: error %d", query, why)
		}
		if !waits(s.T, s.world, i) {
			break // all others do nothing
		}
	}
	end, failed, why := engine.Done(s.world.Server.Engine, query)
	if why != api.OK || end != s.world.Server.Engine.Base.Closed && !failed {
		s.Fatalf("%s: after %d sweeps the progress is %d, error %d", query, n, end, why)
	}
	s.counts[7]++
}

// look holds what the world answers against what was put into it.
func (s *story) look() {
	if why := world.Check(s.world); why != api.OK {
		s.Fatalf("not valid: error %d", why)
	}
	s.clients()
	if !s.world.Up || s.below(3) > 0 {
		return
	}
	e := s.world.Server.Engine
	if unmarked(e.Base) != unmarked(s.bases[len(s.bases)-1]) {
		s.Fatalf("the base is %s", brief(e.Base))
	}
	for i, q := range e.Base.Queries {
		end, failed, why := engine.Done(e, q.Name)
		if why != api.OK || end > e.Base.Closed {
			s.Fatalf("%s: progress %d, error %d", q.Name, end, why)
		}
		if e.Flows[i].Failed {
			continue // a number did not fit
		}
		for n := range e.Base.Closed + 1 {
			s.peek(q, n, end, failed)
		}
	}
}

// peek holds that a query answers what its plan comes to, at the epochs up to which it has progressed.
func (s *story) peek(q api.Query, n, end uint64, failed bool) {
	e := s.world.Server.Engine
	got, why := engine.Peek(e, q.Name, n)
	switch {
	case n < e.Base.Since:
		if why != api.ErrPast {
			s.Fatalf("%s at %d: error %d", q.Name, n, why)
		}
		return
	case n >= end:
		if why != api.ErrEarly && (!failed || why != api.ErrFailed) {
			s.Fatalf("%s at %d, progress %d: error %d", q.Name, n, end, why)
		}
		if failed && n == end {
			s.counts[1]++
			if _, no := s.result(q.Plan, n); no != api.ErrFix {
				s.Fatalf("%s failed at %d, but its plan has the error %d", q.Name, n, no)
			}
		}
		return
	}
	told := s.told[plain(q.Plan)]
	if told == nil {
		told = map[uint64]string{}
		s.told[plain(q.Plan)] = told
	}
	if _, found := told[n]; !found {
		want, no := s.result(q.Plan, n)
		if no != api.OK {
			s.Fatalf("%s at %d: the plan has the error %d", q.Name, n, no)
		}
		told[n] = plain(want)
	}
	if why != api.OK || plain(got) != told[n] {
		s.Fatalf("%s, %s at %d: %s, error %d; want %s", q.Name, brief(q.Plan), n, plain(got), why, told[n])
	}
	s.counts[0]++
}

// clients holds that each client fits its subscriber, and, if none comes and goes, that it has heard about each epoch once.
func (s *story) clients() {
	b := s.bases[len(s.bases)-1]
	for _, c := range s.world.Clients {
		i, found := input.FindSub(b, c.Name)
		if !s.world.Up {
			continue
		}
		if !found {
			s.Fatalf("%s is a client, but no subscriber", c.Name)
		}
		x := b.Subs[i]
		if x.Next < c.First || x.Next > c.First+uint64(len(c.Heard)) {
			s.Fatalf("%s has heard about %d epochs from %d on, but is at %d", c.Name, len(c.Heard), c.First, x.Next)
		}
		if !s.free {
			s.heard(c, x)
		}
	}
}

// heard holds what a client has heard against the plan: what it comes to at its first epoch, and how that changes.
func (s *story) heard(c api.Client, x api.Sub) {
	i, _ := input.FindQuery(s.bases[len(s.bases)-1], x.Query)
	p := s.bases[len(s.bases)-1].Queries[i].Plan
	var all []api.Count
	for i, l := range c.Heard {
		n := c.First + uint64(i)
		want, why := s.result(p, n)
		if why != api.OK {
			s.Fatalf("%s has heard about %d, error %d", c.Name, n, why)
		}
		if all, why = diff.Merge(all, l); why != api.OK || plain(all) != plain(want) {
			s.Fatalf("%s has heard %s in all up to %d, want %s", c.Name, plain(all), n, plain(want))
		}
		s.counts[2]++
	}
}

// run runs stories of so many steps, and adds up what they count.
func run(t *testing.T, c chance, stories, steps int, free bool) [8]int {
	t.Helper()
	var counts [8]int
	for range stories {
		s := newStory(t, c, free)
		s.do(record(schemas([]api.Type{number}, []api.Type{number})))
		for i, query := range []string{"p", "q", "r"} {
			s.do(record(install(query, anyPlan(&s.chance, 2+s.below(4), 0))))
			s.do(record(subscribe([]string{"x", "y", "z"}[i], query, uint64(s.below(3)))))
		}
		s.do(just(api.WorldSync, 0))
		for range steps {
			s.step()
			s.look()
		}
		for i, n := range s.counts {
			counts[i] += n
		}
		c = s.chance
	}
	return counts
}

func wantCounts(t *testing.T, counts [8]int, least ...int) {
	t.Helper()
	for i, n := range counts {
		if n < least[i] {
			t.Errorf("only %d of what is counted as %d", n, i)
		}
	}
}

// 20.4 to 20.6, P5 to P10: many worlds in which anything happens, but that queries and subscribers come and go.
func TestStories(t *testing.T) {
	counts := run(t, 20, 25, 150, false)
	t.Log(counts)
	wantCounts(t, counts, 5000, 100, 3000, 50, 50, 10, 20, 50)
}

// 20.4, 20.6: also while queries and subscribers come and go.
func TestFreeStories(t *testing.T) {
	counts := run(t, 21, 25, 150, true)
	t.Log(counts)
	wantCounts(t, counts, 5000, 50, 0, 20, 50, 10, 20, 50)
}
