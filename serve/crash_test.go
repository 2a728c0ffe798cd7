package serve_test

import (
	"fmt"
	"slices"
	"testing"

	"freshet/api"
	"freshet/disk"
	"freshet/engine"
	"freshet/input"
	"freshet/serve"
)

// chance is numbers that look like chance, the same ones each time.
type chance uint64

func (c *chance) below(n int) int {
	*c ^= *c << 13
	*c ^= *c >> 7
	*c ^= *c << 17
	return int(uint64(*c) >> 16 % uint64(n))
}

// any1 is one of several.
func any1[T any](c *chance, l ...T) T {
	return l[c.below(len(l))]
}

// unmarked tells all of a base but its marks.
func unmarked(b api.Base) string {
	b.Queries = slices.Clone(b.Queries)
	for i := range b.Queries {
		b.Queries[i].Done = 0
	}
	return plain(b)
}

// past is what a server has accepted.
type past struct {
	bases []api.Base // a zero one, and the one after each record
	sure  int        // the one of these that lasts, at least
}

func begun() past { return past{bases: make([]api.Base, 1)} }

// accept adds a record that was accepted, or that may have been.
func (p *past) accept(r api.Record) {
	if b, why := input.Apply(p.bases[len(p.bases)-1], r); why == api.OK {
		p.bases = append(p.bases, b)
	}
}

// find returns the last of the bases that may be left that is the given one, or false if there is none.
func (p *past) find(b api.Base) (int, bool) {
	told := unmarked(b)
	for i := len(p.bases) - 1; i >= p.sure; i-- {
		if unmarked(p.bases[i]) == told {
			return i, true
		}
	}
	return 0, false
}

// step is a record, or something else that is done to a server.
type step struct {
	name   string
	record api.Record
	do     func(s api.Server) (api.Server, api.Errno)
}

func script(t *testing.T) []step {
	var l []step
	add := func(name string, do func(s api.Server) (api.Server, api.Errno)) {
		l = append(l, step{name: name, do: do})
	}
	run := func(s api.Server) (api.Server, api.Errno) {
		s.Engine = settle(t, s.Engine)
		return s, api.OK
	}
	for i, r := range several() {
		switch i {
		case 4, 13:
			add("sync", serve.Sync)
		case 7, 11, 17:
			add("checkpoint", serve.Checkpoint)
		case 15:
			add("run", run)
		}
		l = append(l, step{name: "record", record: r, do: func(s api.Server) (api.Server, api.Errno) { return serve.Do(s, r) }})
	}
	add("run", run)
	add("checkpoint", serve.Checkpoint)
	add("checkpoint", serve.Checkpoint)
	return l
}

// play does what a script says, until the power fails, or to its end, and returns the server's disk then.
func play(t *testing.T, d api.Disk, l []step) (api.Disk, past) {
	t.Helper()
	p := begun()
	s, why := serve.Start(d)
	for i, x := range l {
		if why != api.OK {
			t.Fatalf("step %d: error %d", i, why)
		}
		s, why = x.do(s)
		if x.name == "record" {
			p.accept(x.record)
		}
		if why == api.ErrPower {
			return s.Disk, p
		}
		if x.name == "sync" || x.name == "checkpoint" {
			p.sure = len(p.bases) - 1
		}
	}
	return s.Disk, p
}

// crashed is all that crashes may leave of a disk: of what each write appends, nothing, a part or all of it.
func crashed(t *testing.T, d api.Disk) []api.Disk {
	t.Helper()
	var l []api.Disk
	for keep := range len(d.Waits) + 1 {
		tears := []int{0}
		if keep < len(d.Waits) {
			n := len(d.Waits[keep].Data)
			tears = []int{0, 1, n / 2, n - 1, n}
		}
		for _, tear := range tears {
			got, why := disk.Crash(d, keep, tear)
			if why != api.OK {
				t.Fatal(why)
			}
			l = append(l, got)
		}
	}
	return l
}

// 19.6: wherever the power fails, and again within a start, the base is that of a prefix of all records, with all those that were synced.
func TestLasts(t *testing.T) {
	l := script(t)
	left, again := map[int]bool{}, 0
	var rise func(d api.Disk, p past, fuses int)
	rise = func(d api.Disk, p past, fuses int) {
		for fuse := range fuses + 1 {
			d.Fuse = fuse
			if fuse == fuses {
				d.Fuse = -1
			}
			s, why := serve.Start(d)
			if why == api.ErrPower {
				again++
				for _, x := range crashed(t, s.Disk) {
					rise(x, p, 0)
				}
				continue
			}
			i, found := p.find(s.Engine.Base)
			if why != api.OK || !found {
				t.Fatalf("started again, error %d, the base is %s", why, brief(s.Engine.Base))
			}
			left[i] = true
			// What was left lasts.
			p := p
			p.sure, p.bases = i, p.bases[:i+1]
			if d, _ := disk.Crash(s.Disk, 0, 0); fuses > 0 {
				rise(d, p, 0)
			}
		}
	}
	played := 0
	for fuse := 0; ; fuse++ {
		d := with()
		d.Fuse = fuse
		d, p := play(t, d, l)
		if !d.Down {
			break
		}
		played++
		for _, x := range crashed(t, d) {
			rise(x, p, 5)
		}
	}
	for n := range len(l) + 1 {
		d, p := play(t, with(), l[:n])
		for _, x := range crashed(t, d) {
			rise(x, p, 5)
		}
	}
	if played < 30 || len(left) != len(several())+1 || again < 1000 {
		t.Errorf("the power failed at %d places, %d bases were left, and %d starts failed", played, len(left), again)
	}
}

// 19.6: the chapter's example.
func TestLastsExample(t *testing.T) {
	s := mustSync(t, do(t, start(t, with()), schemas([]api.Type{number}), epoch(api.RecordClose, 1)))
	s = do(t, s, epoch(api.RecordClose, 2))
	for keep, want := range []uint64{1, 2} {
		d, _ := disk.Crash(s.Disk, keep, 0)
		if got := start(t, d); got.Engine.Base.Closed != want {
			t.Errorf("%d writes are kept: closed is %d, want %d", keep, got.Engine.Base.Closed, want)
		}
	}
}

// mark is how far a query had come at a checkpoint, and what it answered.
type mark struct {
	end  uint64
	told map[uint64]string
}

// story is a server that goes on and on, whatever happens.
type story struct {
	*testing.T
	chance
	past
	server api.Server
	marks  map[string]mark
	number int
	counts [8]int // of records, refusals for room, syncs, checkpoints, falls, starts that failed, bases that lost something, answers below marks
}

// try has a server accept a record, unless it is wrong or there is no room.
func (s *story) try(r api.Record) {
	got, why := serve.Do(s.server, r)
	switch why {
	case api.OK:
		s.counts[0]++
		s.accept(r)
	case api.ErrPower:
		s.accept(r)
		s.fall(got.Disk)
		return
	case api.ErrFull:
		s.counts[1]++
		fallthrough
	default:
		if plain(got) != plain(s.server) {
			s.Fatalf("%s: error %d, but the server was changed", brief(r), why)
		}
	}
	s.server = got
}

// last does what makes all that was accepted last.
func (s *story) last(do func(api.Server) (api.Server, api.Errno)) bool {
	got, why := do(s.server)
	if why == api.ErrPower {
		s.fall(got.Disk)
		return false
	}
	if why == api.ErrFull {
		s.counts[1]++
		s.server = got
		return false
	}
	if why != api.OK {
		s.Fatalf("error %d", why)
	}
	s.server, s.sure = got, len(s.bases)-1
	return true
}

// fall has the power fail, and come again.
func (s *story) fall(d api.Disk) {
	for {
		s.counts[4]++
		keep, tear := s.below(len(d.Waits)+2), s.below(60)
		d, _ = disk.Crash(d, keep, tear)
		d.Fuse = any1(&s.chance, -1, 0, 1, 2, 3, 20)
		got, why := serve.Start(d)
		if why == api.OK {
			s.server = got
			break
		}
		s.counts[5]++
		if why != api.ErrPower && why != api.ErrFull || plain(got) != plain(only(got.Disk)) {
			s.Fatalf("started again: error %d", why)
		}
		d = got.Disk
		d.Room += 100
	}
	i, found := s.find(s.server.Engine.Base)
	if !found {
		s.Fatalf("started again, the base is %s; the last one was %s", brief(s.server.Engine.Base), brief(s.bases[len(s.bases)-1]))
	}
	if i < len(s.bases)-1 {
		s.counts[6]++
	}
	s.bases, s.sure = s.bases[:i+1], i
	s.look()
}

// look holds what the queries answer against what they did at the last checkpoint.
func (s *story) look() {
	e := s.server.Engine
	for _, q := range e.Base.Queries {
		m, found := s.marks[q.Name]
		if !found {
			continue
		}
		end, _, why := engine.Done(e, q.Name)
		if why != api.OK || end < m.end {
			s.Fatalf("%s had progressed to %d, and now to %d, error %d", q.Name, m.end, end, why)
		}
		for n := e.Base.Since; n < m.end; n++ {
			got, why := engine.Peek(e, q.Name, n)
			if told, found := m.told[n]; found && (why != api.OK || plain(got) != told) {
				s.Fatalf("%s at %d: %s, error %d; it was %s", q.Name, n, plain(got), why, told)
			}
			s.counts[7]++
		}
	}
}

// mark keeps how far the queries have come.
func (s *story) mark() {
	s.marks = map[string]mark{}
	e := s.server.Engine
	for _, q := range e.Base.Queries {
		m := mark{told: map[uint64]string{}}
		m.end, _, _ = engine.Done(e, q.Name)
		for n := range m.end {
			if l, why := engine.Peek(e, q.Name, n); why == api.OK {
				m.told[n] = plain(l)
			}
		}
		s.marks[q.Name] = m
	}
}

// step does something.
func (s *story) step() {
	b := s.server.Engine.Base
	query := "q"
	if len(b.Queries) > 0 {
		query = any1(&s.chance, b.Queries...).Name
	}
	sub := any1(&s.chance, "x", "y", "z")
	switch k := s.below(30); {
	case k < 6:
		var l []api.Update
		for range s.below(4) {
			l = append(l, up(b.Closed+uint64(s.below(3)), any1[int64](&s.chance, 1, 1, 2, -1), s.below(4)))
		}
		s.try(put(s.below(2), l...))
	case k < 10:
		s.try(epoch(api.RecordClose, b.Closed+1))
	case k == 10:
		// No name twice: a query is the same as that of its name at the checkpoint.
		s.number++
		loop := iterate(5, distinct(source(0)), distinct(concat(source(1), next(variable(0)))))
		s.try(install(fmt.Sprint("q", s.number), any1(&s.chance, source(0), tally(source(1)), joined(source(0), source(1), []int{0}, []int{0}), loop, iterate(2, source(0), negate(variable(0))))))
	case k == 11 && s.below(3) == 0:
		s.try(named(api.RecordDrop, query, 0))
	case k == 12:
		s.try(named(api.RecordMark, query, uint64(s.below(9))))
	case k == 13:
		s.try(subscribe(sub, query, b.Since+uint64(s.below(3))))
	case k == 14:
		for _, x := range b.Subs {
			if x.Name == sub && x.Next < b.Closed {
				s.try(named(api.RecordAck, sub, x.Next))
				break
			}
		}
	case k == 15 && s.below(4) == 0:
		s.try(named(api.RecordLeave, sub, 0))
	case k == 16 && s.below(3) == 0:
		s.try(epoch(api.RecordHold, b.Since+uint64(s.below(3))))
	case k < 22:
		s.run()
	case k < 24:
		if s.last(serve.Sync) {
			s.counts[2]++
		}
	case k == 24:
		if s.last(serve.Checkpoint) {
			s.counts[3]++
			s.mark()
		}
	case k == 25 && s.below(2) == 0:
		s.fall(s.server.Disk)
	case k == 26:
		s.server.Disk.Fuse = s.below(30) - 1
	case k == 27:
		s.server.Disk.Room += any1(&s.chance, -200, 100, 300)
	}
}

// run runs some nodes.
func (s *story) run() {
	e := s.server.Engine
	for i, q := range e.Base.Queries {
		for range s.below(9) {
			e, _ = engine.Pick(e, q.Name, s.below(len(e.Flows[i].Nodes)))
		}
	}
	s.server.Engine = e
}

// 19.6, 19.7, P7: many servers, to which anything happens.
func TestStories(t *testing.T) {
	c := chance(19)
	var counts [8]int
	for i := range 120 {
		s := &story{T: t, chance: c, past: begun(), server: start(t, with())}
		s.server.Disk.Room = any1(&c, 900, 2000, 1<<20)
		s.try(schemas([]api.Type{number}, []api.Type{number}))
		s.last(serve.Sync)
		for range 150 {
			s.step()
			if s.server.Disk.Room < 300 {
				s.server.Disk.Room = 600
			}
			if why := serve.Check(s.server); why != api.OK {
				t.Fatalf("story %d: not valid: error %d", i, why)
			}
			if last := s.bases[len(s.bases)-1]; unmarked(s.server.Engine.Base) != unmarked(last) {
				t.Fatalf("story %d: the base is %s, want %s", i, brief(s.server.Engine.Base), brief(last))
			}
		}
		for i, n := range s.counts {
			counts[i] += n
		}
		c = s.chance
	}
	for i, least := range []int{3000, 100, 300, 150, 300, 40, 100, 1000} {
		if counts[i] < least {
			t.Errorf("only %d of what is counted as %d", counts[i], i)
		}
	}
}
