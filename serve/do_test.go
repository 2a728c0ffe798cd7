package serve_test

import (
	"fmt"
	"slices"
	"strings"
	"testing"

	"freshet/api"
	"freshet/disk"
	"freshet/engine"
	"freshet/input"
	"freshet/pack"
	"freshet/serve"
)

// wantDo holds what a record makes of a server: its frame behind the log, and the engine as engine.Do has it; or an error.
func wantDo(t *testing.T, name string, s api.Server, r api.Record, no api.Errno) {
	t.Helper()
	want := s
	e, why := engine.Do(s.Engine, r)
	if why == api.OK {
		var d api.Disk
		d, why = disk.Do(s.Disk, app(fmt.Sprint("log.", s.Gen), frames(r)))
		switch why {
		case api.OK:
			want.Disk, want.Engine = d, e
		case api.ErrPower:
			want = only(d)
		}
	}
	if why != no {
		t.Errorf("%s: %s: error %d is wanted, but it would be %d", name, brief(r), no, why)
	}
	got, why := serve.Do(s, r)
	wantServer(t, name+": "+brief(r), got, why, want, no)
}

// 19.3
func TestDo(t *testing.T) {
	s := running(t)
	s.Engine = settle(t, s.Engine)
	for _, gen := range []uint64{0, 1, 10, 300, maxNumber} {
		s.Gen = gen
		for _, r := range []api.Record{
			put(0), put(0, up(5, 1, 7), up(6, 2, 8)), put(1, up(5, -1, 7, "x")), epoch(api.RecordClose, 6), epoch(api.RecordClose, maxNumber), install("x", tally(source(1))), named(api.RecordDrop, "both", 0),
			named(api.RecordMark, "loop", 5), subscribe("x", "all", 2), named(api.RecordAck, "s", 2), named(api.RecordLeave, "r", 0), epoch(api.RecordHold, 1),
		} {
			wantDo(t, fmt.Sprint("checkpoint ", gen), s, r, api.OK)
		}
	}
	wantDo(t, "the first", start(t, with()), schemas([]api.Type{number}, nil), api.OK)
	// As it is written.
	got := do(t, start(t, with()), schemas(nil), epoch(api.RecordClose, 300))
	text, why := disk.Read(got.Disk, "log.0")
	payloads := []string{"\x01\x01\x00", "\x03\xac\x02"}
	for _, p := range payloads {
		sum := pack.Sum(p)
		want := "\x03" + p + string([]byte{byte(sum), byte(sum >> 8), byte(sum >> 16), byte(sum >> 24)})
		rest, found := strings.CutPrefix(text, want)
		if !found {
			t.Fatalf("log.0 is %q, which does not begin with %q", text, want)
		}
		text = rest
	}
	if text != "" || why != api.OK || len(got.Disk.Waits) != 2 || names(t, got.Disk) != "log.0" {
		t.Errorf("log.0 ends with %q, error %d; %d writes wait", text, why, len(got.Disk.Waits))
	}
}

// full is a server, of much or of little, on whose disk nothing can be written any more, for several reasons.
func full(t *testing.T, s api.Server, frame int) map[string]api.Server {
	t.Helper()
	size := 0
	for _, f := range see(t, s.Disk) {
		size += len(f.Data)
	}
	l := map[string]api.Server{}
	for name, f := range map[string]func(*api.Disk){
		"no room":     func(d *api.Disk) { d.Room = 0 },
		"little room": func(d *api.Disk) { d.Room = size },
		"a byte less": func(d *api.Disk) { d.Room = size + frame - 1 },
		"too many wait": func(d *api.Disk) {
			d.Waits = append(d.Waits, slices.Repeat([]api.Write{app("z", "")}, maxWaits-len(d.Waits))...)
		},
		"too many files": func(d *api.Disk) {
			*d, _ = disk.Sync(*d)
			d.Files = slices.DeleteFunc(d.Files, func(f api.File) bool { return strings.HasPrefix(f.Name, "log.") })
			for n := len(d.Files); n < maxFiles; n++ {
				d.Files = append(d.Files, api.File{Name: fmt.Sprintf("x%03d", n)})
			}
		},
	} {
		s := s
		s.Disk.Waits, s.Disk.Files = slices.Clone(s.Disk.Waits), slices.Clone(s.Disk.Files)
		f(&s.Disk)
		l[name] = s
	}
	return l
}

// 19.3: the errors in their order; what is refused leaves the server as it was.
func TestDoErrors(t *testing.T) {
	s := running(t)
	good := put(0, up(5, 1, 7))
	bad := map[api.Errno]api.Record{
		api.ErrForm: {}, api.ErrState: schemas(nil), api.ErrRange: put(2), api.ErrLong: put(0, make([]api.Update, 17)...), api.ErrLate: epoch(api.RecordClose, 5), api.ErrType: put(0, up(5, 1, "x")),
		api.ErrTwice: install("all", source(0)), api.ErrNone: named(api.RecordDrop, "x", 0), api.ErrPast: epoch(api.RecordHold, 0), api.ErrEarly: named(api.RecordMark, "all", 5),
		api.ErrOver: put(0, up(5, 1<<63-1, 7), up(5, 1, 7)),
	}
	for no, r := range bad {
		wantDo(t, "an error of the engine", s, r, no)
	}
	wantDo(t, "nothing is there", start(t, with()), epoch(api.RecordClose, 1), api.ErrState)
	for name, s := range full(t, s, len(frames(good))) {
		wantDo(t, name, s, good, api.ErrFull)
		for no, r := range bad {
			wantDo(t, name, s, r, no)
		}
		// What is not possible at all is so without power, too.
		s.Disk.Fuse = 0
		wantDo(t, name+", no power", s, good, api.ErrFull)
	}
	size := len(frames(good))
	for _, f := range see(t, s.Disk) {
		size += len(f.Data)
	}
	enough := s
	enough.Disk.Room = size
	wantDo(t, "just enough room", enough, good, api.OK)
	enough.Disk.Waits = append(slices.Clone(s.Disk.Waits), slices.Repeat([]api.Write{app("z", "")}, maxWaits-1-len(s.Disk.Waits))...)
	wantDo(t, "one more write", enough, good, api.OK)
	s.Disk.Fuse = 0
	wantDo(t, "no power", s, good, api.ErrPower)
	for no, r := range bad {
		wantDo(t, "no power", s, r, no)
	}
	s.Disk.Fuse = 1
	wantDo(t, "power for one write", s, good, api.OK)
	s, why := serve.Do(do(t, s, good), good)
	if why != api.ErrPower || !s.Disk.Down || s.Disk.Fuse != 0 || plain(s) != plain(only(s.Disk)) || serve.Check(s) != api.ErrState {
		t.Errorf("power for one write: error %d", why)
	}
	// The chapter's example.
	d := api.Disk{Room: 5, Fuse: -1}
	wantDo(t, "5 bytes", start(t, d), schemas([]api.Type{number}), api.ErrFull)
}

// 19.3
func TestSync(t *testing.T) {
	s := running(t)
	for _, s := range []api.Server{{}, start(t, with("x", "y")), s, mustSync(t, s), full(t, s, 9)["no room"]} {
		for _, fuse := range []int{-1, 0, 1, 5} {
			s.Disk.Fuse = fuse
			want := s
			d, no := disk.Sync(s.Disk)
			want.Disk = d
			if no != api.OK {
				want = only(d)
			}
			if (no == api.ErrPower) != (fuse == 0) {
				t.Errorf("fuse %d: error %d", fuse, no)
			}
			got, why := serve.Sync(s)
			wantServer(t, fmt.Sprint("fuse ", fuse), got, why, want, no)
			if why == api.OK && len(got.Disk.Waits) > 0 {
				t.Errorf("%d writes wait", len(got.Disk.Waits))
			}
		}
	}
}

// marked is an engine with its marks.
func marked(t *testing.T, e api.Engine) api.Engine {
	t.Helper()
	l, why := engine.Marks(e)
	for _, r := range l {
		if why == api.OK {
			e, why = engine.Do(e, r)
		}
	}
	if why != api.OK {
		t.Fatalf("marks: error %d", why)
	}
	return e
}

// checked is what a checkpoint makes of a server, by hand.
func checked(t *testing.T, s api.Server) (api.Server, api.Errno) {
	t.Helper()
	if s.Gen == maxNumber {
		return s, api.ErrRange
	}
	e := marked(t, s.Engine)
	records, why := input.Make(e.Base)
	if why != api.OK {
		t.Fatalf("Make: error %d", why)
	}
	has := func(name string) bool {
		_, why := disk.Read(s.Disk, name)
		return why == api.OK
	}
	var l []api.Write
	if has("base.tmp") {
		l = append(l, remove("base.tmp"))
	}
	l = append(l, app("base.tmp", saved(s.Gen+1, records...)), synced, rename("base.tmp", "base"), synced)
	if log := fmt.Sprint("log.", s.Gen); has(log) {
		l = append(l, remove(log))
	}
	d, why := after(s.Disk, l...)
	switch why {
	case api.OK:
		return api.Server{Disk: d, Gen: s.Gen + 1, Engine: e}, why
	case api.ErrPower:
		return only(d), why
	}
	s.Disk = d
	return s, why
}

// wantCheckpoint holds what a checkpoint makes of a server.
func wantCheckpoint(t *testing.T, name string, s api.Server, no api.Errno) api.Server {
	t.Helper()
	want, why := checked(t, s)
	if why != no {
		t.Errorf("%s: error %d is wanted, but it would be %d", name, no, why)
	}
	got, why := serve.Checkpoint(s)
	wantServer(t, name, got, why, want, no)
	return got
}

// 19.4
func TestCheckpoint(t *testing.T) {
	s := running(t)
	settled := s
	settled.Engine = settle(t, s.Engine)
	left := mustSync(t, s)
	left.Disk, _ = disk.Do(left.Disk, app("base.tmp", "x"), app("base", "y"), app("log.tmp", "z"), app("log.1", "u"))
	for name, s := range map[string]api.Server{"nothing": start(t, with()), "schemas alone": do(t, start(t, with()), schemas(nil)), "several": s, "settled": settled, "other files are left": left} {
		for _, gen := range []uint64{0, 1, 99, maxNumber - 1} {
			s.Gen = gen
			got := wantCheckpoint(t, name, s, api.OK)
			if got.Gen != gen+1 {
				t.Errorf("%s: checkpoint %d behind %d", name, got.Gen, gen)
			}
			again := start(t, got.Disk)
			if again.Gen != got.Gen || plain(again.Engine.Base) != plain(got.Engine.Base) {
				t.Errorf("%s: started again, the base is\n     %s\nwant %s", name, brief(again.Engine.Base), brief(got.Engine.Base))
			}
			if got.Gen < maxNumber {
				wantCheckpoint(t, name+", again", got, api.OK)
			}
		}
		s.Gen = maxNumber
		wantCheckpoint(t, name, s, api.ErrRange)
		s.Disk.Fuse, s.Disk.Room = 0, 0
		wantCheckpoint(t, name+", no power", s, api.ErrRange)
	}
	// Marks are in the checkpoint, but not in a log.
	got := check(t, settled)
	for i, q := range got.Engine.Base.Queries {
		if q.Done != 5 || settled.Engine.Base.Queries[i].Done == 5 {
			t.Errorf("%s is marked at %d", q.Name, q.Done)
		}
	}
	if l := names(t, got.Disk); l != "base" {
		t.Errorf("files %s", l)
	}
	// The chapter's example.
	got = start(t, check(t, do(t, start(t, with()), several()[:9]...)).Disk)
	if l := names(t, got.Disk); l != "base" || got.Gen != 1 {
		t.Errorf("files %s, checkpoint %d", l, got.Gen)
	}
	got = do(t, got, epoch(api.RecordClose, 4))
	if l := names(t, got.Disk); l != "base log.1" {
		t.Errorf("files %s", l)
	}
	if l := names(t, check(t, got).Disk); l != "base" {
		t.Errorf("files %s", l)
	}
}

// 19.4: the power goes at each step.
func TestCheckpointPower(t *testing.T) {
	s := running(t)
	left := s
	left.Disk, _ = disk.Do(s.Disk, app("base.tmp", "x"))
	for name, x := range map[string]struct {
		s     api.Server
		steps int
	}{"a log": {s, 5}, "a temporary file is left": {left, 6}, "no log": {check(t, s), 4}, "nothing": {start(t, with()), 4}} {
		for fuse := range x.steps + 2 {
			s := x.s
			s.Disk.Fuse = fuse
			no := api.OK
			if fuse < x.steps {
				no = api.ErrPower
			}
			got := wantCheckpoint(t, fmt.Sprint(name, ", fuse ", fuse), s, no)
			if no == api.ErrPower && (!got.Disk.Down || got.Gen != 0 || len(got.Engine.Flows) > 0) {
				t.Errorf("%s, fuse %d: the server is not down", name, fuse)
			}
		}
	}
}

// 19.4: there is no room for a checkpoint.
func TestCheckpointFull(t *testing.T) {
	s := running(t)
	s.Disk, _ = disk.Do(mustSync(t, s).Disk, app("base.tmp", "xyz"))
	size := 0
	for _, f := range see(t, s.Disk) {
		size += len(f.Data)
	}
	records, _ := input.Make(marked(t, s.Engine).Base)
	whole := len(saved(1, records...))
	least := size - len("xyz") + whole
	for _, room := range []int{0, size - 4, size - 3, size, least - 1, least, least + 1} {
		no := api.OK
		if room < least {
			no = api.ErrFull
		}
		s := s
		s.Disk.Room = room
		got := wantCheckpoint(t, fmt.Sprint("room ", room), s, no)
		_, why := disk.Read(got.Disk, "base.tmp")
		if (why == api.OK) != (room < size-3) {
			t.Errorf("room %d: reading base.tmp: error %d", room, why)
		}
		// It goes on as before.
		if more := epoch(api.RecordClose, 6); no == api.ErrFull && room >= size-3+len(frames(more)) {
			again := start(t, mustSync(t, do(t, got, more)).Disk)
			if again.Gen != 0 || again.Engine.Base.Closed != 6 {
				t.Errorf("room %d: checkpoint %d, closed %d", room, again.Gen, again.Engine.Base.Closed)
			}
		}
		// The first step is done, and with it the power is used up; of the second one, the room counts first.
		s.Disk.Fuse = 1
		if no == api.OK {
			no = api.ErrPower
		}
		wantCheckpoint(t, fmt.Sprint("power for a write, room ", room), s, no)
		s.Disk.Fuse = 0
		if room >= size-3 {
			no = api.ErrPower
		}
		wantCheckpoint(t, fmt.Sprint("no power, room ", room), s, no)
	}
	for n := range 4 {
		no := api.OK
		if n < 2 {
			no = api.ErrFull
		}
		s := s
		s.Disk.Waits = append(slices.Clone(s.Disk.Waits), slices.Repeat([]api.Write{app("z", "")}, maxWaits-n-len(s.Disk.Waits))...)
		got := wantCheckpoint(t, fmt.Sprint("room for ", n, " writes"), s, no)
		if _, why := disk.Read(got.Disk, "base.tmp"); (why == api.OK) != (n == 0) {
			t.Errorf("room for %d writes: reading base.tmp: error %d", n, why)
		}
	}
	// One file more is needed.
	for n := range 2 {
		s := start(t, with("log.0", frames(several()[:9]...)))
		for len(s.Disk.Files) < maxFiles-n {
			s.Disk.Files = append(s.Disk.Files, api.File{Name: fmt.Sprintf("x%03d", len(s.Disk.Files))})
		}
		wantCheckpoint(t, fmt.Sprint("room for ", n, " files"), s, []api.Errno{api.ErrFull, api.OK}[n])
	}
}
