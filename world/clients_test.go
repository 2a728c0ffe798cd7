package world_test

import (
	"fmt"
	"math"
	"slices"
	"testing"

	"freshet/api"
	"freshet/disk"
	"freshet/engine"
	"freshet/serve"
	"freshet/world"
)

func hear(name string) api.WorldStep { return about(api.WorldHear, name) }
func ack(name string) api.WorldStep  { return about(api.WorldAck, name) }

// client is one that has heard so much.
func client(name string, first uint64, heard ...[]api.Count) api.Client {
	return api.Client{Name: name, First: first, Heard: heard}
}

// with is a world with other clients.
func with(w api.World, l ...api.Client) api.World {
	w.Clients = l
	return w
}

// lists is lists of nothing, so many.
func lists(n int) [][]api.Count { return make([][]api.Count, n) }

// 20.2: what the helper says of its world.
func TestSeveral(t *testing.T) {
	w := several(t)
	all := []api.Count{count(1, 1), count(1, 2), count(1, 3), count(1, 4)}
	wantWorld(t, "several", w, world.Check(w), with(w, client("r", 0, all, []api.Count{count(-1, 1)}, nil), client("s", 1, nil, []api.Count{count(6, 2, 2)})), api.OK)
	if l := w.Server.Engine.Base.Subs; len(l) != 3 || l[0].Next != 2 || l[1].Next != 2 || l[2].Next != 1 || l[0].Begun || !l[1].Begun || l[2].Begun {
		t.Errorf("subscribers %s", plain(l))
	}
}

// 20.2: the power goes.
func TestFall(t *testing.T) {
	w := several(t)
	wantDo(t, "fall", w, just(api.WorldFall, 7), api.World{Server: api.Server{Disk: w.Server.Disk}, Clients: w.Clients}, api.OK)
	wantDo(t, "nothing", world.New(9), just(api.WorldFall, 0), api.World{Server: api.Server{Disk: api.Disk{Room: 9, Fuse: -1}}}, api.OK)
	// No client is removed without power.
	stale := with(w, client("gone", 7, lists(3)...))
	wantDo(t, "fall", stale, just(api.WorldFall, 0), api.World{Server: api.Server{Disk: w.Server.Disk}, Clients: stale.Clients}, api.OK)
	stale.Server.Disk.Fuse = 0
	for _, s := range []api.WorldStep{record(epoch(api.RecordClose, 9)), just(api.WorldSync, 0), just(api.WorldCheckpoint, 0)} {
		got, why := world.Do(stale, s)
		if why != api.ErrPower || got.Up || len(got.Clients) != 1 || !got.Server.Disk.Down {
			t.Errorf("%s: error %d, %d clients", brief(s), why, len(got.Clients))
		}
	}
}

// 20.2: it comes again.
func TestRise(t *testing.T) {
	w := fallen(t)
	n := len(w.Server.Disk.Waits)
	if n < 4 {
		t.Fatalf("%d writes wait", n)
	}
	kept := map[string]bool{}
	for keep := -1; keep <= n+1; keep++ {
		for _, tear := range []int{math.MinInt, 0, 1, 7, math.MaxInt} {
			d, why := disk.Crash(w.Server.Disk, keep, tear)
			s, no := serve.Start(d)
			want := api.World{Up: true, Server: s}
			if why != api.OK || no != api.OK || len(s.Engine.Base.Subs) != 3 {
				t.Fatal(why, no)
			}
			// What is kept of the clients is what they have acknowledged.
			for i, c := range w.Clients {
				next := s.Engine.Base.Subs[i+1].Next
				want.Clients = append(want.Clients, client(c.Name, c.First, c.Heard[:next-c.First]...))
			}
			kept[fmt.Sprint(len(want.Clients[0].Heard), len(want.Clients[1].Heard))] = true
			wantDo(t, "rise", w, rise(keep, tear), want, api.OK)
			wantDo(t, "rise, its disk is down", change(w, func(w *api.World) { w.Server.Disk.Down, w.Server.Disk.Fuse = true, 0 }), rise(keep, tear), want, api.OK)
		}
	}
	if !kept["1 0"] || !kept["2 0"] || len(kept) != 2 {
		t.Errorf("what is kept: %v", kept)
	}
	up := do(t, w, rise(math.MaxInt, 0))
	wantDo(t, "a second rise", up, rise(0, 0), up, api.ErrState)
	// What the clients have heard, and whether they are there still, is told by the subscribers: q has not begun and is at 2, r at 2 and has begun, s at 1.
	for name, x := range map[string]struct{ given, want []api.Client }{
		"none":                    {},
		"no subscriber":           {[]api.Client{client("", 0, lists(2)...), client("p", 0), client("rr", 2), client("t", 2)}, nil},
		"as far":                  {[]api.Client{client("q", 2), client("r", 2), client("s", 1)}, []api.Client{client("q", 2), client("r", 2), client("s", 1)}},
		"further":                 {[]api.Client{client("q", 2, lists(3)...), client("r", 0, lists(5)...), client("s", 0, lists(2)...)}, []api.Client{client("q", 2), client("r", 0, lists(2)...), client("s", 0, lists(1)...)}},
		"behind":                  {[]api.Client{client("q", 0, lists(1)...), client("r", 1), client("s", 0)}, nil},
		"one behind, one not":     {[]api.Client{client("q", 1), client("r", 1, lists(1)...)}, []api.Client{client("r", 1, lists(1)...)}},
		"they begin later":        {[]api.Client{client("q", 3), client("r", 3, lists(2)...), client("s", 2, lists(1)...)}, nil},
		"much later":              {[]api.Client{client("q", math.MaxUint64, lists(4)...), client("r", maxNumber+1, lists(2)...), client("s", 1<<63)}, nil},
		"from the first epoch on": {[]api.Client{client("s", 0, []api.Count{count(1, 7)}, []api.Count{count(2, 8)})}, []api.Client{client("s", 0, []api.Count{count(1, 7)})}},
	} {
		want := up
		want.Clients = x.want
		wantDo(t, name, with(w, x.given...), rise(math.MaxInt, 0), want, api.OK)
	}
}

// 20.2: it comes, but the server does not start.
func TestRiseErrors(t *testing.T) {
	w := fallen(t)
	w.Clients = append(slices.Clone(w.Clients), client("t", 9, lists(2)...))
	for name, f := range map[string]func(*api.Disk){
		"no checkpoint": func(d *api.Disk) { d.Files = append([]api.File{{Name: "base", Data: "x"}}, d.Files...) },
		"no record":     func(d *api.Disk) { d.Files[0].Data = "\x00\x00\x00\x00\x00" },
		"no room":       func(d *api.Disk) { d.Files[0].Data, d.Room = d.Files[0].Data+"x", 0 },
	} {
		w := change(w, func(w *api.World) { f(&w.Server.Disk) })
		d, _ := disk.Crash(w.Server.Disk, 1, 1)
		s, why := serve.Start(d)
		if why == api.OK {
			t.Fatalf("%s: it starts", name)
		}
		// There are no subscribers, and no power: nothing is forgotten, and no client is removed.
		wantDo(t, name, w, rise(1, 1), api.World{Server: s, Clients: w.Clients}, why)
	}
}

// 20.2
func TestHear(t *testing.T) {
	w := settle(t, several(t))
	for _, name := range []string{"", "all", "p", "t"} {
		wantDo(t, "no subscriber", w, hear(name), w, api.ErrNone)
		wantDo(t, "nothing", world.New(9), hear(name), world.New(9), api.ErrNone)
	}
	change := func(sub string, epoch uint64) []api.Count {
		l, why := engine.Hear(w.Server.Engine, sub, epoch)
		if why != api.OK {
			t.Fatalf("%s at %d: error %d", sub, epoch, why)
		}
		return l
	}
	// A new client begins with the next epoch of its subscriber, whether that has begun or not.
	wantDo(t, "the first", with(w), hear("q"), with(w, client("q", 2, change("q", 2))), api.OK)
	wantDo(t, "the first, though it has begun", with(w), hear("r"), with(w, client("r", 2, change("r", 2))), api.OK)
	wantDo(t, "the first of others", w, hear("q"), with(w, client("q", 2, change("q", 2)), w.Clients[0], w.Clients[1]), api.OK)
	wantDo(t, "between others", with(w, client("q", 2), client("s", 1)), hear("r"), with(w, client("q", 2), client("r", 2, change("r", 2)), client("s", 1)), api.OK)
	if l := change("q", 2); plain(l) != plain([]api.Count{count(1, 1), count(3, 2)}) || len(change("r", 2)) > 0 {
		t.Errorf("about 2: %s", plain(l))
	}
	// All others go on with the epoch behind the last one.
	r, s := w.Clients[0], w.Clients[1]
	for n := uint64(3); n < 6; n++ {
		want := with(w, client("r", 0, append(slices.Clone(r.Heard), change("r", n))...), s)
		wantDo(t, fmt.Sprint("about ", n), w, hear("r"), want, api.OK)
		w, r = want, want.Clients[0]
	}
	wantDo(t, "not closed", w, hear("r"), w, api.ErrEarly)
	s = client("s", 1, append(slices.Clone(s.Heard), change("s", 3))...)
	wantDo(t, "about 3", w, hear("s"), with(w, r, s), api.OK)
	wantDo(t, "again, as it was forgotten", with(w, client("r", 2)), hear("r"), with(w, client("r", 2, change("r", 2))), api.OK)
	wantDo(t, "with nothing heard", with(w, client("s", 1)), hear("s"), with(w, client("s", 1, change("s", 1))), api.OK)
}

// 20.2: clients made by hand, that are removed when they have heard.
func TestHearByHand(t *testing.T) {
	w := settle(t, several(t))
	// The subscriber has not begun, and is at 1: about what is ahead of that it hears nothing.
	for name, x := range map[string]struct {
		given api.Client
		no    api.Errno
		left  bool
	}{
		"ahead of the next":       {client("s", 0), api.ErrPast, false},
		"as far as the next":      {client("s", 0, nil), api.OK, true},
		"behind the next":         {client("s", 2), api.OK, false},
		"much later":              {client("s", maxNumber), api.ErrEarly, false},
		"too late":                {client("s", maxNumber+1), api.ErrRange, false},
		"beyond the last one":     {client("s", math.MaxUint64, lists(2)...), api.OK, false},
		"at the last one":         {client("s", math.MaxUint64), api.ErrRange, false},
		"behind the last one":     {client("s", math.MaxUint64, nil), api.ErrPast, false},
		"all that there is":       {client("s", 1, lists(5)...), api.ErrEarly, true},
		"all that there is, less": {client("s", 1, lists(4)...), api.OK, true},
	} {
		want := with(w)
		if x.left {
			want.Clients = []api.Client{x.given}
			if x.no == api.OK {
				n := x.given.First + uint64(len(x.given.Heard))
				l, _ := engine.Hear(w.Server.Engine, "s", n)
				want.Clients[0].Heard = append(slices.Clone(x.given.Heard), l)
			}
		}
		wantDo(t, name, with(w, x.given), hear("s"), want, x.no)
	}
}

// 20.2: the errors of the engine, when someone hears.
func TestHearErrors(t *testing.T) {
	w := several(t)
	// Nothing is committed beyond 4 as long as it waits.
	wantDo(t, "it waits", with(w, client("r", 0, lists(4)...)), hear("r"), with(w, client("r", 0, lists(4)...)), api.ErrEarly)
	fresh := accepted(t, w, named(api.RecordLeave, "q", 0), subscribe("q", "all", 4))
	wantDo(t, "a new one, and it waits", fresh, hear("q"), fresh, api.ErrEarly)
	loop := accepted(t, world.New(1<<20), schemas([]api.Type{number}), install("turn", iterate(3, source(0), negate(variable(0)))), subscribe("s", "turn", 0), put(0, up(1, 1, 1)), epoch(api.RecordClose, 3))
	loop = do(t, settle(t, loop), hear("s"))
	wantDo(t, "failed", loop, hear("s"), loop, api.ErrFailed)
	over := accepted(t, world.New(1<<20), schemas([]api.Type{number}), install("n", source(0)), subscribe("s", "n", 0), put(0, up(0, math.MinInt64, 1), up(1, 1, 1)), epoch(api.RecordClose, 2))
	over = do(t, settle(t, over), hear("s"))
	wantDo(t, "a number that does not fit", over, hear("s"), over, api.ErrOver)
}

// 20.2
func TestAck(t *testing.T) {
	w := settle(t, several(t))
	for _, name := range []string{"", "all", "p", "t"} {
		wantDo(t, "no subscriber", w, ack(name), w, api.ErrNone)
		wantDo(t, "nothing", world.New(9), ack(name), world.New(9), api.ErrNone)
	}
	for n := range 4 {
		wantDo(t, "no subscriber, but a client", with(w, client("p", 0, lists(n)...)), ack("p"), with(w), api.ErrNone)
		wantDo(t, "no subscriber, but a client", with(w, client("p", 0, lists(n)...)), hear("p"), with(w), api.ErrNone)
	}
	wantDo(t, "no client", w, ack("q"), w, api.ErrNone)
	wantDo(t, "no client", with(w), ack("r"), with(w), api.ErrNone)
	// r is at 2, and has begun.
	for name, x := range map[string]struct {
		given api.Client
		no    api.Errno
		left  bool
	}{
		"it has heard nothing":    {client("r", 2), api.ErrEarly, true},
		"not about that one":      {client("r", 1, nil), api.ErrEarly, true},
		"not about that one, two": {client("r", 0, lists(2)...), api.ErrEarly, true},
		"less":                    {client("r", 0, nil), api.ErrEarly, false},
		"about that one":          {client("r", 2, nil), api.OK, true},
		"up to that one":          {client("r", 0, lists(3)...), api.OK, true},
		"about more":              {client("r", 1, lists(4)...), api.OK, true},
		"about later ones":        {client("r", 3, lists(4)...), api.ErrEarly, false},
		"about much later ones":   {client("r", maxNumber, lists(4)...), api.ErrEarly, false},
		"about the last one":      {client("r", math.MaxUint64, lists(3)...), api.ErrEarly, false},
		"behind the last one":     {client("r", math.MaxUint64, lists(4)...), api.OK, false},
	} {
		given := with(w, x.given)
		want := given
		if x.no == api.OK {
			s, why := serve.Do(w.Server, named(api.RecordAck, "r", 2))
			if why != api.OK || s.Engine.Base.Subs[1].Next != 3 {
				t.Fatal(why)
			}
			want.Server = s
		}
		if !x.left {
			want.Clients = nil
		}
		wantDo(t, name, given, ack("r"), want, x.no)
	}
	// The errors of the server.
	burnt := change(w, func(w *api.World) { w.Server.Disk.Fuse = 0 })
	s, why := serve.Do(burnt.Server, named(api.RecordAck, "s", 1))
	wantDo(t, "no power", burnt, ack("s"), api.World{Server: s, Clients: w.Clients}, api.ErrPower)
	if why != api.ErrPower || len(s.Engine.Flows) > 0 {
		t.Errorf("no power: error %d", why)
	}
	full := change(w, func(w *api.World) { w.Server.Disk.Room = 0 })
	wantDo(t, "no room", full, ack("s"), full, api.ErrFull)
}

// 20.2: which clients are removed, whatever the step and its error.
func TestCleanUp(t *testing.T) {
	w := settle(t, several(t))
	// q is at 2, r at 2 and has begun, s at 1.
	for name, x := range map[string]struct {
		given api.Client
		left  bool
	}{
		"no subscriber":             {client("x", 2), false},
		"no name":                   {client("", 2), false},
		"the name of a query":       {client("all", 2, lists(3)...), false},
		"at the next":               {client("r", 2), true},
		"at the next, not begun":    {client("q", 2), true},
		"up to the next":            {client("r", 0, lists(2)...), true},
		"beyond the next":           {client("r", 0, lists(9)...), true},
		"from the next on":          {client("q", 2, lists(9)...), true},
		"one is missing":            {client("r", 0, lists(1)...), false},
		"all are missing":           {client("r", 1), false},
		"it begins later":           {client("r", 3), false},
		"it begins later, and more": {client("s", 2, lists(9)...), false},
		"it begins much later":      {client("r", math.MaxUint64, lists(9)...), false},
		"at the last":               {client("r", math.MaxUint64), false},
	} {
		given := with(w, x.given)
		want := given
		if !x.left {
			want.Clients = nil
		}
		for _, s := range []struct {
			step api.WorldStep
			no   api.Errno
		}{
			{pick("all", 0), api.OK}, {about(api.WorldSweep, "all"), api.OK}, {just(api.WorldFuse, -1), api.OK}, {just(api.WorldWork, 0), api.OK},
			{pick("all", 99), api.ErrRange}, {pick("x", 0), api.ErrNone}, {about(api.WorldSweep, "x"), api.ErrNone}, {hear("y"), api.ErrNone}, {ack("y"), api.ErrNone}, {record(api.Record{}), api.ErrForm},
		} {
			wantDo(t, name, given, s.step, want, s.no)
		}
		synced := want
		synced.Server, _ = serve.Sync(w.Server)
		wantDo(t, name, given, just(api.WorldSync, 0), synced, api.OK)
	}
	// By records.
	for name, x := range map[string]struct {
		r    api.Record
		left []api.Client
	}{
		"a subscriber leaves":     {named(api.RecordLeave, "r", 0), w.Clients[1:]},
		"another one leaves":      {named(api.RecordLeave, "q", 0), w.Clients},
		"a query goes":            {named(api.RecordDrop, "both", 0), w.Clients[:1]},
		"an epoch is closed":      {epoch(api.RecordClose, 7), w.Clients},
		"what was heard is acked": {named(api.RecordAck, "s", 1), w.Clients},
	} {
		want := with(w, x.left...)
		s, why := serve.Do(w.Server, x.r)
		want.Server = s
		if why != api.OK {
			t.Fatal(why)
		}
		wantDo(t, name, w, record(x.r), want, api.OK)
	}
	// What was not heard is acked: r has heard up to 2.
	got := accepted(t, w, named(api.RecordAck, "r", 2))
	if len(got.Clients) != 2 {
		t.Errorf("%d clients are left", len(got.Clients))
	}
	if got = accepted(t, got, named(api.RecordAck, "r", 3)); len(got.Clients) != 1 || got.Clients[0].Name != "s" {
		t.Errorf("%d clients are left", len(got.Clients))
	}
}

// 20.2: the chapter's examples.
func TestExamples(t *testing.T) {
	w := accepted(t, world.New(1<<20), schemas([]api.Type{number}), install("c", tally(source(0))), subscribe("s", "c", 1), put(0, up(0, 1, 5), up(1, 1, 6), up(2, -1, 5)))
	wantDo(t, "not committed", w, hear("s"), w, api.ErrEarly)
	wantDo(t, "no client", w, ack("s"), w, api.ErrNone)
	w = do(t, accepted(t, w, epoch(api.RecordClose, 4)), just(api.WorldSync, 0))
	wantDo(t, "it waits", w, hear("s"), w, api.ErrEarly)
	w = do(t, settle(t, w), hear("s"), hear("s"), hear("s"), ack("s"), just(api.WorldSync, 0), ack("s"), just(api.WorldFall, 0))
	if len(w.Clients) != 1 || len(w.Clients[0].Heard) != 3 {
		t.Errorf("clients %s", plain(w.Clients))
	}
	wantDo(t, "no power", w, hear("s"), w, api.ErrPower)
	got := do(t, w, rise(0, 2))
	if plain(got.Clients) != plain([]api.Client{client("s", 1, []api.Count{count(1, 2)})}) {
		t.Errorf("clients %s", plain(got.Clients))
	}
	wantDo(t, "a second rise", got, rise(0, 2), got, api.ErrState)
	wantDo(t, "no query", got, about(api.WorldSweep, "x"), got, api.ErrNone)
	wantDo(t, "the zero step", got, api.WorldStep{}, got, api.ErrForm)
	got = do(t, w, rise(1, 0))
	if plain(got.Clients) != plain([]api.Client{client("s", 1, []api.Count{count(1, 2)}, []api.Count{count(1, 1), count(-1, 2)})}) {
		t.Errorf("clients %s", plain(got.Clients))
	}

	w = accepted(t, world.New(1<<20), schemas([]api.Type{number}), install("c", source(0)), subscribe("s", "c", 0), put(0, up(0, 1, 5), up(1, 1, 6)), epoch(api.RecordClose, 4))
	w = do(t, settle(t, do(t, w, just(api.WorldSync, 0))), hear("s"), hear("s"), ack("s"), just(api.WorldFall, 0))
	for keep, left := range [][]api.Client{{client("s", 0)}, {client("s", 0, []api.Count{count(1, 5)})}} {
		if got := do(t, w, rise(keep, 0)); plain(got.Clients) != plain(left) {
			t.Errorf("keep %d: clients %s", keep, plain(got.Clients))
		}
	}
}
