package serve_test

import (
	"fmt"
	"slices"
	"strings"
	"testing"

	"freshet/api"
	"freshet/disk"
	"freshet/engine"
	"freshet/flow"
	"freshet/input"
	"freshet/pack"
	"freshet/serve"
)

// Limits are written out, as they are themselves part of what is tested.
const (
	maxNumber = 1 << 62
	maxFiles  = 256
	maxWaits  = 4096
)

const (
	number = api.TypeInt
	text   = api.TypeText
)

// row has a number for each integer, and a text for each string.
func row(l ...any) []api.Value {
	var r []api.Value
	for _, x := range l {
		switch x := x.(type) {
		case int:
			r = append(r, api.Value{N: int64(x)})
		case string:
			r = append(r, api.Value{IsText: true, S: x})
		}
	}
	return r
}

// up is an update without a key, outside of loops.
func up(epoch uint64, n int64, l ...any) api.Update {
	return api.Update{Row: row(l...), Time: api.Time{Epoch: epoch}, Diff: n}
}

func source(n int) api.Plan            { return api.Plan{Kind: api.PlanSource, N: n} }
func variable(n int) api.Plan          { return api.Plan{Kind: api.PlanVar, N: n} }
func negate(kid api.Plan) api.Plan     { return api.Plan{Kind: api.PlanNegate, Kids: []api.Plan{kid}} }
func distinct(kid api.Plan) api.Plan   { return api.Plan{Kind: api.PlanDistinct, Kids: []api.Plan{kid}} }
func concat(kids ...api.Plan) api.Plan { return api.Plan{Kind: api.PlanConcat, Kids: kids} }

func joined(a, b api.Plan, cols, with []int) api.Plan {
	return api.Plan{Kind: api.PlanJoin, Kids: []api.Plan{a, b}, Cols: cols, With: with}
}

// tally is how many rows a plan comes to.
func tally(p api.Plan) api.Plan {
	return api.Plan{Kind: api.PlanReduce, Kids: []api.Plan{p}, Agg: api.AggCount}
}

func iterate(rounds int, a, b api.Plan) api.Plan {
	return api.Plan{Kind: api.PlanIterate, Kids: []api.Plan{a, b}, Rounds: rounds}
}

// next is the rows of one number that are greater by 1, as far as they are less than 4.
func next(p api.Plan) api.Plan {
	col, con := api.Expr{Op: api.ExprCol}, func(n int64) api.Expr { return api.Expr{Op: api.ExprConst, Const: api.Value{N: n}} }
	less := api.Expr{Op: api.ExprLess, Kids: []api.Expr{col, con(4)}}
	more := api.Expr{Op: api.ExprAdd, Kids: []api.Expr{col, con(1)}}
	return api.Plan{Kind: api.PlanMap, Exprs: []api.Expr{more}, Kids: []api.Plan{{Kind: api.PlanFilter, Exprs: []api.Expr{less}, Kids: []api.Plan{p}}}}
}

func schemas(l ...[]api.Type) api.Record {
	return api.Record{Kind: api.RecordSchemas, Schemas: l}
}

func put(source int, l ...api.Update) api.Record {
	return api.Record{Kind: api.RecordPut, Source: source, List: l}
}

func epoch(kind api.RecordKind, n uint64) api.Record {
	return api.Record{Kind: kind, Epoch: n}
}

func install(name string, p api.Plan) api.Record {
	return api.Record{Kind: api.RecordInstall, Name: name, Plan: p}
}

func named(kind api.RecordKind, name string, n uint64) api.Record {
	return api.Record{Kind: kind, Name: name, Epoch: n}
}

func subscribe(name, query string, n uint64) api.Record {
	return api.Record{Kind: api.RecordSub, Name: name, Query: query, Epoch: n}
}

// plain tells all of a value; a list of nothing is told as none is.
func plain(x any) string { return fmt.Sprintf("%+v", x) }

// brief is the beginning of what plain tells.
func brief(x any) string {
	s := plain(x)
	return s[:min(len(s), 900)]
}

// frame is the frame of a payload.
func frame(payload string) string {
	s, why := pack.Frame(payload)
	if why != api.OK {
		panic(why)
	}
	return s
}

// frames is the frames of records.
func frames(l ...api.Record) string {
	var s strings.Builder
	for _, r := range l {
		x, why := input.Encode(r)
		if why != api.OK {
			panic(why)
		}
		s.WriteString(frame(x))
	}
	return s.String()
}

// saved is what a checkpoint contains.
func saved(gen uint64, l ...api.Record) string {
	return frame(pack.Count(gen)) + frames(l...)
}

// with is a disk with much room and these files: a name, what it contains, and so on.
func with(l ...string) api.Disk {
	d := api.Disk{Room: 1 << 20, Fuse: -1}
	for i := 0; i < len(l); i += 2 {
		d.Files = append(d.Files, api.File{Name: l[i], Data: l[i+1]})
	}
	slices.SortFunc(d.Files, func(a, b api.File) int { return strings.Compare(a.Name, b.Name) })
	return d
}

func app(name, data string) api.Write {
	return api.Write{Kind: api.WriteAppend, Name: name, Data: data}
}

func rename(name, to string) api.Write {
	return api.Write{Kind: api.WriteRename, Name: name, To: to}
}

func remove(name string) api.Write { return api.Write{Kind: api.WriteRemove, Name: name} }

// after is a disk after writes, one by one up to the first error; the zero write stands for a sync.
func after(d api.Disk, l ...api.Write) (api.Disk, api.Errno) {
	for _, w := range l {
		why := api.OK
		if w.Kind == api.WriteNone {
			d, why = disk.Sync(d)
		} else {
			d, why = disk.Do(d, w)
		}
		if why != api.OK {
			return d, why
		}
	}
	return d, api.OK
}

var synced = api.Write{}

// see is the visible files.
func see(t *testing.T, d api.Disk) []api.File {
	t.Helper()
	l, why := disk.See(d)
	if why != api.OK {
		t.Fatalf("See: error %d", why)
	}
	return l
}

// names is the names of the visible files.
func names(t *testing.T, d api.Disk) string {
	t.Helper()
	var l []string
	for _, f := range see(t, d) {
		l = append(l, f.Name)
	}
	return strings.Join(l, " ")
}

// applied is a zero base after records.
func applied(t *testing.T, l ...api.Record) api.Base {
	t.Helper()
	b := api.Base{}
	for _, r := range l {
		got, why := input.Apply(b, r)
		if why != api.OK {
			t.Fatalf("%s: error %d", brief(r), why)
		}
		b = got
	}
	return b
}

// started is the engine of a base.
func started(t *testing.T, b api.Base) api.Engine {
	t.Helper()
	e, why := engine.Start(b)
	if why != api.OK {
		t.Fatalf("Start: error %d", why)
	}
	return e
}

// start is the server of a disk.
func start(t *testing.T, d api.Disk) api.Server {
	t.Helper()
	s, why := serve.Start(d)
	if why != api.OK {
		t.Fatalf("Start: error %d", why)
	}
	return s
}

// do is a server after some records.
func do(t *testing.T, s api.Server, l ...api.Record) api.Server {
	t.Helper()
	for _, r := range l {
		got, why := serve.Do(s, r)
		if why != api.OK {
			t.Fatalf("%s: error %d", brief(r), why)
		}
		s = got
	}
	return s
}

func mustSync(t *testing.T, s api.Server) api.Server {
	t.Helper()
	s, why := serve.Sync(s)
	if why != api.OK {
		t.Fatalf("Sync: error %d", why)
	}
	return s
}

func check(t *testing.T, s api.Server) api.Server {
	t.Helper()
	s, why := serve.Checkpoint(s)
	if why != api.OK {
		t.Fatalf("Checkpoint: error %d", why)
	}
	return s
}

// settle is an engine after all nodes of the given queries, or of all, were run till nothing waits.
func settle(t *testing.T, e api.Engine, queries ...string) api.Engine {
	t.Helper()
	for i, q := range e.Base.Queries {
		if len(queries) > 0 && !slices.Contains(queries, q.Name) {
			continue
		}
		for {
			l, why := flow.Waits(e.Flows[i])
			if why != api.OK {
				t.Fatal(why)
			}
			if len(l) == 0 {
				break
			}
			for _, n := range l {
				if e, why = engine.Pick(e, q.Name, n); why != api.OK {
					t.Fatalf("%s, %d: error %d", q.Name, n, why)
				}
			}
		}
	}
	return e
}

// several is records of some of all kinds.
func several() []api.Record {
	return []api.Record{
		schemas([]api.Type{number}, []api.Type{number, text}),
		install("loop", iterate(6, source(0), distinct(concat(source(0), next(variable(0)))))), install("both", joined(source(1), source(0), []int{0}, []int{0})), install("all", source(1)), install("gone", source(0)),
		put(0, up(0, 1, 1), up(1, 2, 2), up(1, -1, 1)), put(1, up(0, 1, 1, "a"), up(2, 3, 2, "b")), subscribe("s", "both", 0), subscribe("r", "loop", 1), subscribe("q", "gone", 3), epoch(api.RecordClose, 3),
		named(api.RecordAck, "s", 0), named(api.RecordAck, "s", 1), named(api.RecordLeave, "q", 0), named(api.RecordDrop, "gone", 0), epoch(api.RecordHold, 1),
		put(0, up(3, 1, 1), up(4, 1, 4)), put(1, up(3, -1, 1, "a"), up(5, -1, 2, "b")), epoch(api.RecordClose, 5),
	}
}

// running is a server of several queries, some of which have nodes at which something waits.
func running(t *testing.T) api.Server {
	t.Helper()
	s := start(t, with())
	for i, r := range several() {
		if r.Kind == api.RecordHold {
			s.Engine = settle(t, s.Engine)
		}
		s = do(t, s, r)
		if i == 8 {
			s = mustSync(t, s)
		}
	}
	s.Engine = settle(t, s.Engine, "loop", "both")
	return do(t, s, named(api.RecordMark, "all", 2), named(api.RecordMark, "both", 3))
}

// wantServer holds that a server is another one.
func wantServer(t *testing.T, name string, got api.Server, why api.Errno, want api.Server, no api.Errno) {
	t.Helper()
	if why != no {
		t.Errorf("%s: error %d, want %d", name, why, no)
	}
	if got.Gen != want.Gen {
		t.Errorf("%s: the checkpoint is %d, want %d", name, got.Gen, want.Gen)
	}
	if plain(got.Disk) != plain(want.Disk) {
		t.Errorf("%s: the disk is\n     %+.900q\nwant %+.900q", name, plain(got.Disk), plain(want.Disk))
	}
	if plain(got.Engine) != plain(want.Engine) {
		t.Errorf("%s: the engine is\n     %s\nwant %s", name, brief(got.Engine), brief(want.Engine))
	}
	if no == api.OK && serve.Check(got) != api.OK {
		t.Errorf("%s: not valid", name)
	}
}

// only is a server that contains nothing but a disk.
func only(d api.Disk) api.Server { return api.Server{Disk: d} }

// wrong is servers that are not valid.
func wrong(t *testing.T) map[string]api.Server {
	l := map[string]api.Server{}
	for name, f := range map[string]func(*api.Server){
		"a checkpoint too late":  func(s *api.Server) { s.Gen = maxNumber + 1 },
		"the last number":        func(s *api.Server) { s.Gen = 1<<64 - 1 },
		"it is down":             func(s *api.Server) { s.Disk.Down = true },
		"no room":                func(s *api.Server) { s.Disk.Room = -1 },
		"a file without a name":  func(s *api.Server) { s.Disk.Files = make([]api.File, 1) },
		"one file twice":         func(s *api.Server) { s.Disk.Files = []api.File{{Name: "a"}, {Name: "a"}} },
		"files in another order": func(s *api.Server) { s.Disk.Files = []api.File{{Name: "b"}, {Name: "a"}} },
		"a write of no kind":     func(s *api.Server) { s.Disk.Waits = make([]api.Write, 1) },
		"a flow too few":         func(s *api.Server) { s.Engine.Flows = s.Engine.Flows[1:] },
		"no flows":               func(s *api.Server) { s.Engine.Flows = nil },
		"flows in another order": func(s *api.Server) {
			s.Engine.Flows = []api.Flow{s.Engine.Flows[1], s.Engine.Flows[0], s.Engine.Flows[2]}
		},
		"a base that is not valid":     func(s *api.Server) { s.Engine.Base.Since = 6 },
		"a base of no schemas":         func(s *api.Server) { s.Engine = api.Engine{Base: api.Base{Closed: 1}} },
		"down, and of the last number": func(s *api.Server) { s.Disk.Down, s.Gen = true, maxNumber },
		"a plan in itself": func(s *api.Server) {
			p := []api.Plan{{Kind: api.PlanNegate}}
			p[0].Kids = p
			s.Engine.Base.Queries = slices.Clone(s.Engine.Base.Queries)
			s.Engine.Base.Queries[1].Plan = p[0]
		},
	} {
		s := running(t)
		f(&s)
		l[name] = s
	}
	return l
}

// 19.1
func TestCheck(t *testing.T) {
	s := running(t)
	last, burnt, zero := s, s, s
	last.Gen, burnt.Disk.Fuse, zero.Gen = maxNumber, 0, 0
	full := s
	full.Disk.Room = 0
	for name, s := range map[string]api.Server{"nothing": {}, "a new one": start(t, with()), "several": s, "the last checkpoint": last, "a fuse that is burnt": burnt, "of no checkpoint": zero, "less room than there is on it": full, "a disk with other files": only(with("x", "y"))} {
		if why := serve.Check(s); why != api.OK {
			t.Errorf("%s: error %d", name, why)
		}
	}
	for name, s := range wrong(t) {
		if why := serve.Check(s); why != api.ErrState {
			t.Errorf("%s: Check: error %d", name, why)
		}
		for _, r := range []api.Record{{}, epoch(api.RecordClose, 9), epoch(api.RecordClose, 0), named(api.RecordDrop, "none", 0)} {
			got, why := serve.Do(s, r)
			wantServer(t, name+": Do", got, why, api.Server{}, api.ErrState)
		}
		got, why := serve.Sync(s)
		wantServer(t, name+": Sync", got, why, api.Server{}, api.ErrState)
		got, why = serve.Checkpoint(s)
		wantServer(t, name+": Checkpoint", got, why, api.Server{}, api.ErrState)
	}
}
