package world_test

import (
	"fmt"
	"math"
	"slices"
	"strings"
	"testing"

	"freshet/api"
	"freshet/disk"
	"freshet/engine"
	"freshet/flow"
	"freshet/serve"
	"freshet/world"
)

const number = api.TypeInt

// maxNumber is written out, as the limit is itself part of what is tested.
const maxNumber = 1 << 62

// row has these numbers.
func row(l ...int) []api.Value {
	var r []api.Value
	for _, n := range l {
		r = append(r, api.Value{N: int64(n)})
	}
	return r
}

// up is an update without a key, outside of loops.
func up(epoch uint64, n int64, l ...int) api.Update {
	return api.Update{Row: row(l...), Time: api.Time{Epoch: epoch}, Diff: n}
}

func count(n int64, l ...int) api.Count { return api.Count{Row: row(l...), N: n} }

func source(n int) api.Plan            { return api.Plan{Kind: api.PlanSource, N: n} }
func variable(n int) api.Plan          { return api.Plan{Kind: api.PlanVar, N: n} }
func negate(kid api.Plan) api.Plan     { return api.Plan{Kind: api.PlanNegate, Kids: []api.Plan{kid}} }
func distinct(kid api.Plan) api.Plan   { return api.Plan{Kind: api.PlanDistinct, Kids: []api.Plan{kid}} }
func concat(kids ...api.Plan) api.Plan { return api.Plan{Kind: api.PlanConcat, Kids: kids} }

func mapped(kid api.Plan, exprs ...api.Expr) api.Plan {
	return api.Plan{Kind: api.PlanMap, Kids: []api.Plan{kid}, Exprs: exprs}
}

func joined(a, b api.Plan, cols, with []int) api.Plan {
	return api.Plan{Kind: api.PlanJoin, Kids: []api.Plan{a, b}, Cols: cols, With: with}
}

func reduce(kid api.Plan, agg api.AggKind, n int, cols ...int) api.Plan {
	return api.Plan{Kind: api.PlanReduce, Kids: []api.Plan{kid}, Agg: agg, N: n, Cols: cols}
}

// tally is how many rows a plan comes to.
func tally(p api.Plan) api.Plan { return reduce(p, api.AggCount, 0) }

func iterate(rounds int, a, b api.Plan) api.Plan {
	return api.Plan{Kind: api.PlanIterate, Kids: []api.Plan{a, b}, Rounds: rounds}
}

func col(i int) api.Expr { return api.Expr{Op: api.ExprCol, Col: i} }
func con(n int) api.Expr { return api.Expr{Op: api.ExprConst, Const: api.Value{N: int64(n)}} }

func op(o api.ExprOp, kids ...api.Expr) api.Expr { return api.Expr{Op: o, Kids: kids} }

// next is the rows of one number that are greater by 1, as far as they are less than 4.
func next(p api.Plan) api.Plan {
	less := api.Plan{Kind: api.PlanFilter, Kids: []api.Plan{p}, Exprs: []api.Expr{op(api.ExprLess, col(0), con(4))}}
	return mapped(less, op(api.ExprAdd, col(0), con(1)))
}

func schemas(l ...[]api.Type) api.Record {
	return api.Record{Kind: api.RecordSchemas, Schemas: l}
}

func put(source int, l ...api.Update) api.Record {
	return api.Record{Kind: api.RecordPut, Source: source, List: l}
}

func epoch(kind api.RecordKind, n uint64) api.Record {
	return api.Record{Kind: kind, Epoch: n}
}

func install(name string, p api.Plan) api.Record {
	return api.Record{Kind: api.RecordInstall, Name: name, Plan: p}
}

func named(kind api.RecordKind, name string, n uint64) api.Record {
	return api.Record{Kind: kind, Name: name, Epoch: n}
}

func subscribe(name, query string, n uint64) api.Record {
	return api.Record{Kind: api.RecordSub, Name: name, Query: query, Epoch: n}
}

// Steps.
func record(r api.Record) api.WorldStep {
	return api.WorldStep{Kind: api.WorldRecord, Record: r}
}

func about(kind api.WorldKind, name string) api.WorldStep {
	return api.WorldStep{Kind: kind, Name: name}
}

func pick(query string, node int) api.WorldStep {
	return api.WorldStep{Kind: api.WorldPick, Name: query, N: node}
}

func just(kind api.WorldKind, n int) api.WorldStep { return api.WorldStep{Kind: kind, N: n} }

func rise(keep, tear int) api.WorldStep {
	return api.WorldStep{Kind: api.WorldRise, N: keep, Tear: tear}
}

var kinds = []api.WorldKind{
	api.WorldRecord, api.WorldPick, api.WorldSweep, api.WorldWork, api.WorldSync, api.WorldCheckpoint, api.WorldFuse, api.WorldFall, api.WorldRise, api.WorldHear, api.WorldAck,
}

// plain tells all of a value; a list of nothing is told as none is.
func plain(x any) string { return fmt.Sprintf("%+v", x) }

// brief is the beginning of what plain tells.
func brief(x any) string {
	s := plain(x)
	return s[:min(len(s), 900)]
}

// do is a world after some steps.
func do(t *testing.T, w api.World, l ...api.WorldStep) api.World {
	t.Helper()
	for i, s := range l {
		got, why := world.Do(w, s)
		if why != api.OK {
			t.Fatalf("step %d, %s: error %d", i, brief(s), why)
		}
		w = got
	}
	return w
}

// accepted is a world after some records.
func accepted(t *testing.T, w api.World, l ...api.Record) api.World {
	t.Helper()
	for _, r := range l {
		w = do(t, w, record(r))
	}
	return w
}

// settle is a world after all its queries were swept till nothing waits.
func settle(t *testing.T, w api.World) api.World {
	t.Helper()
	for i, q := range w.Server.Engine.Base.Queries {
		for waits(t, w, i) {
			w = do(t, w, about(api.WorldSweep, q.Name))
		}
	}
	return w
}

func waits(t *testing.T, w api.World, query int) bool {
	t.Helper()
	l, why := flow.Waits(w.Server.Engine.Flows[query])
	if why != api.OK {
		t.Fatal(why)
	}
	return len(l) > 0
}

// several is a world of several queries, whose subscribers r and s have heard about some epochs, and acknowledged some of them.
func several(t *testing.T) api.World {
	t.Helper()
	w := accepted(t, world.New(1<<20), schemas([]api.Type{number}, []api.Type{number}),
		install("all", source(1)), install("both", joined(source(1), source(0), []int{0}, []int{0})), install("loop", iterate(6, source(0), distinct(concat(source(0), next(variable(0)))))),
		put(0, up(0, 1, 1), up(1, 2, 2), up(1, -1, 1)), put(1, up(0, 1, 1), up(2, 3, 2)), subscribe("q", "all", 2), subscribe("r", "loop", 0), subscribe("s", "both", 1), epoch(api.RecordClose, 4))
	w = settle(t, w)
	hear, ack := func(name string) api.WorldStep { return about(api.WorldHear, name) }, func(name string) api.WorldStep { return about(api.WorldAck, name) }
	w = do(t, w, hear("s"), hear("r"), hear("r"), hear("r"), ack("r"), just(api.WorldSync, 0), ack("r"), hear("s"))
	return accepted(t, w, put(0, up(4, 1, 1), up(5, 1, 3)), put(1, up(4, -1, 1), up(6, -1, 2)), epoch(api.RecordClose, 6))
}

// fallen is the same without power.
func fallen(t *testing.T) api.World {
	t.Helper()
	return do(t, several(t), just(api.WorldFall, 0))
}

// change is a world with a change; its lists that are changed are not shared with others.
func change(w api.World, f func(*api.World)) api.World {
	w.Clients = slices.Clone(w.Clients)
	for i, c := range w.Clients {
		w.Clients[i].Heard = slices.Clone(c.Heard)
	}
	w.Server.Engine.Flows = slices.Clone(w.Server.Engine.Flows)
	w.Server.Disk.Files, w.Server.Disk.Waits = slices.Clone(w.Server.Disk.Files), slices.Clone(w.Server.Disk.Waits)
	f(&w)
	return w
}

// wantWorld holds that a world is another one.
func wantWorld(t *testing.T, name string, got api.World, why api.Errno, want api.World, no api.Errno) {
	t.Helper()
	if why != no {
		t.Errorf("%s: error %d, want %d", name, why, no)
	}
	if got.Up != want.Up {
		t.Errorf("%s: the power is on: %t, want %t", name, got.Up, want.Up)
	}
	if plain(got.Clients) != plain(want.Clients) {
		t.Errorf("%s: the clients are\n     %s\nwant %s", name, brief(got.Clients), brief(want.Clients))
	}
	if plain(got.Server.Disk) != plain(want.Server.Disk) {
		t.Errorf("%s: the disk is\n     %+.900q\nwant %+.900q", name, plain(got.Server.Disk), plain(want.Server.Disk))
	}
	if plain(got.Server) != plain(want.Server) {
		t.Errorf("%s: the server is\n     %s\nwant %s", name, brief(got.Server), brief(want.Server))
	}
	if no != api.ErrState && world.Check(got) != api.OK {
		t.Errorf("%s: not valid", name)
	}
}

// wantDo holds what a step makes of a world.
func wantDo(t *testing.T, name string, w api.World, s api.WorldStep, want api.World, no api.Errno) {
	t.Helper()
	got, why := world.Do(w, s)
	wantWorld(t, name+": "+brief(s), got, why, want, no)
}

// 20.1
func TestNew(t *testing.T) {
	for _, x := range [][2]int{{0, 0}, {1, 1}, {100, 100}, {math.MaxInt, math.MaxInt}, {-1, 0}, {math.MinInt, 0}} {
		w := world.New(x[0])
		want := api.World{Up: true, Server: api.Server{Disk: api.Disk{Room: x[1], Fuse: -1}}}
		wantWorld(t, fmt.Sprint("room ", x[0]), w, api.OK, want, api.OK)
		_, why := world.Do(w, record(schemas(nil)))
		if (why == api.OK) != (x[1] >= 100) {
			t.Errorf("room %d: error %d", x[0], why)
		}
	}
}

// wrong is worlds that are not valid.
func wrong(t *testing.T) map[string]api.World {
	l := map[string]api.World{}
	for name, f := range map[string]func(*api.World){
		"a disk that is down":         func(w *api.World) { w.Server.Disk.Down = true },
		"a disk that is not valid":    func(w *api.World) { w.Server.Disk.Room = -1 },
		"a checkpoint too late":       func(w *api.World) { w.Server.Gen = maxNumber + 1 },
		"an engine that is not valid": func(w *api.World) { w.Server.Engine.Flows = nil },
		"a base that is not valid":    func(w *api.World) { w.Server.Engine.Base.Since = 9 },
		"clients in another order":    func(w *api.World) { slices.Reverse(w.Clients) },
		"one client twice":            func(w *api.World) { w.Clients = append(w.Clients, w.Clients[1]) },
		"two clients without a name":  func(w *api.World) { w.Clients = make([]api.Client, 2) },
		"a name too long":             func(w *api.World) { w.Clients[1].Name = strings.Repeat("s", 33) },
		"a name too long, alone":      func(w *api.World) { w.Clients = []api.Client{{Name: strings.Repeat("s", 33)}} },
	} {
		l[name] = change(several(t), f)
	}
	engine := several(t).Server.Engine
	for name, f := range map[string]func(*api.World){
		"without power, a disk that is not valid":   func(w *api.World) { w.Server.Disk.Room = -1 },
		"without power, a file without a name":      func(w *api.World) { w.Server.Disk.Files = make([]api.File, 1) },
		"without power, a checkpoint":               func(w *api.World) { w.Server.Gen = 1 },
		"without power, an engine":                  func(w *api.World) { w.Server.Engine = engine },
		"without power, a base":                     func(w *api.World) { w.Server.Engine.Base = engine.Base },
		"without power, flows":                      func(w *api.World) { w.Server.Engine.Flows = make([]api.Flow, 1) },
		"without power, schemas":                    func(w *api.World) { w.Server.Engine.Base.Schemas = make([][]api.Type, 1) },
		"without power, sources":                    func(w *api.World) { w.Server.Engine.Base.Sources = make([][]api.Update, 1) },
		"without power, queries":                    func(w *api.World) { w.Server.Engine.Base.Queries = make([]api.Query, 1) },
		"without power, subscribers":                func(w *api.World) { w.Server.Engine.Base.Subs = make([]api.Sub, 1) },
		"without power, something closed":           func(w *api.World) { w.Server.Engine.Base.Closed = 1 },
		"without power, something held":             func(w *api.World) { w.Server.Engine.Base.Since = 1 },
		"without power, clients in another order":   func(w *api.World) { slices.Reverse(w.Clients) },
		"without power, a client of too long names": func(w *api.World) { w.Clients = []api.Client{{Name: strings.Repeat("s", 33)}} },
	} {
		l[name] = change(fallen(t), f)
	}
	return l
}

// 20.1
func TestCheck(t *testing.T) {
	w := several(t)
	names := func(l ...string) api.World {
		return change(w, func(w *api.World) {
			w.Clients = nil
			for i, name := range l {
				w.Clients = append(w.Clients, api.Client{Name: name, First: uint64(i) << 60, Heard: make([][]api.Count, i)})
			}
		})
	}
	down := change(fallen(t), func(w *api.World) { w.Server.Disk.Down = true })
	empty := change(fallen(t), func(w *api.World) {
		w.Server.Engine = api.Engine{Base: api.Base{Schemas: [][]api.Type{}, Sources: [][]api.Update{}, Queries: []api.Query{}, Subs: []api.Sub{}}, Flows: []api.Flow{}}
		w.Server.Disk.Waits = []api.Write{}
	})
	for name, w := range map[string]api.World{
		"nothing": {}, "nothing, but power": {Up: true}, "a new one": world.New(9), "several": w, "no clients": names(), "fallen": fallen(t), "its disk is down": down, "empty lists": empty,
		"a client without a name": names(""), "clients without subscribers": names("", "\x00", "a", "b", strings.Repeat("c", 32), "\xff"), "names of one length": names("aa", "ab", "ba"),
		"the last epoch": change(w, func(w *api.World) { w.Clients[0].First = math.MaxUint64 }),
	} {
		if why := world.Check(w); why != api.OK {
			t.Errorf("%s: error %d", name, why)
		}
	}
	for name, w := range wrong(t) {
		if why := world.Check(w); why != api.ErrState {
			t.Errorf("%s: Check: error %d", name, why)
		}
		for _, kind := range append([]api.WorldKind{api.WorldNone, api.WorldCount, 255}, kinds...) {
			for _, s := range []api.WorldStep{{Kind: kind}, {Kind: kind, Record: epoch(api.RecordClose, 9), Name: "s", N: 1, Tear: 1}} {
				wantDo(t, name, w, s, api.World{}, api.ErrState)
			}
		}
	}
}

// 20.2: the errors that come ahead of a step leave the world as it was, and no client is removed.
func TestPossible(t *testing.T) {
	for name, w := range map[string]api.World{"several": several(t), "nothing": {}, "a new one": world.New(9), "fallen": fallen(t), "its disk is down": change(fallen(t), func(w *api.World) { w.Server.Disk.Down = true }), "its disk is none of a server": {Server: api.Server{Disk: api.Disk{Room: 9, Files: []api.File{{Name: "base", Data: "x"}}}}}} {
		stale := change(w, func(w *api.World) {
			w.Clients = slices.Insert(w.Clients, 0, api.Client{Name: "gone", First: 5, Heard: make([][]api.Count, 3)})
		})
		for _, w := range []api.World{w, stale} {
			for _, kind := range []api.WorldKind{api.WorldNone, api.WorldCount, api.WorldCount + 1, 255} {
				wantDo(t, name, w, api.WorldStep{Kind: kind}, w, api.ErrForm)
				wantDo(t, name, w, api.WorldStep{Kind: kind, Record: epoch(api.RecordClose, 9), Name: "s", N: 1, Tear: 1}, w, api.ErrForm)
			}
			for _, kind := range kinds {
				no := api.ErrPower
				if w.Up {
					no = api.ErrState
				}
				if w.Up == (kind == api.WorldRise) {
					wantDo(t, name, w, api.WorldStep{Kind: kind}, w, no)
					wantDo(t, name, w, api.WorldStep{Kind: kind, Record: epoch(api.RecordClose, 9), Name: "s", N: 1, Tear: 1}, w, no)
				}
			}
		}
	}
}

// 20.2: records, syncs and checkpoints are the server's.
func TestServer(t *testing.T) {
	w := several(t)
	for _, w := range []api.World{w, world.New(1000), world.New(5), change(w, func(w *api.World) { w.Server.Gen = maxNumber }), change(w, func(w *api.World) { w.Server.Disk.Room = 0 })} {
		for fuse := -1; fuse < 7; fuse++ {
			w.Server.Disk.Fuse = fuse
			hold := func(step api.WorldStep, s api.Server, why api.Errno) {
				t.Helper()
				want := w
				want.Server, want.Up = s, why != api.ErrPower
				wantDo(t, fmt.Sprint("fuse ", fuse), w, step, want, why)
			}
			for _, r := range []api.Record{{}, schemas(nil), schemas([]api.Type{number}, []api.Type{number}), put(0, up(6, 1, 7)), put(9), epoch(api.RecordClose, 7), epoch(api.RecordClose, 2), install("x", tally(source(0))), named(api.RecordMark, "all", 2), named(api.RecordMark, "all", 6), subscribe("x", "all", 2)} {
				s, why := serve.Do(w.Server, r)
				hold(record(r), s, why)
			}
			s, why := serve.Sync(w.Server)
			hold(just(api.WorldSync, 0), s, why)
			s, why = serve.Checkpoint(w.Server)
			hold(just(api.WorldCheckpoint, 0), s, why)
		}
	}
	// An error of the disk may leave another one.
	left := change(w, func(w *api.World) {
		w.Server.Disk, _ = disk.Do(w.Server.Disk, api.Write{Kind: api.WriteAppend, Name: "base.tmp", Data: "x"})
		s, _ := disk.See(w.Server.Disk)
		w.Server.Disk.Room = 0
		for _, f := range s {
			w.Server.Disk.Room += len(f.Data)
		}
	})
	got, why := world.Do(left, just(api.WorldCheckpoint, 0))
	if n := len(left.Server.Disk.Waits); why != api.ErrFull || len(got.Server.Disk.Waits) != n+1 || !got.Up {
		t.Errorf("a checkpoint without room: error %d, %d writes wait, want %d", why, len(got.Server.Disk.Waits), n+1)
	}
}

// 20.2: nodes are run, spines work, and the fuse is set.
func TestEngine(t *testing.T) {
	w := several(t)
	for i, q := range w.Server.Engine.Base.Queries {
		for _, n := range []int{-1, 0, 1, 2, 3, len(w.Server.Engine.Flows[i].Nodes), math.MaxInt, math.MinInt} {
			want := w
			e, why := engine.Pick(w.Server.Engine, q.Name, n)
			want.Server.Engine = e
			wantDo(t, "pick", w, pick(q.Name, n), want, why)
		}
		want := w
		l, _ := flow.Waits(w.Server.Engine.Flows[i])
		for _, n := range l {
			want.Server.Engine, _ = engine.Pick(want.Server.Engine, q.Name, n)
		}
		if plain(want) == plain(w) {
			t.Errorf("nothing waits of %s", q.Name)
		}
		wantDo(t, "sweep", w, about(api.WorldSweep, q.Name), want, api.OK)
		done := settle(t, w)
		wantDo(t, "sweep", done, about(api.WorldSweep, q.Name), done, api.OK)
	}
	for _, name := range []string{"", "x", "s", "al", "alll"} {
		wantDo(t, "no query", w, about(api.WorldSweep, name), w, api.ErrNone)
		wantDo(t, "no query", w, pick(name, 0), w, api.ErrNone)
		wantDo(t, "nothing", world.New(1), about(api.WorldSweep, name), world.New(1), api.ErrNone)
	}
	busy := w
	for i := range 6 {
		busy = settle(t, accepted(t, busy, put(0, up(6, 1, 10+i)), put(1, up(6, 1, i), up(7, 2, i))))
	}
	worked := 0
	for _, fuel := range []int{math.MinInt, -1, 0, 1, 2, 7, math.MaxInt} {
		want := busy
		want.Server.Engine, _ = engine.Work(busy.Server.Engine, fuel)
		if plain(want) != plain(busy) {
			worked++
		}
		wantDo(t, "work", busy, just(api.WorldWork, fuel), want, api.OK)
	}
	if worked < 3 {
		t.Errorf("only %d worked", worked)
	}
	for _, x := range [][2]int{{-1, -1}, {math.MinInt, -1}, {-2, -1}, {0, 0}, {1, 1}, {math.MaxInt, math.MaxInt}} {
		for _, fuse := range []int{-9, -1, 0, 5} {
			w := change(w, func(w *api.World) { w.Server.Disk.Fuse = fuse })
			want := w
			want.Server.Disk.Fuse = x[1]
			wantDo(t, "fuse", w, just(api.WorldFuse, x[0]), want, api.OK)
		}
	}
}
