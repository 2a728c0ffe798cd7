package serve_test

import (
	"fmt"
	"reflect"
	"runtime"
	"strings"
	"testing"

	"freshet/api"
	"freshet/serve"
)

// roomy is a copy of a value of which each list has two zero elements behind its end, and equal rows are one and the same.
func roomy[T any](x T) T {
	rows := map[string]reflect.Value{}
	var wide func(v reflect.Value)
	wide = func(v reflect.Value) {
		switch v.Kind() {
		case reflect.Slice:
			name := fmt.Sprint(v.Type(), v.Interface())
			c, found := rows[name]
			if !found {
				c = reflect.MakeSlice(v.Type(), v.Len(), v.Len()+2)
				reflect.Copy(c, v)
				for i := range c.Len() {
					wide(c.Index(i))
				}
				if _, ok := v.Interface().([]api.Value); ok {
					rows[name] = c
				}
			}
			v.Set(c)
		case reflect.Struct:
			for i := range v.NumField() {
				wide(v.Field(i))
			}
		case reflect.Array:
			for i := range v.Len() {
				wide(v.Index(i))
			}
		}
	}
	wide(reflect.ValueOf(&x).Elem())
	return x
}

// walk finds all lists in a value, of any depth, each with what is behind its end.
func walk(v reflect.Value, found func(reflect.Value)) {
	switch v.Kind() {
	case reflect.Slice:
		v = v.Slice3(0, v.Cap(), v.Cap())
		found(v)
		for i := range v.Len() {
			walk(v.Index(i), found)
		}
	case reflect.Struct:
		for i := range v.NumField() {
			walk(v.Field(i), found)
		}
	case reflect.Array:
		for i := range v.Len() {
			walk(v.Index(i), found)
		}
	}
}

// whole tells all of a value, also what is behind the ends of its lists.
func whole(l ...any) string {
	var s strings.Builder
	for _, x := range l {
		s.WriteString(plain(x))
		walk(reflect.ValueOf(x), func(v reflect.Value) { s.WriteString(plain(v.Interface())) })
	}
	return s.String()
}

// memory is the places of all lists that were seen.
type memory map[any]bool

// add takes up values, and reports whether all lists in them are new.
func (m memory) add(l ...any) bool {
	fresh := true
	for _, x := range l {
		walk(reflect.ValueOf(x), func(v reflect.Value) {
			for i := range v.Len() {
				p := v.Index(i).Addr().Interface()
				fresh = fresh && !m[p]
				m[p] = true
			}
		})
	}
	return fresh
}

// hold holds that what a call answers is new, twice, and that its arguments are as they were.
func hold(t *testing.T, name string, args []any, call func() []any) {
	t.Helper()
	told := whole(args...)
	m := memory{}
	m.add(args...)
	a, b := call(), call()
	if !m.add(a...) || !m.add(b...) {
		t.Errorf("%s: memory is shared", name)
	}
	if whole(args...) != told {
		t.Errorf("%s: an argument was changed", name)
	}
	if x, y := plain(a), plain(b); x != y {
		t.Errorf("%s: not the same answers:\n%s\n%s", name, x, y)
	}
}

// 19.5, P3, P4: servers, disks and records are as they were, also behind the ends of their lists, and what is answered is new, and the same each time; nothing is left of a call.
func TestNewMemory(t *testing.T) {
	before := runtime.NumGoroutine()
	all := several()
	down := with("base", "x")
	down.Down = true
	for name, d := range map[string]api.Disk{
		"nothing": {}, "a log": with("log.0", frames(all...)), "both": with("base", saved(1, all[:7]...), "log.1", frames(all[7:]...), "x", "y"), "a torn log": with("log.0", frames(all...)+"x", "log.tmp", "z"),
		"no checkpoint": with("base", "x"), "no log": with("log.0", frame("x")), "down": down, "wrong": with("", ""), "it waits": running(t).Disk,
	} {
		for fuse := -1; fuse < 4; fuse++ {
			d := roomy(d)
			d.Fuse = fuse
			hold(t, name, []any{d}, func() []any {
				s, why := serve.Start(d)
				return []any{s, why}
			})
		}
	}
	s := running(t)
	settled := s
	settled.Engine = settle(t, s.Engine)
	left := settled
	left.Disk.Waits = append(left.Disk.Waits, app("base.tmp", "x"))
	last := s
	last.Gen = maxNumber
	servers := map[string]api.Server{"nothing": {}, "new": start(t, with()), "several": s, "settled": settled, "a temporary file is left": left, "the last checkpoint": last, "wrong": wrong(t)["it is down"]}
	servers["little room"] = full(t, left, 9)["a byte less"]
	for name, s := range servers {
		for _, fuse := range []int{-1, 0, 1, 4} {
			s := roomy(s)
			s.Disk.Fuse = fuse
			hold(t, fmt.Sprint(name, ", fuse ", fuse), []any{s}, func() []any {
				a, why := serve.Sync(s)
				b, no := serve.Checkpoint(s)
				return []any{a, why, b, no, serve.Check(s)}
			})
		}
		for _, fuse := range []int{-1, 0} {
			s := roomy(s)
			s.Disk.Fuse = fuse
			for i, r := range []api.Record{{}, schemas([]api.Type{number}, nil), put(0, up(5, 1, 1), up(6, 1, 1)), put(1, up(7, 1, 1, "a")), epoch(api.RecordClose, 7), install("x", iterate(2, source(0), next(variable(0)))), named(api.RecordDrop, "both", 0), subscribe("x", "all", 4), epoch(api.RecordHold, 1)} {
				r := roomy(r)
				if fuse == 0 && i > 2 {
					break
				}
				hold(t, name+", "+brief(r), []any{s, r}, func() []any {
					a, why := serve.Do(s, r)
					return []any{a, why}
				})
			}
		}
	}
	if n := runtime.NumGoroutine(); n > before {
		t.Errorf("%d goroutines are left", n-before)
	}
}

// P1: records that contain themselves, and nodes that lead in circles.
func TestEndless(t *testing.T) {
	s := running(t)
	p := []api.Plan{{Kind: api.PlanNegate}}
	p[0].Kids = p
	got, why := serve.Do(s, install("x", p[0]))
	wantServer(t, "a plan in itself", got, why, s, api.ErrLong)
	got, why = serve.Do(s, api.Record{Kind: api.RecordDrop, Name: "all", Plan: p[0]})
	wantServer(t, "a plan in itself", got, why, s, api.ErrForm)
	// A frame whose record has plans within plans without end, as far as a frame goes.
	deep := "\x04\x01x"
	for len(deep) < 1<<16-3 {
		deep += "\x06\x00\x01"
	}
	for _, d := range []api.Disk{with("log.0", frames(schemas(nil))+frame(deep)), with("base", saved(1, schemas(nil))+frame(deep))} {
		got, why := serve.Start(d)
		wantServer(t, "deep plans", got, why, only(d), api.ErrForm)
	}
}

// 19.2, 19.4: as much as a record may have, and many of them.
func TestMany(t *testing.T) {
	s := start(t, with())
	s.Disk.Room = 1 << 24
	s = do(t, s, schemas([]api.Type{number, text}))
	var whole []api.Update
	for i := range 250 {
		var l []api.Update
		for k := range 16 {
			l = append(l, up(uint64(i), int64(1+k), i*16+k, fmt.Sprintf("%064d", k)))
		}
		whole = append(whole, l...)
		s = do(t, s, put(0, l...))
	}
	s = do(t, s, install("q", source(0)), epoch(api.RecordClose, maxNumber))
	s.Engine = settle(t, s.Engine)
	last := check(t, s)
	for _, s := range []api.Server{s, last, mustSync(t, do(t, last, subscribe("s", "q", 7)))} {
		got := start(t, s.Disk)
		if l := got.Engine.Base.Sources[0]; len(l) != len(whole) || got.Gen != s.Gen || plain(got.Engine.Base) != plain(s.Engine.Base) {
			t.Errorf("%d updates, want %d", len(l), len(whole))
		}
	}
	if l := see(t, last.Disk); len(l) != 1 || len(l[0].Data) < len(whole)*70 {
		t.Errorf("%d files", len(l))
	}
}
