package world_test

import (
	"fmt"
	"math"
	"reflect"
	"runtime"
	"strings"
	"testing"

	"freshet/api"
	"freshet/world"
)

// roomy is a copy of a value of which each list has two zero elements behind its end, and equal rows are one and the same.
func roomy[T any](x T) T {
	rows := map[string]reflect.Value{}
	var wide func(v reflect.Value)
	wide = func(v reflect.Value) {
		switch v.Kind() {
		case reflect.Slice:
			name := fmt.Sprint(v.Type(), v.Interface())
			c, found := rows[name]
			if !found {
				c = reflect.MakeSlice(v.Type(), v.Len(), v.Len()+2)
				reflect.Copy(c, v)
				for i := range c.Len() {
					wide(c.Index(i))
				}
				if _, ok := v.Interface().([]api.Value); ok {
					rows[name] = c
				}
			}
			v.Set(c)
		case reflect.Struct:
			for i := range v.NumField() {
				wide(v.Field(i))
			}
		case reflect.Array:
			for i := range v.Len() {
				wide(v.Index(i))
			}
		}
	}
	wide(reflect.ValueOf(&x).Elem())
	return x
}

// walk finds all lists in a value, of any depth, each with what is behind its end.
func walk(v reflect.Value, found func(reflect.Value)) {
	switch v.Kind() {
	case reflect.Slice:
		v = v.Slice3(0, v.Cap(), v.Cap())
		found(v)
		for i := range v.Len() {
			walk(v.Index(i), found)
		}
	case reflect.Struct:
		for i := range v.NumField() {
			walk(v.Field(i), found)
		}
	case reflect.Array:
		for i := range v.Len() {
			walk(v.Index(i), found)
		}
	}
}

// whole tells all of a value, also what is behind the ends of its lists.
func whole(l ...any) string {
	var s strings.Builder
	for _, x := range l {
		s.WriteString(plain(x))
		walk(reflect.ValueOf(x), func(v reflect.Value) { s.WriteString(plain(v.Interface())) })
	}
	return s.String()
}

// memory is the places of all lists that were seen.
type memory map[any]bool

// add takes up values, and reports whether all lists in them are new.
func (m memory) add(l ...any) bool {
	fresh := true
	for _, x := range l {
		walk(reflect.ValueOf(x), func(v reflect.Value) {
			for i := range v.Len() {
				p := v.Index(i).Addr().Interface()
				fresh = fresh && !m[p]
				m[p] = true
			}
		})
	}
	return fresh
}

// hold holds that what a call answers is new, twice, and that its arguments are as they were.
func hold(t *testing.T, name string, args []any, call func() []any) {
	t.Helper()
	told := whole(args...)
	m := memory{}
	m.add(args...)
	a, b := call(), call()
	if !m.add(a...) || !m.add(b...) {
		t.Errorf("%s: memory is shared", name)
	}
	if whole(args...) != told {
		t.Errorf("%s: an argument was changed", name)
	}
	if x, y := plain(a), plain(b); x != y {
		t.Errorf("%s: not the same answers:\n%s\n%s", name, x, y)
	}
}

// 20.3, P3, P4: worlds and steps are as they were, also behind the ends of their lists, and what is answered is new, and the same each time; nothing is left of a call.
func TestNewMemory(t *testing.T) {
	before := runtime.NumGoroutine()
	for _, room := range []int{-1, 0, 9} {
		hold(t, "a new one", nil, func() []any { return []any{world.New(room)} })
	}
	w := several(t)
	stale := with(w, client("p", 2), client("r", 0, lists(9)...), client("s", 9, []api.Count{count(1, 2)}))
	torn := fallen(t)
	torn.Clients = append(torn.Clients[:2:2], client("t", 0, []api.Count{count(3, 4)}))
	steps := []api.WorldStep{
		{}, pick("loop", 1), pick("x", 1), pick("all", -1), about(api.WorldSweep, "both"), about(api.WorldSweep, "x"), just(api.WorldWork, 5), just(api.WorldSync, 0), just(api.WorldCheckpoint, 0), just(api.WorldFuse, 3), just(api.WorldFall, 0),
		rise(0, 0), rise(1, 3), rise(math.MaxInt, 0), hear("q"), hear("r"), hear("s"), hear("x"), ack("q"), ack("r"), ack("s"),
	}
	for _, r := range []api.Record{{}, put(0, up(6, 1, 1), up(7, 1, 1)), epoch(api.RecordClose, 7), install("x", iterate(2, source(0), next(variable(0)))), named(api.RecordDrop, "both", 0), subscribe("x", "all", 4), named(api.RecordLeave, "r", 0)} {
		steps = append(steps, record(r))
	}
	for name, w := range map[string]api.World{"nothing": {}, "a new one": world.New(9), "several": w, "settled": settle(t, w), "clients that are removed": stale, "fallen": fallen(t), "fallen, with another client": torn, "wrong": wrong(t)["one client twice"]} {
		for _, fuse := range []int{-1, 0} {
			w.Server.Disk.Fuse = fuse
			w := roomy(w)
			for _, s := range steps {
				s := roomy(s)
				hold(t, name+": "+brief(s), []any{w, s}, func() []any {
					got, why := world.Do(w, s)
					return []any{got, why, world.Check(w)}
				})
			}
		}
	}
	if n := runtime.NumGoroutine(); n > before {
		t.Errorf("%d goroutines are left", n-before)
	}
}

// P1: what contains itself.
func TestEndless(t *testing.T) {
	p := []api.Plan{{Kind: api.PlanNegate}}
	p[0].Kids = p
	w := several(t)
	got, why := world.Do(w, record(install("x", p[0])))
	wantWorld(t, "a plan in itself", got, why, w, api.ErrLong)
	got, why = world.Do(w, record(api.Record{Kind: api.RecordDrop, Name: "all", Plan: p[0]}))
	wantWorld(t, "a plan in itself", got, why, w, api.ErrForm)
	got, why = world.Do(w, api.WorldStep{Kind: api.WorldFuse, N: -1, Record: install("x", p[0])})
	wantWorld(t, "a plan in itself that is of no matter", got, why, w, api.OK)
	for _, up := range []bool{false, true} {
		w := several(t)
		w.Up = up
		w.Server.Engine.Base.Queries[0].Plan = p[0]
		got, why := world.Do(w, just(api.WorldFuse, 0))
		wantWorld(t, "a plan in itself", got, why, api.World{}, api.ErrState)
	}
	many := make([]api.Client, 1<<16)
	for i := range many {
		many[i].Name = fmt.Sprintf("%05d", i)
	}
	wantDo(t, "many clients", with(w, many...), just(api.WorldFuse, -1), with(w), api.OK)
}
