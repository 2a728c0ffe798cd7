package input_test

import (
	"slices"
	"testing"

	"freshet/api"
	"freshet/input"
)

// wantMake holds which records make a base, and that they do so.
func wantMake(t *testing.T, name string, b api.Base, want ...api.Record) {
	t.Helper()
	l, why := input.Make(b)
	if why != api.OK || plain(l) != plain(want) {
		t.Errorf("%s: error %d\n got %s\nwant %s", name, why, brief(plain(l)), brief(plain(want)))
	}
	wantMade(t, name, b, l)
}

// wantMade holds that records, as they are encoded and decoded, make a base.
func wantMade(t *testing.T, name string, b api.Base, l []api.Record) {
	t.Helper()
	var made api.Base
	for _, r := range l {
		s, why := input.Encode(r)
		d, no := input.Decode(s)
		if why != api.OK || no != api.OK || plain(d) != plain(r) {
			t.Fatalf("%s: %s is encoded and decoded as %s, errors %d and %d", name, brief(plain(r)), brief(plain(d)), why, no)
		}
		if made, why = input.Apply(made, d); why != api.OK {
			t.Fatalf("%s: %s: error %d", name, brief(plain(r)), why)
		}
	}
	if plain(made) != plain(b) {
		t.Errorf("%s: made\n     %s\nwant %s", name, brief(plain(made)), brief(plain(b)))
	}
}

// 17.2, 17.6
func TestMake(t *testing.T) {
	wantMake(t, "a zero base", api.Base{})
	wantMake(t, "a source", begun(), schemas([]api.Type{number}))
	wantMake(t, "an empty schema", api.Base{Schemas: [][]api.Type{nil}, Sources: make([][]api.Update, 1)}, schemas(nil))
	b := full()
	wantMake(t, "all of it", b,
		schemas(b.Schemas...),
		put(0, b.Sources[0]...),
		put(2, b.Sources[2]...),
		epoch(api.RecordClose, 9),
		install("all", source(0)), named(api.RecordMark, "all", 9),
		install("none", negate(source(1))),
		install("one", reduce(source(0), api.AggCount, 0, 1)), named(api.RecordMark, "one", 4),
		epoch(api.RecordHold, 3),
		subscribe("a", "one", 3),
		subscribe("b", "all", 3), named(api.RecordAck, "b", 3),
		subscribe("c", "one", maxNumber-1), named(api.RecordAck, "c", maxNumber-1))
	wantMake(t, "nothing is held", with(begun(), func(b *api.Base) {
		b.Closed = 1
		b.Queries = []api.Query{{Name: "q", Plan: source(0)}}
		b.Subs = []api.Sub{{Name: "r", Query: "q"}, {Name: "s", Query: "q", Next: 1, Begun: true}}
	}), schemas([]api.Type{number}), epoch(api.RecordClose, 1), install("q", source(0)), subscribe("r", "q", 0), subscribe("s", "q", 0), named(api.RecordAck, "s", 0))
	wantMake(t, "all is held", with(begun(), func(b *api.Base) {
		b.Sources[0] = ups(up(maxNumber, least, 0))
		b.Closed, b.Since = maxNumber, maxNumber
		b.Queries = []api.Query{{Name: "q", Plan: source(0), Done: maxNumber}}
		b.Subs = []api.Sub{{Name: "s", Query: "q", Next: maxNumber}}
	}), schemas([]api.Type{number}), put(0, up(maxNumber, least, 0)), epoch(api.RecordClose, maxNumber), install("q", source(0)), named(api.RecordMark, "q", maxNumber), epoch(api.RecordHold, maxNumber), subscribe("s", "q", maxNumber))
	wantMake(t, "a long plan", with(begun(), func(b *api.Base) { b.Queries = []api.Query{{Name: "q", Plan: sized("q", maxData)}} }),
		schemas([]api.Type{number}), install("q", sized("q", maxData)))
}

// 17.2: as many updates at a time as a record has at most.
func TestMakeParts(t *testing.T) {
	for n := range 5*maxList + 2 {
		b := api.Base{Schemas: [][]api.Type{{number}, {number, number}}, Sources: make([][]api.Update, 2)}
		want := []api.Record{schemas(b.Schemas...)}
		for i := range b.Sources {
			for k := range n / (1 + i) {
				b.Sources[i] = append(b.Sources[i], up(uint64(k%3), 1, []any{k / 3, k / 3}[:1+i]...))
			}
			for part := range slices.Chunk(b.Sources[i], maxList) {
				want = append(want, put(i, part...))
			}
		}
		wantMake(t, "many updates", b, want...)
	}
}
