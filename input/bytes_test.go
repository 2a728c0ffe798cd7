package input_test

import (
	"encoding/binary"
	"encoding/hex"
	"slices"
	"strings"
	"testing"

	"freshet/api"
	"freshet/input"
	"freshet/value"
)

// coder writes encodings as they are written down.
type coder []byte

func (c *coder) count(n int)    { *c = binary.AppendUvarint(*c, uint64(n)) }
func (c *coder) number(n int64) { *c = binary.AppendVarint(*c, n) }
func (c *coder) octet(b uint8)  { *c = append(*c, b) }
func (c *coder) epoch(n uint64) { *c = binary.AppendUvarint(*c, n) }
func (c *coder) text(s string)  { c.count(len(s)); *c = append(*c, s...) }
func (c *coder) numbers(l []int) {
	c.count(len(l))
	c.each(len(l), func(i int) { c.number(int64(l[i])) })
}

func (c *coder) each(n int, one func(int)) {
	for i := range n {
		one(i)
	}
}

func (c *coder) row(l ...api.Value) {
	c.count(len(l))
	for _, v := range l {
		if v.IsText {
			c.octet(1)
			c.text(v.S)
		} else {
			c.octet(0)
			c.number(v.N)
		}
	}
}

func (c *coder) expr(e api.Expr) {
	c.octet(uint8(e.Op))
	c.number(int64(e.Col))
	c.row(e.Const)
	c.count(len(e.Kids))
	c.each(len(e.Kids), func(i int) { c.expr(e.Kids[i]) })
}

func (c *coder) plan(p api.Plan) {
	c.octet(uint8(p.Kind))
	c.number(int64(p.N))
	c.count(len(p.Kids))
	c.each(len(p.Kids), func(i int) { c.plan(p.Kids[i]) })
	c.count(len(p.Exprs))
	c.each(len(p.Exprs), func(i int) { c.expr(p.Exprs[i]) })
	c.numbers(p.Cols)
	c.numbers(p.With)
	c.octet(uint8(p.Agg))
	c.number(int64(p.Rounds))
}

// uses reports whether a kind uses a field.
func uses(kind api.RecordKind, field string) bool {
	fields := map[api.RecordKind]string{
		api.RecordSchemas: " Schemas ", api.RecordPut: " Source List ", api.RecordClose: " Epoch ", api.RecordInstall: " Name Plan ", api.RecordDrop: " Name ",
		api.RecordMark: " Name Epoch ", api.RecordSub: " Name Query Epoch ", api.RecordAck: " Name Epoch ", api.RecordLeave: " Name ", api.RecordHold: " Epoch ",
	}
	return strings.Contains(fields[kind], " "+field+" ")
}

// code is the encoding of a record.
func code(r api.Record) string {
	var c coder
	c.octet(uint8(r.Kind))
	if uses(r.Kind, "Schemas") {
		c.count(len(r.Schemas))
		for _, s := range r.Schemas {
			c.count(len(s))
			c.each(len(s), func(i int) { c.octet(uint8(s[i])) })
		}
	}
	if uses(r.Kind, "Source") {
		c.number(int64(r.Source))
		c.count(len(r.List))
		for _, u := range r.List {
			c.row(u.Row...)
			c.epoch(u.Time.Epoch)
			c.number(u.Diff)
		}
	}
	if uses(r.Kind, "Name") {
		c.text(r.Name)
	}
	if uses(r.Kind, "Query") {
		c.text(r.Query)
	}
	if uses(r.Kind, "Plan") {
		c.plan(r.Plan)
	}
	if uses(r.Kind, "Epoch") {
		c.epoch(r.Epoch)
	}
	return string(c)
}

// wantCode holds that a record has an encoding, and that it is what Decode finds there.
func wantCode(t *testing.T, r api.Record, want string) {
	t.Helper()
	s, why := input.Encode(r)
	if s != want || why != api.OK {
		t.Errorf("%s is %s, error %d; want %s", brief(plain(r)), brief(hex.EncodeToString([]byte(s))), why, brief(hex.EncodeToString([]byte(want))))
	}
	if d, why := input.Decode(want); plain(d) != plain(r) || why != api.OK {
		t.Errorf("%s: %s, error %d; want %s", brief(hex.EncodeToString([]byte(want))), brief(plain(d)), why, brief(plain(r)))
	}
}

func wantNoCode(t *testing.T, name string, r api.Record, want api.Errno) {
	t.Helper()
	if s, why := input.Encode(r); s != "" || why != want {
		t.Errorf("%s: Encode: %d bytes, error %d, want %d", name, len(s), why, want)
	}
}

func wantNoRecord(t *testing.T, name, s string) {
	t.Helper()
	if r, why := input.Decode(s); why != api.ErrForm || plain(r) != plain(api.Record{}) {
		t.Errorf("%s: Decode of %s: %s, error %d", name, brief(hex.EncodeToString([]byte(s))), brief(plain(r)), why)
	}
}

func bytesOf(t *testing.T, s string) string {
	t.Helper()
	b, err := hex.DecodeString(strings.ReplaceAll(s, " ", ""))
	if err != nil {
		t.Fatal(err)
	}
	return string(b)
}

// 17.3: encodings that are written out.
func TestEncode(t *testing.T) {
	for _, x := range []struct {
		r    api.Record
		want string
	}{
		{api.Record{Kind: api.RecordPut, List: ups(up(300, 1, 7))}, "02 00 01 01 00 0E AC 02 02"},
		{api.Record{Kind: api.RecordSchemas}, "01 00"},
		{api.Record{Kind: api.RecordSchemas, Schemas: [][]api.Type{{number, text}, {}, {text}}}, "01 03 02 01 02 00 01 02"},
		{api.Record{Kind: api.RecordPut}, "02 00 00"},
		{api.Record{Kind: api.RecordPut, Source: -1, List: ups(up(0, -2, "é", -1), up(5, 0))}, "02 01 02 02 01 02 C3 A9 00 01 00 03 00 05 00"},
		{api.Record{Kind: api.RecordClose, Epoch: 300}, "03 AC 02"},
		{api.Record{Kind: api.RecordClose}, "03 00"},
		{api.Record{Kind: api.RecordInstall, Name: "q", Plan: source(3)}, "04 01 71 01 06 00 00 00 00 00 00"},
		{api.Record{Kind: api.RecordInstall, Plan: filter(source(0), op(api.ExprNot, con("b")))}, "04 00 04 00 01 01 00 00 00 00 00 00 00 01 0B 00 01 00 00 01 02 00 01 01 01 62 00 00 00 00 00"},
		{api.Record{Kind: api.RecordInstall, Name: "j", Plan: joined(source(0), variable(1), []int{1, -1}, []int{64})}, "04 01 6A 07 00 02 01 00 00 00 00 00 00 00 02 02 00 00 00 00 00 00 00 02 02 01 01 80 01 00 00"},
		{api.Record{Kind: api.RecordInstall, Name: "i", Plan: iterate(16, source(0), reduce(source(0), api.AggTop, 8))}, "04 01 69 0A 00 02 01 00 00 00 00 00 00 00 08 10 01 01 00 00 00 00 00 00 00 00 00 00 05 00 00 00 00 00 20"},
		{api.Record{Kind: api.RecordDrop, Name: "q"}, "05 01 71"},
		{api.Record{Kind: api.RecordMark, Name: "q", Epoch: 2}, "06 01 71 02"},
		{api.Record{Kind: api.RecordSub, Name: "s", Query: "qq", Epoch: 1}, "07 01 73 02 71 71 01"},
		{api.Record{Kind: api.RecordSub}, "07 00 00 00"},
		{api.Record{Kind: api.RecordAck, Name: "s", Epoch: 1 << 63}, "08 01 73 80 80 80 80 80 80 80 80 80 01"},
		{api.Record{Kind: api.RecordLeave, Name: "\x00\xff"}, "09 02 00 FF"},
		{api.Record{Kind: api.RecordHold, Epoch: 127}, "0A 7F"},
	} {
		wantCode(t, x.r, bytesOf(t, x.want))
		if s := code(x.r); s != bytesOf(t, x.want) {
			t.Errorf("the test's own encoding of %s is %x", brief(plain(x.r)), s)
		}
	}
}

// encodable is records of all kinds, as Encode accepts them; others need not.
func encodable() []api.Record {
	name := strings.Repeat("\xff", maxName)
	wide := slices.Repeat([]api.Value{{IsText: true, S: strings.Repeat("x", maxText)}}, maxCols)
	many := slices.Repeat(ups(api.Update{Row: wide, Time: api.Time{Epoch: 1<<64 - 1}, Diff: least}), maxList)
	return []api.Record{
		{Kind: api.RecordSchemas},
		{Kind: api.RecordSchemas, Schemas: slices.Repeat([][]api.Type{slices.Repeat([]api.Type{number, text}, 4)}, maxSources)},
		{Kind: api.RecordPut, Source: 1<<63 - 1, List: many},
		{Kind: api.RecordPut, Source: -1 << 63, List: ups(up(5, 0), up(3, greatest, 1, ""), up(5, -1), up(5, 1))},
		{Kind: api.RecordClose, Epoch: 1<<64 - 1},
		{Kind: api.RecordInstall, Plan: source(-1)},
		{Kind: api.RecordInstall, Name: name, Plan: mapped(source(1), nots(maxDepth-1, col(-7)), con(strings.Repeat("y", maxText)), con(least), op(api.ExprIf, con(1), con("a"), op(api.ExprAdd, col(1), con(1))))},
		{Kind: api.RecordInstall, Name: name, Plan: negates(maxDepth-1, source(7))},
		{Kind: api.RecordInstall, Name: "c", Plan: concat(slices.Repeat([]api.Plan{source(0)}, maxNodes-1)...)},
		{Kind: api.RecordInstall, Name: "l", Plan: iterate(16, source(1), iterate(1, distinct(variable(0)), joined(variable(1), variable(0), []int{0, 1 << 40}, []int{1, 1, -5})))},
		{Kind: api.RecordInstall, Name: "r", Plan: concat(reduce(source(0), api.AggSum, 1, 0, 1), reduce(source(0), api.AggCount, 0), reduce(filter(source(0), col(0)), api.AggMin, -1), reduce(source(9), api.AggMax, 1<<62, 300, -300))},
		{Kind: api.RecordInstall, Name: "one", Plan: sized("one", maxData)},
		{Kind: api.RecordDrop, Name: name},
		{Kind: api.RecordMark, Name: name, Epoch: maxNumber},
		{Kind: api.RecordSub, Name: name, Query: name, Epoch: maxNumber + 1},
		{Kind: api.RecordAck, Name: name},
		{Kind: api.RecordLeave},
		{Kind: api.RecordHold, Epoch: 128},
	}
}

// 17.3, 17.6: what is encoded is decoded, but not if it is cut short, or followed by another byte.
func TestThereAndBack(t *testing.T) {
	for _, r := range encodable() {
		s := code(r)
		wantCode(t, r, s)
		for n := range len(s) {
			if n < 500 || n > len(s)-9 {
				wantNoRecord(t, "cut short", s[:n])
			}
		}
		wantNoRecord(t, "a byte more", s+"\x00")
		wantNoRecord(t, "twice", s+s)
	}
	for kind := range 256 {
		wantNoRecord(t, "a byte", string([]byte{byte(kind)}))
	}
}

// 17.3: whatever is decoded is what is encoded so.
func TestChanged(t *testing.T) {
	found := 0
	for _, r := range encodable() {
		s := code(r)
		if len(s) > 9999 {
			continue
		}
		for i := range min(len(s), 300) {
			for x := range 256 {
				if i > 40 && x > 8 && x < 127 || x > 130 && x < 250 {
					continue
				}
				b := []byte(s)
				b[i] = byte(x)
				d, why := input.Decode(string(b))
				if why != api.OK {
					if why != api.ErrForm || d.Kind != api.RecordNone {
						t.Fatalf("%x is decoded as %s, error %d", b, plain(d), why)
					}
					continue
				}
				found++
				if again, why := input.Encode(d); again != string(b) || why != api.OK || code(d) != string(b) {
					t.Fatalf("%x is decoded as %s, which is %x, error %d", b, plain(d), again, why)
				}
				if string(b) != s && plain(d) == plain(r) {
					t.Fatalf("%x is decoded as %s, as is %x", b, plain(d), s)
				}
			}
		}
	}
	if found < 10000 {
		t.Errorf("only %d records", found)
	}
}

// 17.3: numbers that are not as short as they can be, and what Encode does not accept.
func TestDecodeErrors(t *testing.T) {
	for name, s := range map[string]string{
		"nothing":                  "",
		"no kind":                  "00",
		"a kind too great":         "0B 00",
		"a long count":             "03 80 00",
		"a longer count":           "03 AC 82 00",
		"a count too great":        "03 FF FF FF FF FF FF FF FF FF 02",
		"a long number":            "02 80 00 00",
		"a long number of types":   "01 01 81 00 01",
		"a type too great":         "01 01 01 03",
		"no type":                  "01 01 01 00",
		"too many types":           "01 01 09 01 01 01 01 01 01 01 01 01",
		"too many schemas":         "01 09 00 00 00 00 00 00 00 00 00",
		"very many schemas":        "01 FF FF FF FF FF FF FF FF FF 01",
		"very many updates":        "02 00 FF FF FF FF FF FF FF FF FF 01 00 00 00",
		"a value that is not one":  "02 00 01 01 02 00 00 02",
		"a long number in a row":   "02 00 01 01 00 8E 00 00 02",
		"too many values":          "02 00 01 09 00 00 00 00 00 00 00 00 00 00 00 00 00 00 00 00 00 00 00 02",
		"a long Diff":              "02 00 01 00 00 82 00",
		"a name too long":          "05 21" + strings.Repeat("61", maxName+1),
		"a query too long":         "07 01 61 21" + strings.Repeat("61", maxName+1) + "00",
		"a name that is cut short": "05 05 61 61",
		"no plan":                  "04 01 71 00 00 00 00 00 00 00 00",
		"a plan of a wrong kind":   "04 01 71 0B 00 00 00 00 00 00 00",
		"Rounds of a source":       "04 01 71 01 00 00 00 00 00 00 02",
		"a kid too few":            "04 01 71 06 00 00 00 00 00 00 00",
		"a filter of none":         "04 01 71 04 00 01 01 00 00 00 00 00 00 00 00 00 00 00 00",
		"no value":                 "04 01 71 04 00 01 01 00 00 00 00 00 00 00 01 01 00 00 00 00 00 00 00",
		"two values":               "04 01 71 04 00 01 01 00 00 00 00 00 00 00 01 01 00 02 00 00 00 00 00 00 00 00 00",
		"a value that is not used": "04 01 71 04 00 01 01 00 00 00 00 00 00 00 01 01 00 01 00 02 00 00 00 00 00",
	} {
		wantNoRecord(t, name, bytesOf(t, s))
	}
	wantCode(t, api.Record{Kind: api.RecordInstall, Name: "q", Plan: filter(source(0), col(0))}, bytesOf(t, "04 01 71 04 00 01 01 00 00 00 00 00 00 00 01 01 00 01 00 00 00 00 00 00 00"))
	for name, r := range unencodable() {
		wantNoRecord(t, name, code(r))
	}
	wantNoRecord(t, "one byte too long", code(api.Record{Kind: api.RecordInstall, Name: "one", Plan: sized("one", maxData+1)}))
	// Plans, and expressions, one within the other, with no end.
	for name, s := range map[string]string{
		"plans":       "04 00" + strings.Repeat("06 00 01", 20000),
		"expressions": "04 00 04 00 00 01" + strings.Repeat("0B 00 01 00 00 01", 10000),
		"lists":       "04 00" + strings.Repeat("05 00 03", 20000),
	} {
		wantNoRecord(t, name, bytesOf(t, s))
	}
	wantNoRecord(t, "very long", strings.Repeat("\x01", 1<<24))
}

// unencodable is records that Encode does not accept, though they have nothing but what their kind uses.
func unencodable() map[string]api.Record {
	put := func(l ...api.Update) api.Record { return api.Record{Kind: api.RecordPut, List: l} }
	install := func(p api.Plan) api.Record { return api.Record{Kind: api.RecordInstall, Name: "q", Plan: p} }
	name := strings.Repeat("x", maxName+1)
	return map[string]api.Record{
		"no type":                      {Kind: api.RecordSchemas, Schemas: [][]api.Type{{number}, {api.TypeNone}}},
		"a type too great":             {Kind: api.RecordSchemas, Schemas: [][]api.Type{{number, 3}}},
		"too many types":               {Kind: api.RecordSchemas, Schemas: [][]api.Type{slices.Repeat([]api.Type{number}, maxCols+1)}},
		"too many schemas":             {Kind: api.RecordSchemas, Schemas: make([][]api.Type, maxSources+1)},
		"too many updates":             put(slices.Repeat(ups(up(1, 1)), maxList+1)...),
		"a row too long":               put(up(1, 1, 1, 2, 3, 4, 5, 6, 7, 8, 9)),
		"a text too long":              put(up(1, 1), up(1, 1, strings.Repeat("x", maxText+1))),
		"no plan":                      install(api.Plan{}),
		"a plan without kids":          install(concat()),
		"a plan with too many":         install(api.Plan{Kind: api.PlanNegate, Kids: []api.Plan{source(0), source(0)}}),
		"a plan too deep":              install(negates(maxDepth, source(0))),
		"too many plans":               install(concat(slices.Repeat([]api.Plan{source(0)}, maxNodes)...)),
		"too many loops":               install(iterate(1, source(0), iterate(1, source(0), iterate(1, source(0), source(0))))),
		"too many rounds":              install(iterate(17, source(0), source(0))),
		"an expression too deep":       install(mapped(source(0), nots(maxDepth, col(0)))),
		"an expression without kids":   install(mapped(source(0), op(api.ExprNot))),
		"an expression of no operator": install(filter(source(0), op(api.ExprCount))),
		"a column of a constant":       install(mapped(source(0), api.Expr{Op: api.ExprConst, Col: 1})),
		"a constant that is too long":  install(mapped(source(0), con(strings.Repeat("x", maxText+1)))),
		"an aggregate of none":         install(reduce(source(0), api.AggCountKinds, 0)),
		"a name too long":              {Kind: api.RecordInstall, Name: name, Plan: source(0)},
		"a name too long to drop":      {Kind: api.RecordDrop, Name: name},
		"a name too long to mark":      {Kind: api.RecordMark, Name: name},
		"a name too long for one":      {Kind: api.RecordSub, Name: name, Query: "q"},
		"a query too long":             {Kind: api.RecordSub, Name: "s", Query: name},
		"a name too long to ack":       {Kind: api.RecordAck, Name: name},
		"a name too long to leave":     {Kind: api.RecordLeave, Name: name},
	}
}

// 17.3
func TestEncodeErrors(t *testing.T) {
	for name, r := range unencodable() {
		wantNoCode(t, name, r, api.ErrForm)
	}
	put := func(u api.Update) api.Record { return api.Record{Kind: api.RecordPut, List: ups(up(1, 1), u)} }
	wantNoCode(t, "a key", put(keyed(up(1, 1))), api.ErrForm)
	wantNoCode(t, "a round", put(within(up(1, 1), 1)), api.ErrForm)
	wantNoCode(t, "a round of the next loop", put(within(up(1, 1), 0, 1)), api.ErrForm)
	wantNoCode(t, "a number with a text", put(api.Update{Row: []api.Value{{N: 1, S: "x"}}, Diff: 1}), api.ErrForm)
	wantNoCode(t, "a text with a number", put(api.Update{Row: []api.Value{{N: 1, IsText: true, S: "x"}}, Diff: 1}), api.ErrForm)
	for _, kind := range []api.RecordKind{api.RecordNone, api.RecordCount, 77, 255} {
		wantNoCode(t, "no kind", api.Record{Kind: kind}, api.ErrForm)
	}
	for _, r := range odd() {
		wantNoCode(t, "a field that is not used", r, api.ErrForm)
	}
	for _, n := range []int{maxData + 1, maxData + 2, 2 * maxData, 1 << 20} {
		p := sized("one", n)
		wantNoCode(t, "too long", api.Record{Kind: api.RecordInstall, Name: "one", Plan: p}, api.ErrLong)
		wantNoCode(t, "too long, with a name too long", api.Record{Kind: api.RecordInstall, Name: strings.Repeat("x", maxName+1), Plan: p}, api.ErrForm)
		wantNoCode(t, "too long, and not right", api.Record{Kind: api.RecordInstall, Name: "one", Plan: concat(p, api.Plan{})}, api.ErrForm)
		wantNoCode(t, "too long, with an Epoch", api.Record{Kind: api.RecordInstall, Name: "one", Plan: p, Epoch: 1}, api.ErrForm)
	}
	wantNoCode(t, "too long by the name", api.Record{Kind: api.RecordInstall, Name: "none", Plan: sized("one", maxData)}, api.ErrLong)
}

// some is a record of each kind that uses all of its fields.
func some() []api.Record {
	return []api.Record{
		{Kind: api.RecordSchemas, Schemas: [][]api.Type{{number}}},
		{Kind: api.RecordPut, Source: 1, List: ups(up(10, 1, 1))},
		{Kind: api.RecordClose, Epoch: 10},
		{Kind: api.RecordInstall, Name: "x", Plan: source(0)},
		{Kind: api.RecordDrop, Name: "one"},
		{Kind: api.RecordMark, Name: "one", Epoch: 5},
		{Kind: api.RecordSub, Name: "x", Query: "one", Epoch: 3},
		{Kind: api.RecordAck, Name: "b", Epoch: 4},
		{Kind: api.RecordLeave, Name: "b"},
		{Kind: api.RecordHold, Epoch: 3},
	}
}

// odd is records of each kind with a field that their kind does not use.
func odd() []api.Record {
	var l []api.Record
	for _, r := range some() {
		add := func(field string, change func(*api.Record)) {
			if o := r; !uses(r.Kind, field) {
				change(&o)
				l = append(l, o)
			}
		}
		add("Schemas", func(r *api.Record) { r.Schemas = [][]api.Type{nil} })
		add("Source", func(r *api.Record) { r.Source = 1 })
		add("Source", func(r *api.Record) { r.Source = -1 })
		add("List", func(r *api.Record) { r.List = ups(api.Update{}) })
		add("Name", func(r *api.Record) { r.Name = "a" })
		add("Query", func(r *api.Record) { r.Query = "\x00" })
		add("Epoch", func(r *api.Record) { r.Epoch = 1 })
		for _, p := range []api.Plan{source(0), {N: 1}, {N: -1}, {Kids: make([]api.Plan, 1)}, {Exprs: make([]api.Expr, 1)}, {Cols: []int{0}}, {With: []int{0}}, {Agg: 1}, {Rounds: 1}, {Kind: api.PlanCount}} {
			add("Plan", func(r *api.Record) { r.Plan = p })
		}
	}
	return l
}

// P1, 17.3: empty lists are as good as none.
func TestEmptyLists(t *testing.T) {
	none := api.Plan{Kids: []api.Plan{}, Exprs: []api.Expr{}, Cols: []int{}, With: []int{}}
	for _, r := range some() {
		e := r
		if len(e.Schemas) == 0 {
			e.Schemas = [][]api.Type{}
		}
		if len(e.List) == 0 {
			e.List = []api.Update{}
		}
		if e.Plan.Kind == api.PlanNone {
			e.Plan = none
		}
		if s, why := input.Encode(e); s != code(r) || why != api.OK {
			t.Errorf("%s: %x, error %d", plain(e), s, why)
		}
		b := full()
		if r.Kind == api.RecordSchemas {
			b = api.Base{}
		}
		want, no := input.Apply(b, r)
		if got, why := input.Apply(b, e); plain(got) != plain(want) || why != no || why != api.OK {
			t.Errorf("%s: error %d, want %d; %s, want %s", plain(e), why, no, brief(plain(got)), brief(plain(want)))
		}
	}
	u := api.Update{Key: []api.Value{}, Row: []api.Value{}, Diff: 1}
	if s, why := input.Encode(api.Record{Kind: api.RecordPut, List: ups(u)}); s != "\x02\x00\x01\x00\x00\x02" || why != api.OK {
		t.Errorf("an empty key: %x, error %d", s, why)
	}
}

// 17.3: the rows are as the layer of values has them.
func TestRows(t *testing.T) {
	for _, l := range [][]any{{}, {0}, {least, greatest, "", "x"}, {1, 2, 3, 4, 5, 6, 7, strings.Repeat("\x80", maxText)}} {
		s, why := value.Encode(row(l...))
		if why != api.OK {
			t.Fatal(l)
		}
		wantCode(t, api.Record{Kind: api.RecordPut, Source: 5, List: ups(up(1, -1, l...))}, "\x02\x0a\x01"+s+"\x01\x01")
	}
}
