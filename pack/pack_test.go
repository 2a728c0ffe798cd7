package pack_test

import (
	"encoding/binary"
	"hash/crc32"
	"math"
	"runtime"
	"strings"
	"testing"

	"freshet/api"
	"freshet/pack"
)

// maxData is written out, as the limit is itself part of what is tested.
const maxData = 65536

// counts: all numbers next to a power of two, at which the encodings grow longer.
func counts() []uint64 {
	l := []uint64{0, 300}
	for i := range 64 {
		n := uint64(1) << i
		l = append(l, n-1, n, n+1)
	}
	return append(l, math.MaxUint64-1, math.MaxUint64)
}

func numbers() []int64 {
	var l []int64
	for _, n := range counts() {
		l = append(l, int64(n), -int64(n))
	}
	return append(l, math.MaxInt64, math.MinInt64, math.MinInt64+1)
}

func texts() []string {
	return []string{"", "a", "hi", "\x00", "\x80", "é", "\xff\xfe", strings.Repeat("x", 127), strings.Repeat("y", 128), strings.Repeat("z", maxData-1), strings.Repeat("\x80", maxData)}
}

// noise is a long text of all bytes in no plain order, the same in each run.
func noise(n int) string {
	b, x := make([]byte, n), uint32(1)
	for i := range b {
		x = x*1664525 + 1013904223
		b[i] = byte(x >> 24)
	}
	return string(b)
}

func wantCount(t *testing.T, s string, n uint64, rest string, want api.Errno) {
	t.Helper()
	if m, r, why := pack.TakeCount(s); m != n || r != rest || why != want {
		t.Errorf("TakeCount(%x): %d, %q, error %d; want %d, %q, error %d", s, m, r, why, n, rest, want)
	}
}

func wantNumber(t *testing.T, s string, n int64, rest string, want api.Errno) {
	t.Helper()
	if m, r, why := pack.TakeNumber(s); m != n || r != rest || why != want {
		t.Errorf("TakeNumber(%x): %d, %q, error %d; want %d, %q, error %d", s, m, r, why, n, rest, want)
	}
}

func wantText(t *testing.T, s, text, rest string, want api.Errno) {
	t.Helper()
	if x, r, why := pack.TakeText(s); x != text || r != rest || why != want {
		t.Errorf("TakeText of %d bytes: %d bytes, rest %q, error %d; want %d bytes, rest %q, error %d", len(s), len(x), r, why, len(text), rest, want)
	}
}

func wantFrame(t *testing.T, s, payload, rest string, want api.Errno) {
	t.Helper()
	if x, r, why := pack.TakeFrame(s); x != payload || r != rest || why != want {
		t.Errorf("TakeFrame of %d bytes: %d bytes, rest %q, error %d; want %d bytes, rest %q, error %d", len(s), len(x), r, why, len(payload), rest, want)
	}
}

func frame(t *testing.T, payload string) string {
	t.Helper()
	f, why := pack.Frame(payload)
	if why != api.OK {
		t.Fatalf("Frame of %d bytes: error %d", len(payload), why)
	}
	return f
}

// 1.1
func TestSum(t *testing.T) {
	for s, want := range map[string]uint32{
		"":                         0,
		"a":                        0xc1d04330,
		"123456789":                0xe3069283,
		strings.Repeat("\x00", 32): 0x8a9136aa,
		strings.Repeat("\xff", 32): 0x62a8ab43,
	} {
		if n := pack.Sum(s); n != want {
			t.Errorf("Sum(%q): %x, want %x", s, n, want)
		}
	}
	table := crc32.MakeTable(crc32.Castagnoli)
	all := noise(maxData + 9)
	for _, n := range []int{1, 2, 3, 4, 5, 7, 8, 9, 63, 64, 255, 256, 1000, maxData, maxData + 9} {
		if got, want := pack.Sum(all[:n]), crc32.Checksum([]byte(all[:n]), table); got != want {
			t.Errorf("Sum of %d bytes: %x, want %x", n, got, want)
		}
	}
	for b := range 256 {
		s := string([]byte{byte(b)})
		if got, want := pack.Sum(s), crc32.Checksum([]byte(s), table); got != want {
			t.Errorf("Sum(%x): %x, want %x", s, got, want)
		}
	}
}

// 1.1
func TestCountAndNumber(t *testing.T) {
	for n, want := range map[uint64]string{0: "\x00", 1: "\x01", 127: "\x7f", 128: "\x80\x01", 300: "\xac\x02", 16383: "\xff\x7f", 16384: "\x80\x80\x01", math.MaxUint64: "\xff\xff\xff\xff\xff\xff\xff\xff\xff\x01"} {
		if s := pack.Count(n); s != want {
			t.Errorf("Count(%d): %x, want %x", n, s, want)
		}
	}
	for n, want := range map[int64]string{0: "\x00", -1: "\x01", 1: "\x02", -2: "\x03", -64: "\x7f", 64: "\x80\x01", math.MaxInt64: "\xfe\xff\xff\xff\xff\xff\xff\xff\xff\x01", math.MinInt64: "\xff\xff\xff\xff\xff\xff\xff\xff\xff\x01"} {
		if s := pack.Number(n); s != want {
			t.Errorf("Number(%d): %x, want %x", n, s, want)
		}
	}
	for _, n := range counts() {
		if s, want := pack.Count(n), string(binary.AppendUvarint(nil, n)); s != want {
			t.Errorf("Count(%d): %x, want %x", n, s, want)
		}
	}
	for _, n := range numbers() {
		if s, want := pack.Number(n), string(binary.AppendVarint(nil, n)); s != want {
			t.Errorf("Number(%d): %x, want %x", n, s, want)
		}
	}
}

// 1.1: Text has no limit of its own.
func TestText(t *testing.T) {
	for _, x := range append(texts(), strings.Repeat("x", maxData+1)) {
		if s, want := pack.Text(x), string(binary.AppendUvarint(nil, uint64(len(x))))+x; s != want {
			t.Errorf("Text of %d bytes is wrong", len(x))
		}
	}
	if s := pack.Text("é"); s != "\x02\xc3\xa9" {
		t.Errorf("Text: %x", s)
	}
}

// 1.1: the errors of counts, the earlier byte first.
func TestTakeCountErrors(t *testing.T) {
	nine := strings.Repeat("\xff", 9)
	low := strings.Repeat("\x80", 9)
	for s, want := range map[string]api.Errno{
		"":                        api.ErrMore,
		"\x80":                    api.ErrMore,
		"\xff\xff":                api.ErrMore,
		nine:                      api.ErrMore,
		low:                       api.ErrMore,
		"\x80\x00":                api.ErrForm,
		"\x80\x00\x80":            api.ErrForm,
		"\xff\x80\x00":            api.ErrForm,
		"\x80\x80\x80\x00x":       api.ErrForm,
		nine + "\x00":             api.ErrForm,
		nine + "\x02":             api.ErrForm,
		nine + "\x7f":             api.ErrForm,
		nine + "\x80":             api.ErrForm,
		nine + "\x81":             api.ErrForm,
		nine + "\xff\x01":         api.ErrForm,
		low + "\x02":              api.ErrForm,
		low + "\x80\x00":          api.ErrForm,
		strings.Repeat("\x80", 8): api.ErrMore,
		low[1:] + "\x00":          api.ErrForm,
	} {
		wantCount(t, s, 0, "", want)
		wantNumber(t, s, 0, "", want)
		wantText(t, s, "", "", want)
		wantFrame(t, s, "", "", want)
	}
	wantCount(t, "\x00", 0, "", api.OK)
	wantCount(t, "\x00\x00", 0, "\x00", api.OK)
	wantCount(t, "\x01\x80", 1, "\x80", api.OK)
	wantCount(t, low+"\x01x", 1<<63, "x", api.OK)
	wantCount(t, nine+"\x01\x01", math.MaxUint64, "\x01", api.OK)
	wantCount(t, nine[1:]+"\x7f", 1<<63-1, "", api.OK)
	wantNumber(t, low+"\x01x", 1<<62, "x", api.OK)
	wantNumber(t, "\x81\x01x", -65, "x", api.OK)
}

// 1.1: the errors of texts, in their order.
func TestTakeTextErrors(t *testing.T) {
	long := strings.Repeat("x", maxData+1)
	wantText(t, "\x81\x80\x04", "", "", api.ErrLong)
	wantText(t, pack.Text(long), "", "", api.ErrLong)
	wantText(t, pack.Count(math.MaxUint64), "", "", api.ErrLong)
	wantText(t, pack.Count(1<<63)+"x", "", "", api.ErrLong)
	wantText(t, pack.Count(1<<32)+"x", "", "", api.ErrLong)
	wantText(t, pack.Count(1<<32+1)+"x", "", "", api.ErrLong)
	wantText(t, pack.Count(maxData), "", "", api.ErrMore)
	wantText(t, pack.Count(maxData)+long[2:], "", "", api.ErrMore)
	wantText(t, pack.Count(maxData)+long[1:], long[1:], "", api.OK)
	wantText(t, pack.Count(maxData)+long, long[1:], "x", api.OK)
	wantText(t, "\x01", "", "", api.ErrMore)
	wantText(t, "\x00", "", "", api.OK)
	wantText(t, "\x02abc", "ab", "c", api.OK)
}

// 1.2
func TestFrame(t *testing.T) {
	f := frame(t, "hi")
	if len(f) != 7 || f[:3] != "\x02hi" {
		t.Errorf("Frame: %x", f)
	}
	if f := frame(t, "123456789"); f != "\x09123456789\x83\x92\x06\xe3" {
		t.Errorf("Frame: %x", f)
	}
	if f := frame(t, ""); f != "\x00\x00\x00\x00\x00" {
		t.Errorf("Frame: %x", f)
	}
	for _, x := range texts() {
		f, why := pack.Frame(x)
		want := string(binary.LittleEndian.AppendUint32([]byte(pack.Text(x)), pack.Sum(x)))
		if f != want || why != api.OK {
			t.Errorf("Frame of %d bytes: error %d, or wrong bytes", len(x), why)
		}
	}
	for _, n := range []int{maxData + 1, maxData + 2, 2 * maxData} {
		if f, why := pack.Frame(strings.Repeat("x", n)); f != "" || why != api.ErrLong {
			t.Errorf("Frame of %d bytes: %d bytes, error %d", n, len(f), why)
		}
	}
}

// 1.2: the errors of frames, in their order.
func TestTakeFrameErrors(t *testing.T) {
	f := frame(t, "hi")
	wantFrame(t, f, "hi", "", api.OK)
	wantFrame(t, f+f, "hi", f, api.OK)
	wantFrame(t, "\x02ho"+f[3:], "", "", api.ErrForm)
	wantFrame(t, "\x02ho"+f[3:]+"x", "", "", api.ErrForm)
	wantFrame(t, "\x02ho"+f[3:6], "", "", api.ErrMore)
	wantFrame(t, f[:3]+"\x00\x00\x00\x00", "", "", api.ErrForm)
	wantFrame(t, f[:3]+string([]byte{f[6], f[5], f[4], f[3]}), "", "", api.ErrForm)
	wantFrame(t, "\x00\x00\x00\x00", "", "", api.ErrMore)
	wantFrame(t, "\x00\x00\x00\x00\x00", "", "", api.OK)
	wantFrame(t, "\x00\x01\x00\x00\x00", "", "", api.ErrForm)
	wantFrame(t, "\x80\x00"+f[1:], "", "", api.ErrForm)
	long := strings.Repeat("x", maxData+1)
	wantFrame(t, pack.Text(long), "", "", api.ErrLong)
	wantFrame(t, pack.Count(maxData+1), "", "", api.ErrLong)
	wantFrame(t, pack.Count(math.MaxUint64)+f, "", "", api.ErrLong)
	wantFrame(t, pack.Text(long[1:])+"abc", "", "", api.ErrMore)
	wantFrame(t, pack.Text(long[1:])+"abcd", "", "", api.ErrForm)
}

// 1.4
func TestThereAndBack(t *testing.T) {
	for _, rest := range []string{"", "x", "\x00", "\x80", "\xff\xff", noise(99)} {
		for _, n := range counts() {
			wantCount(t, pack.Count(n)+rest, n, rest, api.OK)
		}
		for _, n := range numbers() {
			wantNumber(t, pack.Number(n)+rest, n, rest, api.OK)
		}
		for _, x := range texts() {
			wantText(t, pack.Text(x)+rest, x, rest, api.OK)
			wantFrame(t, frame(t, x)+rest, x, rest, api.OK)
		}
	}
}

// 1.5
func TestCutShort(t *testing.T) {
	for _, n := range counts() {
		s := pack.Count(n)
		for i := range len(s) {
			wantCount(t, s[:i], 0, "", api.ErrMore)
		}
	}
	for _, n := range numbers() {
		s := pack.Number(n)
		for i := range len(s) {
			wantNumber(t, s[:i], 0, "", api.ErrMore)
		}
	}
	for _, x := range texts() {
		s, f := pack.Text(x), frame(t, x)
		for i := 0; i < len(s); i += 1 + len(s)/99 {
			wantText(t, s[:i], "", "", api.ErrMore)
		}
		wantText(t, s[:len(s)-1], "", "", api.ErrMore)
		for i := 0; i < len(f); i += 1 + len(f)/99 {
			wantFrame(t, f[:i], "", "", api.ErrMore)
		}
		for i := range 5 {
			wantFrame(t, f[:len(f)-1-i], "", "", api.ErrMore)
		}
	}
}

// 1.6
func TestTurned(t *testing.T) {
	for _, x := range []string{"", "h", "hi", "\x00\x00\x00\x00", noise(200)} {
		f := frame(t, x)
		for bit := 8 * (len(f) - 4 - len(x)); bit < 8*len(f); bit++ {
			b := []byte(f)
			b[bit/8] ^= 1 << (bit % 8)
			wantFrame(t, string(b), "", "", api.ErrForm)
			wantFrame(t, string(b)+"x", "", "", api.ErrForm)
		}
	}
	f := frame(t, noise(maxData))
	for bit := 24; bit < 8*len(f); bit += 39916 {
		b := []byte(f)
		b[bit/8] ^= 1 << (bit % 8)
		wantFrame(t, string(b), "", "", api.ErrForm)
	}
}

type answer struct {
	sum              uint32
	count            uint64
	number           int64
	text, load, made string
	rests            [4]string
	why              [5]api.Errno
}

func ask(s string) answer {
	var a answer
	a.sum = pack.Sum(s)
	a.count, a.rests[0], a.why[0] = pack.TakeCount(s)
	a.number, a.rests[1], a.why[1] = pack.TakeNumber(s)
	a.text, a.rests[2], a.why[2] = pack.TakeText(s)
	a.load, a.rests[3], a.why[3] = pack.TakeFrame(s)
	a.made, a.why[4] = pack.Frame(s)
	return a
}

// P1 to P4, 1.3: any bytes are answered, what is answered is what they encode, and nothing is left of a call.
func TestAnyBytes(t *testing.T) {
	all, before := noise(9999), runtime.NumGoroutine()
	first := map[string]answer{}
	for i := range len(all) - 20 {
		s := all[i : i+i%20]
		if i%3 == 0 {
			s = string([]byte{byte(i % 9)}) + s
		}
		a := ask(s)
		if old, ok := first[s]; ok && old != a {
			t.Fatalf("%x: %v, then %v", s, old, a)
		}
		first[s] = a
		if a.why[0] == api.OK && pack.Count(a.count)+a.rests[0] != s {
			t.Errorf("TakeCount(%x): %d", s, a.count)
		}
		if a.why[1] == api.OK && pack.Number(a.number)+a.rests[1] != s {
			t.Errorf("TakeNumber(%x): %d", s, a.number)
		}
		if a.why[2] == api.OK && pack.Text(a.text)+a.rests[2] != s {
			t.Errorf("TakeText(%x): %x", s, a.text)
		}
		if a.why[3] == api.OK && frame(t, a.load)+a.rests[3] != s {
			t.Errorf("TakeFrame(%x): %x", s, a.load)
		}
		if a.why[0] != a.why[1] {
			t.Errorf("%x: errors %v", s, a.why)
		}
	}
	for s, a := range first {
		if ask(s) != a {
			t.Errorf("%x: another answer the second time", s)
		}
	}
	if n := runtime.NumGoroutine(); n > before {
		t.Errorf("%d goroutines are left", n-before)
	}
}
