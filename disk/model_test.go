package disk_test

import (
	"runtime"
	"slices"
	"strings"
	"testing"

	"freshet/api"
	"freshet/disk"
)

// dice is numbers in no plain order, the same in each run.
type dice uint32

func (d *dice) roll(n int) int {
	*d = *d*1664525 + 1013904223
	return int(uint32(*d)>>8) % n
}

func (d *dice) name() string {
	return []string{"a", "b", "c", "aa", "z"}[d.roll(5)]
}

func (d *dice) write() api.Write {
	switch d.roll(12) {
	case 0, 1:
		return remove(d.name())
	case 2, 3, 4:
		return rename(d.name(), d.name())
	case 5:
		return api.Write{Kind: api.WriteKind(d.roll(6)), Name: d.name(), To: d.name()[1:], Data: d.name()[1:]}
	}
	return put(d.name(), "123456789"[:d.roll(10)])
}

// model is the disk as the document tells it, in the plainest way.
type model struct {
	synced map[string]string
	waits  []api.Write
	room   int
	down   bool
	fuse   int
}

func apply(m map[string]string, w api.Write) map[string]string {
	out := map[string]string{}
	for k, v := range m {
		out[k] = v
	}
	v, ok := out[w.Name]
	switch {
	case w.Kind == api.WriteAppend:
		out[w.Name] = v + w.Data
	case ok && w.Kind == api.WriteRename:
		delete(out, w.Name)
		out[w.To] = v
	case ok:
		delete(out, w.Name)
	}
	return out
}

func (m *model) seen(keep int) map[string]string {
	s := m.synced
	for _, w := range m.waits[:keep] {
		s = apply(s, w)
	}
	return s
}

func (m *model) right(w api.Write) bool {
	named := len(w.Name) >= 1 && len(w.Name) <= maxName
	switch w.Kind {
	case api.WriteAppend:
		return named && w.To == ""
	case api.WriteRename:
		return named && w.Data == "" && len(w.To) >= 1 && len(w.To) <= maxName
	case api.WriteRemove:
		return named && w.To == "" && w.Data == ""
	}
	return false
}

func (m *model) do(w api.Write) api.Errno {
	now := m.seen(len(m.waits))
	_, ok := now[w.Name]
	size := 0
	for _, v := range apply(now, w) {
		size += len(v)
	}
	switch {
	case m.down:
		return api.ErrPower
	case !m.right(w):
		return api.ErrForm
	case !ok && w.Kind != api.WriteAppend:
		return api.ErrNone
	case size > m.room:
		return api.ErrFull
	case m.fuse == 0:
		m.down = true
		if w.Kind == api.WriteAppend {
			m.waits = append(m.waits, w)
		}
		return api.ErrPower
	}
	m.waits = append(m.waits, w)
	m.fuse = max(m.fuse-1, -1)
	return api.OK
}

func (m *model) sync() api.Errno {
	if m.down || m.fuse == 0 {
		m.down = true
		return api.ErrPower
	}
	m.synced, m.waits = m.seen(len(m.waits)), nil
	m.fuse = max(m.fuse-1, -1)
	return api.OK
}

func (m *model) crash(keep, tear int) {
	keep = min(max(keep, 0), len(m.waits))
	s := m.seen(keep)
	if keep < len(m.waits) && tear > 0 && m.waits[keep].Kind == api.WriteAppend {
		w := m.waits[keep]
		w.Data = w.Data[:min(tear, len(w.Data))]
		s = apply(s, w)
	}
	*m = model{synced: s, room: m.room, fuse: -1}
}

func list(m map[string]string) []api.File {
	l := []api.File{}
	for k, v := range m {
		l = append(l, api.File{Name: k, Data: v})
	}
	slices.SortFunc(l, func(a, b api.File) int { return strings.Compare(a.Name, b.Name) })
	return l
}

func (m *model) disk() api.Disk {
	return api.Disk{Files: list(m.synced), Waits: m.waits, Room: m.room, Down: m.down, Fuse: m.fuse}
}

// 2.1 to 2.3, 2.5, 2.6: long runs of everything, each step held against the model.
func TestLikeTheModel(t *testing.T) {
	for seed := range 60 {
		g := dice(seed)
		m := model{synced: map[string]string{}, room: 20 + g.roll(40), fuse: -1}
		d := m.disk()
		for range 120 {
			var why, want api.Errno
			switch g.roll(12) {
			case 0:
				d, why = disk.Sync(d)
				want = m.sync()
			case 1:
				keep, tear := g.roll(20)-2, g.roll(9)-1
				d, why = disk.Crash(d, keep, tear)
				m.crash(keep, tear)
			case 2:
				m.fuse = g.roll(9) - 1
				d.Fuse = m.fuse
			default:
				l := []api.Write{g.write(), g.write(), g.write()}[:g.roll(4)]
				d, why = disk.Do(d, l...)
				for i := 0; i < len(l) && want == api.OK; i++ {
					want = m.do(l[i])
				}
			}
			wantDisk(t, "step", d, why, m.disk(), want)
			if why := disk.Check(d); why != api.OK {
				t.Fatal("Check: error", why)
			}
			lookAlike(t, d, &m)
			if t.Failed() {
				t.Fatal("seed", seed)
			}
		}
	}
}

func lookAlike(t *testing.T, d api.Disk, m *model) {
	t.Helper()
	l, why := disk.See(d)
	if m.down {
		if len(l) != 0 || why != api.ErrPower {
			t.Errorf("See: %v, error %d", l, why)
		}
		return
	}
	wants := list(m.seen(len(m.waits)))
	if !slices.Equal(l, wants) || why != api.OK {
		t.Errorf("See: %v, error %d, want %v", l, why, wants)
	}
	for _, f := range wants {
		if s, why := disk.Read(d, f.Name); s != f.Data || why != api.OK {
			t.Errorf("Read(%q): %q, error %d", f.Name, s, why)
		}
	}
}

// 2.5, 2.6: of a file that is only appended to, what was synced and a beginning of the rest is left.
func TestSafeAndInOrder(t *testing.T) {
	d, _ := disk.Do(api.Disk{Room: 99, Fuse: -1}, put("a", "12"), put("b", "x"))
	d, _ = disk.Sync(d)
	d, _ = disk.Do(d, put("a", "34"), put("c", "y"), put("a", "56"), rename("c", "e"), put("a", "78"))
	for keep := -1; keep < 7; keep++ {
		for tear := -1; tear < 4; tear++ {
			e, why := disk.Crash(d, keep, tear)
			a, _ := disk.Read(e, "a")
			b, _ := disk.Read(e, "b")
			if !strings.HasPrefix("12345678", a) || len(a) < 2 || b != "x" || why != api.OK {
				t.Errorf("keep %d, tear %d: %q, %q, error %d", keep, tear, a, b, why)
			}
			_, c := disk.Read(e, "c")
			_, f := disk.Read(e, "e")
			if len(a) > 4 && c != api.OK && f != api.OK || len(a) > 6 && f != api.OK {
				t.Errorf("keep %d, tear %d: a later write is kept, an earlier one is not", keep, tear)
			}
		}
	}
}

// P1, P4: disks of any kind, most of them not valid.
func TestAnyDisk(t *testing.T) {
	g, before := dice(7), runtime.NumGoroutine()
	for range 3000 {
		d := api.Disk{Room: g.roll(40) - 2, Down: g.roll(5) == 0, Fuse: g.roll(4) - 2}
		for range g.roll(4) {
			d.Files = append(d.Files, api.File{Name: strings.Repeat(g.name(), g.roll(20)), Data: g.name()})
		}
		for range g.roll(6) {
			d.Waits = append(d.Waits, g.write())
		}
		state := disk.Check(d)
		_, w1 := disk.See(d)
		_, w2 := disk.Read(d, g.name())
		e, w3 := disk.Do(d, g.write(), g.write())
		f, w4 := disk.Sync(d)
		h, w5 := disk.Crash(d, g.roll(9)-2, g.roll(9)-2)
		for _, why := range []api.Errno{w1, w2, w3, w4, w5} {
			if (why == api.ErrState) != (state == api.ErrState) {
				t.Errorf("%s: error %d, Check %d", plain(d), why, state)
			}
		}
		if disk.Check(e) != api.OK || disk.Check(f) != api.OK || disk.Check(h) != api.OK {
			t.Errorf("%s: a result is not valid", plain(d))
		}
	}
	if n := runtime.NumGoroutine(); n > before {
		t.Errorf("%d goroutines are left", n-before)
	}
}
