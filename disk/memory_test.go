package disk_test

import (
	"slices"
	"strconv"
	"strings"
	"testing"

	"freshet/api"
	"freshet/disk"
)

// roomy is d with lists that have spare capacity, in which a mark stands behind their ends.
func roomy(d api.Disk) api.Disk {
	n, m := len(d.Files), len(d.Waits)
	d.Files = append(slices.Clone(d.Files), slices.Repeat([]api.File{{Name: "mark"}}, 8)...)[:n]
	d.Waits = append(slices.Clone(d.Waits), slices.Repeat([]api.Write{put("mark", "")}, 8)...)[:m]
	return d
}

// whole is d with all that its lists have room for.
func whole(d api.Disk) string {
	d.Files, d.Waits = d.Files[:cap(d.Files)], d.Waits[:cap(d.Waits)]
	return plain(d)
}

// spoil changes all of a disk's lists, up to their capacity.
func spoil(d api.Disk) {
	for i := range d.Files[:cap(d.Files)] {
		d.Files[:cap(d.Files)][i] = api.File{Name: "spoilt", Data: "spoilt"}
	}
	for i := range d.Waits[:cap(d.Waits)] {
		d.Waits[:cap(d.Waits)][i] = put("spoilt", "spoilt")
	}
}

// calls is all that answers a disk.
func calls() map[string]func(d api.Disk, l []api.Write) (api.Disk, api.Errno) {
	return map[string]func(d api.Disk, l []api.Write) (api.Disk, api.Errno){
		"Do":    func(d api.Disk, l []api.Write) (api.Disk, api.Errno) { return disk.Do(d, l...) },
		"none":  func(d api.Disk, l []api.Write) (api.Disk, api.Errno) { return disk.Do(d) },
		"Sync":  func(d api.Disk, l []api.Write) (api.Disk, api.Errno) { return disk.Sync(d) },
		"Crash": func(d api.Disk, l []api.Write) (api.Disk, api.Errno) { return disk.Crash(d, 2, 1) },
		"See": func(d api.Disk, l []api.Write) (api.Disk, api.Errno) {
			files, why := disk.See(d)
			return api.Disk{Files: files}, why
		},
	}
}

// starts is disks for which the calls take other ways: all right, one that fails early, one that is down, one with nothing that waits, one full.
func starts() []api.Disk {
	d := example()
	l := []api.Disk{d, d, d, d, d}
	l[1].Fuse = 0
	l[2].Down = true
	l[3].Waits = nil
	l[4].Room = 2
	return l
}

// 2.4, P3: arguments stay as they are, even behind their ends, and answers share nothing with them nor with each other.
func TestNewMemory(t *testing.T) {
	for name, call := range calls() {
		for i, d := range starts() {
			what := name + " of " + strconv.Itoa(i)
			d = roomy(d)
			l := append(make([]api.Write, 0, 9), put("a", "3"), rename("a", "c"), put("c", "4"))
			before, writes := whole(d), slices.Clone(l[:9])
			first, why := call(d, l)
			second, again := call(d, l)
			answer := plain(first)
			if whole(d) != before || !slices.Equal(l[:9], writes) {
				t.Error(what, "changes its arguments")
			}
			if plain(second) != answer || why != again {
				t.Error(what, "answers otherwise the second time")
			}
			spoil(second)
			if plain(first) != answer || whole(d) != before {
				t.Error(what, "shares memory between answers, or with its arguments")
			}
			spoil(d)
			clear(l)
			if plain(first) != answer {
				t.Error(what, "keeps its arguments")
			}
		}
	}
}

// P3: a list's capacity, and nil in an empty one's place, are not to be seen.
func TestSameAnswers(t *testing.T) {
	for name, call := range calls() {
		for i, d := range starts() {
			l := []api.Write{put("a", "3"), remove("a")}
			e := d
			e.Files, e.Waits = slices.Clip(slices.Clone(d.Files)), append(make([]api.Write, 0, 99), d.Waits...)
			a, why := call(d, l)
			b, again := call(e, slices.Grow(slices.Clone(l), 50))
			if plain(a) != plain(b) || why != again {
				t.Errorf("%s of %d: %s, error %d; %s, error %d", name, i, plain(a), why, plain(b), again)
			}
		}
		a, why := call(api.Disk{Fuse: 9, Room: 9}, nil)
		b, again := call(api.Disk{Fuse: 9, Room: 9, Files: []api.File{}, Waits: []api.Write{}}, []api.Write{})
		if plain(a) != plain(b) || why != again {
			t.Errorf("%s of nothing: %s, error %d; %s, error %d", name, plain(a), why, plain(b), again)
		}
	}
}

// A long log must not take time that grows with its square.
func TestManyAppends(t *testing.T) {
	d := api.Disk{Room: 1 << 40, Fuse: -1}
	for range maxWaits {
		d.Waits = append(d.Waits, put("a", strings.Repeat("x", 1<<12)))
	}
	s, why := disk.Read(d, "a")
	if len(s) != maxWaits<<12 || why != api.OK {
		t.Errorf("Read: %d bytes, error %d", len(s), why)
	}
}
