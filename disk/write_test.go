package disk_test

import (
	"math"
	"slices"
	"strings"
	"testing"

	"freshet/api"
	"freshet/disk"
)

// after is d with more writes that wait.
func after(d api.Disk, l ...api.Write) api.Disk {
	d.Waits = slices.Concat(d.Waits, l)
	return d
}

func wantDo(t *testing.T, what string, d api.Disk, l []api.Write, want api.Disk, no api.Errno) {
	t.Helper()
	e, why := disk.Do(d, l...)
	wantDisk(t, what, e, why, want, no)
}

// 2.2: the document's examples, and several writes in one call.
func TestDo(t *testing.T) {
	d := example()
	wantDo(t, "no write", d, nil, d, api.OK)
	wantDo(t, "8 bytes", d, []api.Write{put("c", "12345678")}, after(d, put("c", "12345678")), api.OK)
	wantDo(t, "9 bytes", d, []api.Write{put("c", "123456789")}, d, api.ErrFull)
	wantDo(t, "remove", d, []api.Write{remove("a")}, after(d, remove("a")), api.OK)
	wantDo(t, "remove of none", d, []api.Write{remove("z")}, d, api.ErrNone)
	wantDo(t, "remove of one that was", d, []api.Write{remove("b")}, d, api.ErrNone)
	wantDo(t, "rename", d, []api.Write{rename("a", "c")}, after(d, rename("a", "c")), api.OK)
	wantDo(t, "rename to itself", d, []api.Write{rename("a", "a")}, after(d, rename("a", "a")), api.OK)
	wantDo(t, "rename of none", d, []api.Write{rename("b", "a")}, d, api.ErrNone)
	many := []api.Write{put("b", "1"), rename("b", "c"), put("c", "2"), remove("a"), put("a", "")}
	wantDo(t, "many", d, many, after(d, many...), api.OK)
	for i := range many {
		l := slices.Concat(many[:i], []api.Write{remove("z")}, many[i:])
		wantDo(t, "up to an error", d, l, after(d, many[:i]...), api.ErrNone)
	}
	wantDo(t, "of what was just done", d, []api.Write{put("e", ""), remove("e"), remove("e")}, after(d, put("e", ""), remove("e")), api.ErrNone)
	for name, w := range wrongWrites() {
		wantDo(t, name, d, []api.Write{w}, d, api.ErrForm)
		wantDo(t, name, d, []api.Write{put("a", "1"), w, put("a", "2")}, after(d, put("a", "1")), api.ErrForm)
	}
	wide := strings.Repeat("n", maxName)
	l := []api.Write{put(wide, ""), rename(wide, wide), rename(wide, "x"), rename("x", wide), remove(wide)}
	wantDo(t, "long names", d, l, after(d, l...), api.OK)
}

// 2.2: the errors in their order; each write has the errors ahead of its own behind it, too.
func TestDoOrder(t *testing.T) {
	full := api.Disk{Files: []api.File{{Name: "a", Data: "x"}}, Waits: slices.Repeat([]api.Write{put("a", "")}, maxWaits), Room: 1}
	down := full
	down.Down = true
	for _, w := range []api.Write{{}, remove("z"), put("a", "1"), put("a", ""), remove("a"), rename("a", "b")} {
		wantDo(t, "down", down, []api.Write{w}, down, api.ErrPower)
	}
	wantDo(t, "down, no write", down, nil, down, api.OK)
	for _, w := range wrongWrites() {
		wantDo(t, "form", full, []api.Write{w}, full, api.ErrForm)
	}
	for _, w := range []api.Write{remove("z"), rename("z", "a"), rename("z", "z")} {
		wantDo(t, "none", full, []api.Write{w}, full, api.ErrNone)
	}
	for _, w := range []api.Write{put("a", ""), put("a", "1"), put("z", "1"), remove("a"), rename("a", "b")} {
		wantDo(t, "full", full, []api.Write{w}, full, api.ErrFull)
	}
	none := api.Disk{Room: 1}
	for _, w := range []api.Write{remove("z"), rename("z", "a")} {
		wantDo(t, "none ahead of power", none, []api.Write{w}, none, api.ErrNone)
	}
	wantDo(t, "full ahead of power", none, []api.Write{put("z", "12")}, none, api.ErrFull)
	wantDo(t, "form ahead of power", none, []api.Write{put("", "")}, none, api.ErrForm)
}

// 2.2: the limits, and one beyond.
func TestDoFull(t *testing.T) {
	d := api.Disk{Files: files(maxFiles - 1), Room: 3, Fuse: -1}
	wantDo(t, "256 files", d, []api.Write{put("x", "")}, after(d, put("x", "")), api.OK)
	wantDo(t, "257 files", d, []api.Write{put("x", ""), put("y", "")}, after(d, put("x", "")), api.ErrFull)
	l := []api.Write{put("x", ""), rename("x", "y"), put("y", "1"), remove("1000"), put("z", "2"), rename("z", "1001"), put("z", "3")}
	wantDo(t, "256 files at most", d, l, after(d, l...), api.OK)
	wantDo(t, "257 files at last", d, append(l, put("x", "")), after(d, l...), api.ErrFull)

	d = api.Disk{Files: files(1), Waits: writes(maxWaits - 1), Room: 3, Fuse: -1}
	wantDo(t, "4096 writes", d, []api.Write{put("x", "")}, after(d, put("x", "")), api.OK)
	wantDo(t, "4097 writes", d, []api.Write{put("x", ""), remove("x")}, after(d, put("x", "")), api.ErrFull)

	d = api.Disk{Files: []api.File{{Name: "a", Data: "123"}, {Name: "b", Data: "45"}}, Room: 6, Fuse: -1}
	wantDo(t, "size", d, []api.Write{put("c", "6")}, after(d, put("c", "6")), api.OK)
	wantDo(t, "size beyond", d, []api.Write{put("c", "67")}, d, api.ErrFull)
	wantDo(t, "in two", d, []api.Write{put("c", "6"), put("a", ""), put("a", "7")}, after(d, put("c", "6"), put("a", "")), api.ErrFull)
	l = []api.Write{remove("a"), put("b", "6789"), rename("b", "c"), remove("c"), put("a", "123456")}
	wantDo(t, "room again", d, l, after(d, l...), api.OK)
	l = []api.Write{rename("b", "a"), put("a", "6789")}
	wantDo(t, "room of a replaced one", d, l, after(d, l...), api.OK)
	wantDo(t, "not more than that", d, append(l, put("x", "1")), after(d, l...), api.ErrFull)
	l = []api.Write{rename("a", "a"), rename("a", "c"), put("c", "6")}
	wantDo(t, "a rename keeps the size", d, append(l, put("b", "7")), after(d, l...), api.ErrFull)
}

// 2.2: a disk made by hand may have more on it than there is room for; a write must lead to what has room.
func TestDoOverfull(t *testing.T) {
	d := api.Disk{Files: []api.File{{Name: "a", Data: "1"}, {Name: "b", Data: "23"}}, Room: 1, Fuse: -1}
	wantDo(t, "append", d, []api.Write{put("a", "")}, d, api.ErrFull)
	wantDo(t, "rename", d, []api.Write{rename("b", "c")}, d, api.ErrFull)
	wantDo(t, "remove of too little", d, []api.Write{remove("a")}, d, api.ErrFull)
	wantDo(t, "remove", d, []api.Write{remove("b")}, after(d, remove("b")), api.OK)
	wantDo(t, "rename over the greater", d, []api.Write{rename("a", "b")}, after(d, rename("a", "b")), api.OK)
	d.Room = 0
	wantDo(t, "no room", d, []api.Write{remove("b")}, d, api.ErrFull)
}

// 2.2: the fuse.
func TestDoFuse(t *testing.T) {
	d := example()
	gone := func(fuse int, l ...api.Write) api.Disk {
		e := after(d, l...)
		e.Fuse, e.Down = fuse, true
		return e
	}
	d.Fuse = 1
	wantDo(t, "two appends", d, []api.Write{put("a", "3"), put("a", "4")}, gone(0, put("a", "3"), put("a", "4")), api.ErrPower)
	wantDo(t, "three appends", d, []api.Write{put("a", "3"), put("a", "4"), put("a", "5")}, gone(0, put("a", "3"), put("a", "4")), api.ErrPower)
	d.Fuse = 0
	wantDo(t, "no write", d, nil, d, api.OK)
	wantDo(t, "append", d, []api.Write{put("a", "3")}, gone(0, put("a", "3")), api.ErrPower)
	wantDo(t, "remove", d, []api.Write{remove("a")}, gone(0), api.ErrPower)
	wantDo(t, "rename", d, []api.Write{rename("a", "c"), put("a", "3")}, gone(0), api.ErrPower)
	wantDo(t, "full", d, []api.Write{put("c", "123456789")}, d, api.ErrFull)
	d.Fuse = 3
	l := []api.Write{put("a", "3"), rename("a", "c"), remove("c")}
	want := after(d, l...)
	want.Fuse = 0
	wantDo(t, "three", d, l, want, api.OK)
	want = after(d, l[:2]...)
	want.Fuse = 1
	wantDo(t, "an error uses nothing up", d, []api.Write{l[0], l[1], {}}, want, api.ErrForm)
	for _, fuse := range []int{-1, -7, math.MinInt} {
		d.Fuse = fuse
		wantDo(t, "no end", d, l, after(d, l...), api.OK)
	}
	d.Fuse = math.MaxInt
	want = after(d, l[0])
	want.Fuse--
	wantDo(t, "a long one", d, l[:1], want, api.OK)
}

// 2.3
func TestSync(t *testing.T) {
	for fuse, left := range map[int]int{-1: -1, -5: -5, math.MinInt: math.MinInt, 1: 0, 2: 1, math.MaxInt: math.MaxInt - 1} {
		d := example()
		d.Fuse = fuse
		e, why := disk.Sync(d)
		wantDisk(t, "Sync", e, why, api.Disk{Files: []api.File{{Name: "a", Data: "12"}}, Room: 10, Fuse: left}, api.OK)
	}
	d := example()
	d.Fuse = 0
	want := d
	want.Down = true
	e, why := disk.Sync(d)
	wantDisk(t, "Sync without power", e, why, want, api.ErrPower)
	for _, d.Fuse = range []int{-1, 0, 1} {
		d.Down = true
		e, why := disk.Sync(d)
		wantDisk(t, "Sync, down", e, why, d, api.ErrPower)
	}
	e, why = disk.Sync(api.Disk{Fuse: 1})
	wantDisk(t, "Sync of nothing", e, why, api.Disk{}, api.OK)
}

// 2.3
func TestCrash(t *testing.T) {
	for _, x := range []struct {
		keep, tear int
		want       []string
	}{
		{0, 0, []string{"a", "x"}}, {0, -1, []string{"a", "x"}}, {0, math.MinInt, []string{"a", "x"}},
		{0, 1, []string{"a", "xy"}}, {0, 2, []string{"a", "xyz"}}, {0, 3, []string{"a", "xyz"}}, {0, math.MaxInt, []string{"a", "xyz"}},
		{-1, 0, []string{"a", "x"}}, {-5, 1, []string{"a", "xy"}}, {math.MinInt, 9, []string{"a", "xyz"}},
		{1, 0, []string{"a", "xyz"}}, {1, 9, []string{"a", "xyz"}},
		{2, 0, []string{"b", "xyz"}}, {2, -9, []string{"b", "xyz"}}, {2, 1, []string{"a", "1", "b", "xyz"}}, {2, 2, []string{"a", "12", "b", "xyz"}},
		{3, 0, []string{"a", "12", "b", "xyz"}}, {3, 1, []string{"a", "12", "b", "xyz"}},
		{4, 0, []string{"a", "12"}}, {4, 9, []string{"a", "12"}}, {9, 0, []string{"a", "12"}}, {math.MaxInt, math.MaxInt, []string{"a", "12"}},
	} {
		for _, down := range []bool{false, true} {
			for _, fuse := range []int{-9, 0, 7} {
				d := example()
				d.Down, d.Fuse = down, fuse
				e, why := disk.Crash(d, x.keep, x.tear)
				wantFiles(t, "Crash", e.Files, x.want...)
				e.Files = nil
				wantDisk(t, "Crash", e, why, api.Disk{Room: 10, Fuse: -1}, api.OK)
			}
		}
	}
	e, why := disk.Crash(api.Disk{Waits: []api.Write{put("a", "")}, Down: true}, 0, 0)
	wantDisk(t, "nothing torn", e, why, api.Disk{Fuse: -1}, api.OK)
	e, why = disk.Crash(api.Disk{Waits: []api.Write{put("a", "")}}, 0, 1)
	wantDisk(t, "torn append of nothing", e, why, api.Disk{Files: []api.File{{Name: "a"}}, Fuse: -1}, api.OK)
	for _, w := range []api.Write{rename("z", "y"), remove("z"), rename("a", "z"), remove("a")} {
		d := api.Disk{Files: []api.File{{Name: "a", Data: "x"}}, Waits: []api.Write{w}, Fuse: -1}
		e, why := disk.Crash(d, 0, 9)
		d.Waits = nil
		wantDisk(t, "only an append is torn", e, why, d, api.OK)
	}
}

// 2.2, 2.3: an append in which the power failed may be torn, a rename in which it failed is lost.
func TestFuseAndCrash(t *testing.T) {
	d, _ := disk.Do(api.Disk{Room: 9, Fuse: 2}, put("a", "1"), put("a", "2"), put("a", "345"))
	for keep, want := range []string{"", "1", "12", "12345"} {
		e, _ := disk.Crash(d, keep, 0)
		s, _ := disk.Read(e, "a")
		if s != want {
			t.Errorf("keep %d: %q, want %q", keep, s, want)
		}
	}
	d, _ = disk.Do(api.Disk{Room: 9, Fuse: 1}, put("a", "1"), rename("a", "b"))
	e, _ := disk.Crash(d, 9, 9)
	wantFiles(t, "Crash", e.Files, "a", "1")
}
