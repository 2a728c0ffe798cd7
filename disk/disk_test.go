package disk_test

import (
	"math"
	"slices"
	"strconv"
	"strings"
	"testing"

	"freshet/api"
	"freshet/disk"
)

// The limits are written out, as they are themselves part of what is tested.
const (
	maxName  = 32
	maxFiles = 256
	maxWaits = 4096
)

func put(name, data string) api.Write {
	return api.Write{Kind: api.WriteAppend, Name: name, Data: data}
}

func rename(name, to string) api.Write {
	return api.Write{Kind: api.WriteRename, Name: name, To: to}
}

func remove(name string) api.Write {
	return api.Write{Kind: api.WriteRemove, Name: name}
}

// example is the disk of the document's examples.
func example() api.Disk {
	return api.Disk{
		Files: []api.File{{Name: "a", Data: "x"}},
		Waits: []api.Write{put("a", "yz"), rename("a", "b"), put("a", "12"), remove("b")},
		Room:  10,
		Fuse:  -1,
	}
}

// files has n files of no data.
func files(n int) []api.File {
	var l []api.File
	for i := range n {
		l = append(l, api.File{Name: strconv.Itoa(1000 + i)})
	}
	return l
}

// writes is n appends of nothing to one file.
func writes(n int) []api.Write {
	return slices.Repeat([]api.Write{put("1000", "")}, n)
}

// plain writes a disk out, for which nil and empty lists are the same.
func plain(d api.Disk) string {
	var b strings.Builder
	b.WriteString("room " + strconv.Itoa(d.Room) + " fuse " + strconv.Itoa(d.Fuse) + " down " + strconv.FormatBool(d.Down))
	for _, f := range d.Files {
		b.WriteString(" file " + strconv.Quote(f.Name) + " " + strconv.Quote(f.Data))
	}
	for _, w := range d.Waits {
		b.WriteString(" write " + strconv.Itoa(int(w.Kind)) + " " + strconv.Quote(w.Name) + " " + strconv.Quote(w.To) + " " + strconv.Quote(w.Data))
	}
	return b.String()
}

func wantDisk(t *testing.T, what string, d api.Disk, why api.Errno, want api.Disk, no api.Errno) {
	t.Helper()
	if why != no {
		t.Errorf("%s: error %d, want %d", what, why, no)
	}
	if a, b := plain(d), plain(want); a != b {
		t.Errorf("%s:\n%s, want\n%s", what, a, b)
	}
}

// wantFiles: names and data in turn.
func wantFiles(t *testing.T, what string, l []api.File, want ...string) {
	t.Helper()
	var got []string
	for _, f := range l {
		got = append(got, f.Name, f.Data)
	}
	if !slices.Equal(got, want) {
		t.Errorf("%s: %q, want %q", what, got, want)
	}
}

// wrong is disks that are not valid, each for one reason.
func wrong() map[string]api.Disk {
	long := strings.Repeat("n", maxName+1)
	m := map[string]api.Disk{
		"room":              {Room: -1},
		"least room":        {Room: math.MinInt},
		"same name":         {Files: []api.File{{Name: "a"}, {Name: "a"}}},
		"falling names":     {Files: []api.File{{Name: "b"}, {Name: "a"}}},
		"falling at last":   {Files: []api.File{{Name: "a"}, {Name: "c"}, {Name: "b"}}},
		"names by bytes":    {Files: []api.File{{Name: "\xff"}, {Name: "a"}}},
		"no name":           {Files: []api.File{{Name: "", Data: "x"}}},
		"long name":         {Files: []api.File{{Name: long}}},
		"too many files":    {Files: files(maxFiles + 1)},
		"too many waits":    {Waits: writes(maxWaits + 1)},
		"a file too many":   {Files: files(maxFiles), Waits: []api.Write{put("x", "")}},
		"for a while":       {Files: files(maxFiles), Waits: []api.Write{put("x", ""), remove("x")}},
		"a file is replace": {Files: files(maxFiles), Waits: []api.Write{put("x", ""), rename("x", "1000")}},
	}
	for name, w := range wrongWrites() {
		m["write: "+name] = api.Disk{Files: []api.File{{Name: "a"}}, Waits: []api.Write{w}, Room: 9}
		m["last write: "+name] = api.Disk{Files: []api.File{{Name: "a"}}, Waits: []api.Write{put("a", ""), w}, Room: 9}
	}
	return m
}

func wrongWrites() map[string]api.Write {
	long := strings.Repeat("n", maxName+1)
	return map[string]api.Write{
		"zero":               {},
		"no kind":            {Name: "a"},
		"kind beyond":        {Kind: api.WriteCount, Name: "a"},
		"kind 5":             {Kind: 5, Name: "a", To: "b"},
		"kind 255":           {Kind: 255, Name: "a"},
		"append, no name":    put("", "x"),
		"append, long name":  put(long, "x"),
		"append, to":         {Kind: api.WriteAppend, Name: "a", To: "b", Data: "x"},
		"rename, no name":    rename("", "b"),
		"rename, long name":  rename(long, "b"),
		"rename, no to":      rename("a", ""),
		"rename, long to":    rename("a", long),
		"rename, data":       {Kind: api.WriteRename, Name: "a", To: "b", Data: "x"},
		"remove, no name":    remove(""),
		"remove, long name":  remove(long),
		"remove, to":         {Kind: api.WriteRemove, Name: "a", To: "b"},
		"remove, data":       {Kind: api.WriteRemove, Name: "a", Data: "x"},
		"remove, to, itself": {Kind: api.WriteRemove, Name: "a", To: "a"},
	}
}

func right() map[string]api.Disk {
	wide := strings.Repeat("n", maxName)
	return map[string]api.Disk{
		"zero":              {},
		"example":           example(),
		"down":              {Down: true, Fuse: 3},
		"any fuse":          {Fuse: math.MinInt},
		"no room left":      {Files: []api.File{{Name: "a", Data: "xyz"}}, Waits: []api.Write{put("a", "12")}, Room: 1},
		"limits":            {Files: files(maxFiles), Waits: writes(maxWaits), Room: math.MaxInt},
		"names":             {Files: []api.File{{Name: "\x00"}, {Name: "a"}, {Name: "a\x00"}, {Name: wide}, {Name: "\xff"}}, Waits: []api.Write{put(wide, ""), rename(wide, "\x00\xff"), remove(wide)}},
		"of no file":        {Waits: []api.Write{rename("a", "b"), remove("c"), rename("a", "a")}},
		"one goes, one new": {Files: files(maxFiles), Waits: []api.Write{remove("1000"), put("x", ""), rename("x", "1001"), put("y", "")}},
	}
}

// 2.1
func TestCheck(t *testing.T) {
	for name, d := range right() {
		if why := disk.Check(d); why != api.OK {
			t.Errorf("%s: error %d", name, why)
		}
	}
	for name, d := range wrong() {
		if why := disk.Check(d); why != api.ErrState {
			t.Errorf("%s: error %d", name, why)
		}
	}
}

// 2.1 to 2.3: a disk that is not valid comes first, ahead of the power.
func TestWrongDisks(t *testing.T) {
	for name, d := range wrong() {
		for _, d.Down = range []bool{false, true} {
			for _, d.Fuse = range []int{-1, 0, 1} {
				if l, why := disk.See(d); len(l) != 0 || why != api.ErrState {
					t.Errorf("See, %s: %v, error %d", name, l, why)
				}
				if s, why := disk.Read(d, "a"); s != "" || why != api.ErrState {
					t.Errorf("Read, %s: %q, error %d", name, s, why)
				}
				e, why := disk.Do(d)
				wantDisk(t, "Do, "+name, e, why, api.Disk{}, api.ErrState)
				e, why = disk.Do(d, put("a", "x"), api.Write{})
				wantDisk(t, "Do, "+name, e, why, api.Disk{}, api.ErrState)
				e, why = disk.Sync(d)
				wantDisk(t, "Sync, "+name, e, why, api.Disk{}, api.ErrState)
				e, why = disk.Crash(d, 9, 9)
				wantDisk(t, "Crash, "+name, e, why, api.Disk{}, api.ErrState)
			}
		}
	}
}

// 2.1
func TestSeeAndRead(t *testing.T) {
	d := example()
	l, why := disk.See(d)
	wantFiles(t, "See", l, "a", "12")
	if why != api.OK {
		t.Error("See: error", why)
	}
	for i, want := range [][]string{{"a", "x"}, {"a", "xyz"}, {"b", "xyz"}, {"a", "12", "b", "xyz"}, {"a", "12"}} {
		d.Waits = example().Waits[:i]
		l, _ := disk.See(d)
		wantFiles(t, "See after "+strconv.Itoa(i), l, want...)
		for _, f := range l {
			if s, why := disk.Read(d, f.Name); s != f.Data || why != api.OK {
				t.Errorf("Read(%q): %q, error %d", f.Name, s, why)
			}
		}
		for _, name := range []string{"", "c", "aa", strings.Repeat("x", 99)} {
			if s, why := disk.Read(d, name); s != "" || why != api.ErrNone {
				t.Errorf("Read(%q): %q, error %d", name, s, why)
			}
		}
	}
	if s, why := disk.Read(example(), "b"); s != "" || why != api.ErrNone {
		t.Errorf("Read of a removed file: %q, error %d", s, why)
	}
	empty := api.Disk{Files: []api.File{{Name: "a"}}}
	if s, why := disk.Read(empty, "a"); s != "" || why != api.OK {
		t.Errorf("Read of an empty file: %q, error %d", s, why)
	}
	d.Down = true
	if l, why := disk.See(d); len(l) != 0 || why != api.ErrPower {
		t.Errorf("See: %v, error %d", l, why)
	}
	for _, name := range []string{"a", "z"} {
		if s, why := disk.Read(d, name); s != "" || why != api.ErrPower {
			t.Errorf("Read(%q): %q, error %d", name, s, why)
		}
	}
}

// 2.1: what each kind of write does to files that are there or not.
func TestApply(t *testing.T) {
	for name, x := range map[string]struct {
		w    []api.Write
		want []string
	}{
		"append":                   {[]api.Write{put("b", "3")}, []string{"a", "1", "b", "23", "d", ""}},
		"append nothing":           {[]api.Write{put("b", "")}, []string{"a", "1", "b", "2", "d", ""}},
		"append, new":              {[]api.Write{put("c", "3")}, []string{"a", "1", "b", "2", "c", "3", "d", ""}},
		"append nothing, new":      {[]api.Write{put("0", "")}, []string{"0", "", "a", "1", "b", "2", "d", ""}},
		"append, at the end":       {[]api.Write{put("e", "3"), put("e", "4")}, []string{"a", "1", "b", "2", "d", "", "e", "34"}},
		"rename":                   {[]api.Write{rename("a", "e")}, []string{"b", "2", "d", "", "e", "1"}},
		"rename down":              {[]api.Write{rename("d", "0")}, []string{"0", "", "a", "1", "b", "2"}},
		"rename, replaces a later": {[]api.Write{rename("a", "b")}, []string{"b", "1", "d", ""}},
		"rename, replaces earlier": {[]api.Write{rename("b", "a")}, []string{"a", "2", "d", ""}},
		"rename to itself":         {[]api.Write{rename("b", "b")}, []string{"a", "1", "b", "2", "d", ""}},
		"rename of none":           {[]api.Write{rename("c", "a")}, []string{"a", "1", "b", "2", "d", ""}},
		"remove":                   {[]api.Write{remove("b")}, []string{"a", "1", "d", ""}},
		"remove of none":           {[]api.Write{remove("c")}, []string{"a", "1", "b", "2", "d", ""}},
		"remove, append":           {[]api.Write{remove("a"), put("a", "3")}, []string{"a", "3", "b", "2", "d", ""}},
		"rename, append":           {[]api.Write{rename("a", "b"), put("a", "3"), put("b", "4")}, []string{"a", "3", "b", "14", "d", ""}},
	} {
		d := api.Disk{Files: []api.File{{Name: "a", Data: "1"}, {Name: "b", Data: "2"}, {Name: "d"}}, Waits: x.w, Room: 9, Fuse: -1}
		l, why := disk.See(d)
		wantFiles(t, "See, "+name, l, x.want...)
		e, no := disk.Sync(d)
		wantFiles(t, "Sync, "+name, e.Files, x.want...)
		f, never := disk.Crash(d, len(x.w), 0)
		wantFiles(t, "Crash, "+name, f.Files, x.want...)
		if why != api.OK || no != api.OK || never != api.OK {
			t.Error(name, "errors", why, no, never)
		}
	}
}
