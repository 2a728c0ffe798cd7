package serve_test

import (
	"fmt"
	"slices"
	"strings"
	"testing"

	"freshet/api"
	"freshet/disk"
	"freshet/pack"
	"freshet/serve"
)

// 19.2: the checkpoint, and behind it its log.
func TestStart(t *testing.T) {
	all := several()
	b := applied(t, all...)
	waiting := with("base", saved(1, all[:2]...), "log.1", frames(all[2:3]...), "x", frames(all[9:]...))
	waiting.Waits = []api.Write{app("log.1", frames(all[3:9]...)), rename("x", "y"), app("y", ""), app("base", "x"), remove("base"), app("base", saved(1, all[:2]...))}
	parts := with("base", "", "log.7", "")
	parts.Files = nil
	for _, r := range all {
		parts.Waits = append(parts.Waits, app("log.0", frames(r)))
	}
	for name, x := range map[string]struct {
		d    api.Disk
		gen  uint64
		want api.Base
	}{
		"nothing":                     {with(), 0, api.Base{}},
		"no room":                     {api.Disk{}, 0, api.Base{}},
		"other files":                 {with("base.tmp", "x", "log.tmp", "y", "log.00", "x", "log.1", frames(all...), "log.", "x", "log", "x", "z", ""), 0, api.Base{}},
		"a log":                       {with("log.0", frames(all...)), 0, b},
		"an empty log":                {with("log.0", ""), 0, api.Base{}},
		"a checkpoint of nothing":     {with("base", saved(1)), 1, api.Base{}},
		"a checkpoint":                {with("base", saved(12, all...)), 12, b},
		"a checkpoint and its log":    {with("base", saved(300, all[:7]...), "log.300", frames(all[7:]...), "log.299", "x", "log.301", frames(all...), "log.0", frames(all...)), 300, b},
		"a checkpoint and no more":    {with("base", saved(2, all...), "log.2", ""), 2, b},
		"the last checkpoint":         {with("base", saved(maxNumber, all[:9]...), "log.4611686018427387904", frames(all[9:]...)), maxNumber, b},
		"one record is saved":         {with("base", saved(10, all[0]), "log.10", frames(all[1:]...)), 10, b},
		"what waits to be written":    {waiting, 1, applied(t, all[:9]...)},
		"all of it waits":             {parts, 0, b},
		"what changes nothing":        {with("log.0", frames(schemas(nil), put(0), put(0))), 0, applied(t, schemas(nil))},
		"marks":                       {with("log.0", frames(append(slices.Clone(all), named(api.RecordMark, "all", 4), named(api.RecordMark, "loop", 5))...)), 0, applied(t, append(slices.Clone(all), named(api.RecordMark, "all", 4), named(api.RecordMark, "loop", 5))...)},
		"names of waits that are not": {with("log.0", frames(all[:3]...), "log.0x", frames(all...)), 0, applied(t, all[:3]...)},
	} {
		got, why := serve.Start(x.d)
		wantServer(t, name, got, why, api.Server{Disk: x.d, Gen: x.gen, Engine: started(t, x.want)}, api.OK)
	}
	// Power and room are no matter as long as nothing is written.
	for _, f := range []func(*api.Disk){func(d *api.Disk) { d.Fuse = 0 }, func(d *api.Disk) { d.Room = 0 }} {
		d := with("base", saved(2, all[:3]...), "log.2", frames(all[3:]...))
		f(&d)
		got, why := serve.Start(d)
		wantServer(t, "nothing to write", got, why, api.Server{Disk: d, Gen: 2, Engine: started(t, b)}, api.OK)
	}
}

// turned is a text of which one bit is inverted.
func turned(s string, bit int) string {
	b := []byte(s)
	b[bit/8] ^= 1 << (bit % 8)
	return string(b)
}

// 19.2: what is no checkpoint, or cannot be applied.
func TestStartForm(t *testing.T) {
	all := several()
	one, gen := frames(all[0]), frame(pack.Count(1))
	bad := map[string]string{
		"x":                           "x",
		"nothing":                     "",
		"the number 0":                frame(pack.Count(0)),
		"a number too great":          frame(pack.Count(maxNumber + 1)),
		"the last number":             frame(pack.Count(1<<64 - 1)),
		"no number":                   frame("") + one,
		"half a number":               frame("\x80") + one,
		"a number too long":           frame("\x81\x00") + one,
		"a number and more":           frame("\x01\x00") + one,
		"two numbers":                 gen + gen,
		"no number, but a record":     one,
		"a number that is no frame":   pack.Count(1),
		"a byte behind the number":    gen + "\x00",
		"a byte behind records":       gen + one + "x",
		"a byte ahead":                "x" + gen + one,
		"half a frame":                gen + one + one[:len(one)/2],
		"half a frame of a number":    gen[:len(gen)-1],
		"another number":              turned(gen, 9),
		"a frame with another end":    gen + turned(one, 8*len(one)-1),
		"a frame too long":            gen + pack.Count(1<<16+1) + strings.Repeat("x", 1<<16+9),
		"no record":                   gen + frame("x"),
		"a record of nothing":         gen + frame(""),
		"no record behind others":     saved(1, all...) + frame("\x09"),
		"a record and more":           gen + frame("\x03\x01\x00"),
		"what cannot be applied":      saved(1, epoch(api.RecordClose, 1)),
		"what cannot be twice":        saved(1, all[0], all[0]),
		"a close twice":               saved(1, all[0], epoch(api.RecordClose, 2), epoch(api.RecordClose, 2)),
		"what is late":                saved(1, all[0], epoch(api.RecordClose, 2), put(0, up(1, 1, 1))),
		"a query that is not there":   saved(1, all[0], named(api.RecordMark, "x", 0)),
		"what cannot be, and is torn": saved(1, epoch(api.RecordClose, 1)) + "x",
	}
	for name, text := range bad {
		for _, d := range []api.Disk{with("base", text), with("base", text, "log.0", frames(all...), "log.1", frames(all[1:]...)), with("base", text, "log.0", "x"), with("base", text, "log.1", frame("x")+"x")} {
			got, why := serve.Start(d)
			wantServer(t, name, got, why, only(d), api.ErrForm)
		}
	}
	// Behind a right checkpoint, or none, its log.
	for name, text := range map[string]string{
		"no record":                   frame("x"),
		"a record of nothing":         frame("") + one,
		"a number":                    gen + one,
		"no record, and it is torn":   frame("x") + one[:3],
		"no record behind others":     one + frame("\x09"),
		"what cannot be applied":      frames(epoch(api.RecordClose, 1)) + one,
		"what cannot be twice":        one + one,
		"what cannot be, and is torn": one + one + "x",
	} {
		for _, d := range []api.Disk{with("log.0", text), with("base", saved(3), "log.3", text), with("base", saved(3), "log.0", one, "log.3", text, "log.tmp", one)} {
			got, why := serve.Start(d)
			wantServer(t, "the log: "+name, got, why, only(d), api.ErrForm)
		}
	}
	if got, why := serve.Start(with("base", saved(3, all[0]), "log.3", one)); why != api.ErrForm || got.Gen != 0 {
		t.Errorf("what the checkpoint has already: error %d", why)
	}
	// Nothing is repaired, even if there is no power for it.
	d := with("log.0", one+one+"x")
	d.Fuse = 0
	got, why := serve.Start(d)
	wantServer(t, "no power", got, why, only(d), api.ErrForm)
}

// 19.2: the errors of the disk come first.
func TestStartDisk(t *testing.T) {
	for name, s := range wrong(t) {
		if disk.Check(s.Disk) == api.OK {
			continue
		}
		got, why := serve.Start(s.Disk)
		wantServer(t, name, got, why, api.Server{}, api.ErrState)
	}
	for _, d := range []api.Disk{with(), with("base", "x"), with("log.0", "x"), with("base", saved(1, several()...))} {
		d.Down = true
		d.Waits = []api.Write{app("x", "y")}
		got, why := serve.Start(d)
		wantServer(t, "it is down", got, why, only(d), api.ErrPower)
		d.Room = -1
		got, why = serve.Start(d)
		wantServer(t, "it is down, and not valid", got, why, api.Server{}, api.ErrState)
	}
}

// 19.2: what is behind the frames of a log is taken away.
func TestRepair(t *testing.T) {
	all := several()
	last := frames(all[len(all)-1])
	rests := map[string]string{"x": "x", "zeros": "\x00\x00\x00", "a number too long": strings.Repeat("\x80", 11), "a frame too long": pack.Count(1<<16+1) + strings.Repeat("x", 1<<16+9)}
	for i := range len(last) - 1 {
		rests[fmt.Sprint(i+1, " bytes of a frame")] = last[:i+1]
	}
	for i := 8; i < 8*len(last); i++ {
		rests[fmt.Sprint("a frame with another bit ", i)] = turned(last, i)
	}
	rests["frames behind one with another bit"] = turned(last, 8*len(last)-3) + last + last
	whole := frames(all[9 : len(all)-1]...)
	for name, rest := range rests {
		if i := strings.Index(name, "bytes"); i >= 0 && len(rest) == 0 {
			t.Fatal("no rest")
		}
		for _, x := range []struct {
			d    api.Disk
			log  string
			kept string
			gen  uint64
			want []api.Record
		}{
			{with("base", saved(4, all[:9]...), "log.4", whole+rest, "log.0", "x"), "log.4", whole, 4, all[:len(all)-1]},
			{with("log.0", frames(all[:3]...)+rest, "log.tmp", "x", "z", ""), "log.0", frames(all[:3]...), 0, all[:3]},
			{with("log.0", rest), "log.0", "", 0, nil},
		} {
			var l []api.Write
			if strings.Contains(names(t, x.d), "log.tmp") {
				l = append(l, remove("log.tmp"))
			}
			l = append(l, app("log.tmp", x.kept), synced, rename("log.tmp", x.log), synced)
			want, why := after(x.d, l...)
			if why != api.OK || !slices.Contains(see(t, want), api.File{Name: x.log, Data: x.kept}) || strings.Contains(names(t, want), "tmp") {
				t.Fatalf("%s: error %d", name, why)
			}
			got, why := serve.Start(x.d)
			wantServer(t, name, got, why, api.Server{Disk: want, Gen: x.gen, Engine: started(t, applied(t, x.want...))}, api.OK)
		}
	}
}

// 19.2: the power, or the room, goes while a log is repaired.
func TestRepairStops(t *testing.T) {
	all := several()
	whole := frames(all...)
	failed := 0
	for _, files := range [][]string{{"log.0", whole + "x"}, {"log.0", whole + "x", "log.tmp", "torn"}, {"base", saved(1, all...), "log.1", "x", "log.tmp", ""}} {
		d := with(files...)
		name, kept := files[len(files)-2], ""
		l := []api.Write{app("log.tmp", ""), synced, rename("log.tmp", "log.1"), synced}
		if files[0] == "log.0" {
			name, kept = "log.0", whole
			l[0].Data, l[2].To = whole, name
		}
		if len(files) > 2 {
			l = slices.Insert(l, 0, remove("log.tmp"))
		}
		want := func(d api.Disk) (api.Server, api.Errno) {
			d, why := after(d, l...)
			if why != api.OK {
				failed++
				return only(d), why
			}
			s := api.Server{Disk: d, Engine: started(t, applied(t, all...))}
			if kept == "" {
				s.Gen = 1
			}
			return s, api.OK
		}
		for fuse := range len(l) + 2 {
			d := d
			d.Fuse = fuse
			s, no := want(d)
			if (no == api.ErrPower) != (fuse < len(l)) {
				t.Fatalf("%s, fuse %d: error %d", name, fuse, no)
			}
			got, why := serve.Start(d)
			wantServer(t, fmt.Sprint(name, ", fuse ", fuse), got, why, s, no)
		}
		size := 0
		for _, f := range d.Files {
			size += len(f.Data)
		}
		for _, room := range []int{0, size - 1, size, size + len(kept) - 5, size + len(kept) - 4, size + len(kept) - 1, size + len(kept)} {
			for _, fuse := range []int{-1, 0} {
				d := d
				d.Room, d.Fuse = max(room, 0), fuse
				s, no := want(d)
				got, why := serve.Start(d)
				wantServer(t, fmt.Sprint(name, ", room ", room), got, why, s, no)
			}
		}
		for len(d.Files) < maxFiles {
			d.Files = append(d.Files, api.File{Name: fmt.Sprintf("x%03d", len(d.Files))})
		}
		s, no := want(d)
		if (no == api.ErrFull) != (len(files) == 2) {
			t.Errorf("%s, many files: error %d", name, no)
		}
		got, why := serve.Start(d)
		wantServer(t, name+", many files", got, why, s, no)
		d = with(files...)
		for n := range 3 {
			d.Waits = slices.Repeat([]api.Write{app("x", "")}, maxWaits-n)
			s, no := want(d)
			got, why := serve.Start(d)
			wantServer(t, fmt.Sprint(name, ", room for ", n, " writes"), got, why, s, no)
		}
	}
	if failed < 30 {
		t.Errorf("only %d repairs failed", failed)
	}
}
