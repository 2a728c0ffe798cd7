// Package disk simulates a disk with files, buffered writes and crashes: see ../../shared/DOC.md and doc/02-disk.md.
package disk

import (
	"slices"

	"freshet/api"
)

// working is a disk in use, together with what can be seen on it.
type working struct {
	api.Disk
	visible
}

// Check returns ErrState if d is not valid.
func Check(d api.Disk) api.Errno {
	if d.Room < 0 || !rightFiles(d.Files) || !rightWaits(d.Files, d.Waits) {
		return api.ErrState
	}
	return api.OK
}

// See returns the visible files.
func See(d api.Disk) ([]api.File, api.Errno) {
	k, why := open(d)
	if why != api.OK {
		return nil, why
	}
	if k.Down {
		return nil, api.ErrPower
	}
	return k.list(), api.OK
}

// Read returns what a visible file contains.
func Read(d api.Disk, name string) (string, api.Errno) {
	k, why := open(d)
	if why != api.OK {
		return "", why
	}
	if k.Down {
		return "", api.ErrPower
	}
	return k.read(name)
}

// Do buffers writes, one after the other, up to the first error.
func Do(d api.Disk, l ...api.Write) (api.Disk, api.Errno) {
	k, why := open(d)
	if why != api.OK {
		return api.Disk{}, why
	}
	for _, w := range l {
		if why := k.write(w); why != api.OK {
			return k.Disk, why
		}
	}
	return k.Disk, api.OK
}

// Sync makes what is visible last.
func Sync(d api.Disk) (api.Disk, api.Errno) {
	k, why := open(d)
	if why != api.OK {
		return api.Disk{}, why
	}
	if k.Down || !k.burn() {
		return k.Disk, api.ErrPower
	}
	k.Files, k.Waits = k.list(), nil
	return k.Disk, api.OK
}

// Crash returns what a crash leaves that keeps some buffered writes and tears the next one.
func Crash(d api.Disk, keep, tear int) (api.Disk, api.Errno) {
	if why := Check(d); why != api.OK {
		return api.Disk{}, why
	}
	keep = min(max(keep, 0), len(d.Waits))
	left := look(d.Files, d.Waits[:keep]...)
	if keep < len(d.Waits) && d.Waits[keep].Kind == api.WriteAppend && tear >= 1 {
		next := d.Waits[keep]
		left.extend(next.Name, next.Data[:min(tear, len(next.Data))])
	}
	return api.Disk{Files: left.list(), Room: d.Room, Fuse: -1}, api.OK
}

// open returns a working disk that shares no list with d.
func open(d api.Disk) (working, api.Errno) {
	if why := Check(d); why != api.OK {
		return working{}, why
	}
	seen := look(d.Files, d.Waits...)
	d.Files, d.Waits = slices.Clone(d.Files), slices.Clone(d.Waits)
	return working{Disk: d, visible: seen}, api.OK
}

// write buffers one write. With an error, what is visible is of no use any more.
func (k *working) write(w api.Write) api.Errno {
	if k.Down {
		return api.ErrPower
	}
	if !rightWrite(w) {
		return api.ErrForm
	}
	if w.Kind != api.WriteAppend && !k.has(w.Name) {
		return api.ErrNone
	}
	k.apply(w)
	if len(k.Waits) >= api.MaxWaits || k.tooMany() || k.size > k.Room {
		return api.ErrFull
	}
	powered := k.burn()
	// Of an append that the power fails in, a part may have come to the disk.
	if powered || w.Kind == api.WriteAppend {
		k.Waits = append(k.Waits, w)
	}
	if !powered {
		return api.ErrPower
	}
	return api.OK
}

// burn uses up the fuse by one, and reports whether the power held.
func (k *working) burn() bool {
	if k.Fuse == 0 {
		k.Down = true
		return false
	}
	if k.Fuse > 0 {
		k.Fuse--
	}
	return true
}
