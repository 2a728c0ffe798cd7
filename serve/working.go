package serve

import (
	"freshet/api"
	"freshet/copies"
	"freshet/disk"
	"freshet/engine"
)

// working is a server that is being changed; all its lists are its own.
type working struct {
	api.Server
}

// begin returns a working copy of a server, or ErrState if it is not valid.
func begin(s api.Server) (working, api.Errno) {
	if why := Check(s); why != api.OK {
		return working{}, why
	}
	return working{Server: copies.Server(s)}, api.OK
}

// start has a server begin that has nothing but its disk; with an error that is so still.
func (w *working) start() api.Errno {
	gen, b, why := w.saved()
	if why != api.OK {
		return why
	}
	text, _ := disk.Read(w.Disk, logOf(gen))
	b, rest, why := load(b, text)
	if why != api.OK {
		return why
	}
	if rest != "" {
		if why := w.replace(logOf(gen), logTemporary, text[:len(text)-len(rest)]); why != api.OK {
			return why
		}
	}
	e, why := engine.Start(b)
	if why == api.OK {
		w.Gen, w.Engine = gen, e
	}
	return why
}

// saved returns the number of the checkpoint and its base: zeros, if there is none. A disk of which nothing can be seen has no files to read either: that error comes first.
func (w *working) saved() (uint64, api.Base, api.Errno) {
	text, why := disk.Read(w.Disk, checkpoint)
	if why == api.ErrNone {
		return 0, api.Base{}, api.OK
	}
	if why != api.OK {
		return 0, api.Base{}, why
	}
	return parse(text)
}

func (w *working) do(r api.Record) api.Errno {
	e, why := engine.Do(w.Engine, r)
	if why != api.OK {
		return why
	}
	f, why := framed(r)
	if why != api.OK {
		return why
	}
	if why := w.write(extend(logOf(w.Gen), f)); why != api.OK {
		return why
	}
	w.Engine = e
	return api.OK
}

func (w *working) checkpoint() api.Errno {
	if w.Gen == api.MaxNumber {
		return api.ErrRange
	}
	e, why := marked(w.Engine)
	if why != api.OK {
		return why
	}
	text, why := contents(w.Gen+1, e.Base)
	if why != api.OK {
		return why
	}
	why = w.replace(checkpoint, checkpointTemporary, text)
	if why == api.OK {
		why = w.write(w.removal(logOf(w.Gen))...)
	}
	if why != api.OK {
		return w.giveUp(why)
	}
	w.Gen, w.Engine = w.Gen+1, e
	return api.OK
}

// giveUp leaves no half a checkpoint that takes up room, and returns the error for which there is none, or ErrPower if the server goes down meanwhile.
func (w *working) giveUp(why api.Errno) api.Errno {
	if why != api.ErrPower && w.write(w.removal(checkpointTemporary)...) == api.ErrPower {
		return api.ErrPower
	}
	return why
}

// marked returns an engine that has marked how far its queries have come.
func marked(e api.Engine) (api.Engine, api.Errno) {
	l, why := engine.Marks(e)
	for _, r := range l {
		if why == api.OK {
			e, why = engine.Do(e, r)
		}
	}
	return e, why
}

// replace gives a file other contents by way of a temporary file, so that whatever a crash leaves of that, the file is the old one or the new one.
func (w *working) replace(name, temporary, text string) api.Errno {
	if why := w.write(append(w.removal(temporary), extend(temporary, text))...); why != api.OK {
		return why
	}
	if why := w.sync(); why != api.OK {
		return why
	}
	if why := w.write(api.Write{Kind: api.WriteRename, Name: temporary, To: name}); why != api.OK {
		return why
	}
	return w.sync()
}

// removal is the write that removes a file, or none if the file does not exist.
func (w *working) removal(name string) []api.Write {
	if _, why := disk.Read(w.Disk, name); why != api.OK {
		return nil
	}
	return []api.Write{{Kind: api.WriteRemove, Name: name}}
}

// extend is the write that appends to a file.
func extend(name, text string) api.Write {
	return api.Write{Kind: api.WriteAppend, Name: name, Data: text}
}

// write executes writes, one by one, up to the first error.
func (w *working) write(l ...api.Write) api.Errno {
	d, why := disk.Do(w.Disk, l...)
	return w.follow(d, why)
}

func (w *working) sync() api.Errno {
	d, why := disk.Sync(w.Disk)
	return w.follow(d, why)
}

// follow takes over what became of the disk; with the power, all else is gone.
func (w *working) follow(d api.Disk, why api.Errno) api.Errno {
	w.Disk = d
	if why == api.ErrPower {
		w.Server = api.Server{Disk: d}
	}
	return why
}
