package world

import (
	"slices"

	"freshet/api"
	"freshet/disk"
	"freshet/engine"
	"freshet/flow"
	"freshet/serve"
)

// working is a world that is being changed; all its lists are its own.
type working struct {
	api.World
}

// possible returns the error for which no step of a kind can be executed.
func (k *working) possible(kind api.WorldKind) api.Errno {
	switch {
	case kind == api.WorldNone || kind >= api.WorldCount:
		return api.ErrForm
	case kind == api.WorldRise && k.Up:
		return api.ErrState
	case kind != api.WorldRise && !k.Up:
		return api.ErrPower
	}
	return api.OK
}

// do executes a step; what cannot be done leaves the world as it was, unless it is the server that says so.
func (k *working) do(s api.WorldStep) api.Errno {
	switch s.Kind {
	case api.WorldRecord:
		return k.served(serve.Do(k.Server, s.Record))
	case api.WorldPick:
		return k.worked(engine.Pick(k.Server.Engine, s.Name, s.N))
	case api.WorldSweep:
		return k.sweep(s.Name)
	case api.WorldWork:
		return k.worked(engine.Work(k.Server.Engine, s.N))
	case api.WorldSync:
		return k.served(serve.Sync(k.Server))
	case api.WorldCheckpoint:
		return k.served(serve.Checkpoint(k.Server))
	case api.WorldFuse:
		k.Server.Disk.Fuse = max(s.N, -1)
	case api.WorldFall:
		k.Up, k.Server = false, api.Server{Disk: k.Server.Disk}
	case api.WorldRise:
		return k.rise(s.N, s.Tear)
	case api.WorldHear:
		return k.hear(s.Name)
	case api.WorldAck:
		return k.acknowledge(s.Name)
	}
	return api.OK
}

// served takes over what became of the server, with whatever error.
func (k *working) served(s api.Server, why api.Errno) api.Errno {
	k.Server = s
	if why == api.ErrPower {
		k.Up = false
	}
	return why
}

// worked takes over what became of the engine.
func (k *working) worked(e api.Engine, why api.Errno) api.Errno {
	k.Server.Engine = e
	return why
}

// sweep runs each node of a query at which something waits as it begins.
func (k *working) sweep(query string) api.Errno {
	i := slices.IndexFunc(k.Server.Engine.Base.Queries, func(q api.Query) bool { return q.Name == query })
	if i < 0 {
		return api.ErrNone
	}
	l, why := flow.Waits(k.Server.Engine.Flows[i])
	for _, n := range l {
		if why == api.OK {
			why = k.worked(engine.Pick(k.Server.Engine, query, n))
		}
	}
	return why
}

// rise has the power come back after a crash that keeps some writes and tears the next one.
func (k *working) rise(keep, tear int) api.Errno {
	d, why := disk.Crash(k.Server.Disk, keep, tear)
	if why != api.OK {
		return why
	}
	k.Server, why = serve.Start(d)
	k.Up = why == api.OK
	k.forget()
	return why
}
