package world

import (
	"slices"
	"strings"

	"freshet/api"
	"freshet/engine"
	"freshet/serve"
)

// subscriber returns the subscriber of a name, or false if there is none.
func (k *working) subscriber(name string) (api.Sub, bool) {
	l := k.Server.Engine.Base.Subs
	i := slices.IndexFunc(l, func(s api.Sub) bool { return s.Name == name })
	if i < 0 {
		return api.Sub{}, false
	}
	return l[i], true
}

// client returns the index of the client of a name, or the one that it would have, and whether there is one.
func (k *working) client(name string) (int, bool) {
	return slices.BinarySearchFunc(k.Clients, name, func(c api.Client, name string) int { return strings.Compare(c.Name, name) })
}

// heard is how many epochs a client has heard about.
func heard(c api.Client) uint64 {
	return uint64(len(c.Heard))
}

// hear has a client hear about its next epoch.
func (k *working) hear(name string) api.Errno {
	s, found := k.subscriber(name)
	if !found {
		return api.ErrNone
	}
	i, known := k.client(name)
	epoch := s.Next
	if known {
		epoch = k.Clients[i].First + heard(k.Clients[i])
	}
	l, why := engine.Hear(k.Server.Engine, name, epoch)
	if why != api.OK {
		return why
	}
	if !known {
		k.Clients = slices.Insert(k.Clients, i, api.Client{Name: name, First: epoch})
	}
	k.Clients[i].Heard = append(k.Clients[i].Heard, l)
	return api.OK
}

// acknowledge has a client say that it has heard about the first epoch of which it has not said so.
func (k *working) acknowledge(name string) api.Errno {
	s, found := k.subscriber(name)
	i, known := k.client(name)
	if !found || !known {
		return api.ErrNone
	}
	// The epochs of a client go on from its First, modulo 2^64, as it hears about them.
	if s.Next-k.Clients[i].First >= heard(k.Clients[i]) {
		return api.ErrEarly
	}
	return k.served(serve.Do(k.Server, api.Record{Kind: api.RecordAck, Name: name, Epoch: s.Next}))
}

// forget has each client forget what it has not acknowledged, or what of that did not last: it will hear that again.
func (k *working) forget() {
	for i, c := range k.Clients {
		if s, found := k.subscriber(c.Name); found && s.Next >= c.First {
			k.Clients[i].Heard = slices.Clip(c.Heard[:min(s.Next-c.First, heard(c))])
		}
	}
}

// cleanUp removes the clients that do not fit the subscribers, which can be told only while the power is on.
func (k *working) cleanUp() {
	if !k.Up {
		return
	}
	k.remove(func(c api.Client) bool {
		s, found := k.subscriber(c.Name)
		return !found || s.Next < c.First || s.Next-c.First > heard(c)
	})
}

// remove removes the clients that gone picks.
func (k *working) remove(gone func(api.Client) bool) {
	k.Clients = slices.DeleteFunc(k.Clients, gone)
}
