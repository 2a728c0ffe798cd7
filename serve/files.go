package serve

import (
	"strconv"
	"strings"

	"freshet/api"
	"freshet/input"
	"freshet/pack"
)

// The names of files: the checkpoint, and what becomes it, or a log, when it is whole.
const (
	checkpoint          = "base"
	checkpointTemporary = "base.tmp"
	logTemporary        = "log.tmp"
)

// logOf is the name of the log of a checkpoint.
func logOf(gen uint64) string {
	return "log." + strconv.FormatUint(gen, 10)
}

// framed is the frame of a record.
func framed(r api.Record) (string, api.Errno) {
	s, why := input.Encode(r)
	if why != api.OK {
		return "", why
	}
	return pack.Frame(s)
}

// contents is what a checkpoint of a number and a base contains.
func contents(gen uint64, b api.Base) (string, api.Errno) {
	f, why := pack.Frame(pack.Count(gen))
	if why != api.OK {
		return "", why
	}
	l, why := input.Make(b)
	if why != api.OK {
		return "", why
	}
	parts := []string{f}
	for _, r := range l {
		f, why := framed(r)
		if why != api.OK {
			return "", why
		}
		parts = append(parts, f)
	}
	return strings.Join(parts, ""), api.OK
}

// parse returns the number and the base of what a checkpoint contains, or ErrForm if that is none.
func parse(text string) (uint64, api.Base, api.Errno) {
	payload, text, why := pack.TakeFrame(text)
	if why != api.OK {
		return 0, api.Base{}, api.ErrForm
	}
	gen, rest, why := pack.TakeCount(payload)
	if why != api.OK || rest != "" || gen < 1 || gen > api.MaxNumber {
		return 0, api.Base{}, api.ErrForm
	}
	b, rest, why := load(api.Base{}, text)
	if why != api.OK || rest != "" {
		return 0, api.Base{}, api.ErrForm
	}
	return gen, b, api.OK
}

// load applies the records of the frames at the beginning of a text to a base, and returns what is behind these frames, or ErrForm if one of them cannot be applied.
func load(b api.Base, text string) (api.Base, string, api.Errno) {
	for {
		payload, rest, why := pack.TakeFrame(text)
		if why != api.OK {
			return b, text, api.OK
		}
		r, why := input.Decode(payload)
		if why == api.OK {
			b, why = input.Apply(b, r)
		}
		if why != api.OK {
			return api.Base{}, "", api.ErrForm
		}
		text = rest
	}
}
