package moment

import (
	"slices"

	"freshet/api"
)

// Front returns the frontier of times.
func Front(l ...api.Time) []api.Time {
	l = slices.Clone(l)
	slices.SortFunc(l, Compare)
	var f []api.Time
	for _, t := range l {
		// What is at or before t, and t itself if it is given again, comes no later in the linear order.
		if !Beyond(f, t) {
			f = append(f, t)
		}
	}
	return f
}

// Beyond reports whether an element of any list f is at or before t.
func Beyond(f []api.Time, t api.Time) bool {
	for _, x := range f {
		if Ahead(x, t) {
			return true
		}
	}
	return false
}

// Advance returns the greatest of the times that are at or before the same times beyond any list f as t is, or t if f is empty.
func Advance(t api.Time, f []api.Time) api.Time {
	if len(f) == 0 {
		return t
	}
	a := Lub(t, f[0])
	for _, x := range f[1:] {
		a = Glb(a, Lub(t, x))
	}
	return a
}
