// Package copies makes copies that share no memory with what they are copies of: no answer of the program shares any with an argument, or with another answer.
package copies

import "freshet/api"

// List returns a copy of l without spare capacity; what its elements share, they share still.
func List[T any](l []T) []T {
	if len(l) == 0 {
		return nil
	}
	c := make([]T, len(l))
	copy(c, l)
	return c
}

// Updates returns a copy of updates with their rows.
func Updates(l []api.Update) []api.Update {
	c := List(l)
	for i, u := range c {
		c[i].Key, c[i].Row = List(u.Key), List(u.Row)
	}
	return c
}
