package copies_test

import (
	"slices"
	"testing"

	"freshet/api"
	"freshet/copies"
)

func TestList(t *testing.T) {
	for _, l := range [][]int{nil, {}, {1}, {1, 2, 3, 4, 5}} {
		given := append(slices.Clone(l), 7, 7, 7)
		c := copies.List(given[:len(l)])
		if !slices.Equal(c, l) || cap(c) != len(c) {
			t.Errorf("%d: %d, capacity %d", l, c, cap(c))
		}
		for i := range c {
			c[i] = 9
		}
		if !slices.Equal(given, append(slices.Clone(l), 7, 7, 7)) {
			t.Errorf("%d was changed: %d", l, given)
		}
	}
}

func TestUpdates(t *testing.T) {
	if c := copies.Updates(nil); len(c) != 0 {
		t.Errorf("of none: %v", c)
	}
	row := []api.Value{{N: 1}, {IsText: true, S: "a"}}
	time := api.Time{Epoch: 1, Loop: [2]uint64{2, 3}}
	l := []api.Update{{Key: row[:1], Row: row, Time: time, Diff: 4}, {Row: row, Time: time, Diff: -4}}
	c := copies.Updates(l)
	for i, u := range c {
		if !slices.Equal(u.Key, l[i].Key) || !slices.Equal(u.Row, row) || u.Time != time || u.Diff != l[i].Diff {
			t.Errorf("copied: %v", u)
		}
	}
	c[0].Key[0].N, c[0].Row[1].S, c[0].Diff = 8, "b", 8
	if c[0].Row[0].N != 1 || c[1].Row[1].S != "a" || row[0].N != 1 || row[1].S != "a" || l[0].Diff != 4 {
		t.Errorf("the copies %v of %v share memory", c, l)
	}
}
