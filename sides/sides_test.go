package sides

import (
	"slices"
	"testing"

	"verderer/api"
	"verderer/row"
	"verderer/value"
)

func entry(many int64, l ...int64) api.Entry {
	e := api.Entry{Many: many}
	for _, n := range l {
		e.Row = append(e.Row, value.Int(n))
	}
	return e
}

func sameEntries(a, b []api.Entry) bool {
	return slices.EqualFunc(a, b, func(x, y api.Entry) bool { return x.Many == y.Many && slices.Equal(x.Row, y.Row) })
}

func sidesOf(t *testing.T, left, right int, l ...api.Pair) *Sides {
	t.Helper()
	s, why := New(left, right, l...)
	if s == nil || why != api.OK {
		t.Fatal("New", left, right, l, why)
	}
	return s
}

// Both sides' rows with the same key are found by it, as they come and go again.
func TestKeys(t *testing.T) {
	s := sidesOf(t, 3, 2, api.Pair{Left: 2, Right: 0}, api.Pair{Left: 0, Right: 1}, api.Pair{Left: 2, Right: 0})
	left, right := []api.Entry{entry(2, 1, 0, 5), entry(1, 1, 9, 5), entry(1, 5, 0, 1)}, []api.Entry{entry(3, 5, 1)}
	nets, why := s.Nets(left, right)
	if why != api.OK || !sameEntries(nets[Left], left) || !sameEntries(nets[Right], right) {
		t.Fatal("Nets", nets, why)
	}
	key := s[Right].Key(right[0].Row)
	if !row.Same(key, s[Left].Key(left[0].Row)) || row.Same(key, s[Left].Key(left[2].Row)) {
		t.Error("Key", key)
	}
	for range 2 {
		s.Change(nets, 1)
		if got := s[Left].Find(key); !sameEntries(got, left[:2]) || !s[Right].Has(key) || !sameEntries(s[Right].Rows(), right) || s[Left].Many(left[0].Row) != 2 {
			t.Error("come", got)
		}
		s.Change(nets, -1)
		if got := s[Left].Find(key); len(got) != 0 || s[Right].Has(key) || len(s[Left].Rows()) != 0 || s[Right].Many(right[0].Row) != 0 {
			t.Error("gone", got)
		}
	}
	if s[Left].Wide() != 3 || s[Right].Wide() != 2 {
		t.Error("Wide")
	}
}

// What may not be told has both sides change back; what may does not.
func TestPass(t *testing.T) {
	r := entry(1, 7).Row
	for _, x := range []struct {
		many []int64
		told []api.Entry
		why  api.Errno
		rows []api.Entry
	}{
		{[]int64{0}, nil, api.OK, nil},
		{[]int64{5, 5, 3}, []api.Entry{entry(-2, 7)}, api.OK, []api.Entry{entry(3, 7)}},
		{[]int64{5, 0}, []api.Entry{entry(-5, 7)}, api.OK, nil},
		{[]int64{5, api.MaxCount}, []api.Entry{entry(api.MaxCount-5, 7)}, api.OK, []api.Entry{entry(api.MaxCount, 7)}},
		{[]int64{5, api.MaxCount + 1}, nil, api.ErrOver, []api.Entry{entry(5, 7)}},
	} {
		var told Told
		var got []api.Entry
		var why api.Errno
		now, undone := int64(0), 0
		change := func(times int64) {
			if times < 0 {
				undone++
			}
		}
		touched := func() [][]api.Value { return [][]api.Value{r, r} }
		for _, now = range x.many {
			got, why = told.Pass(change, touched, func([]api.Value) int64 { return now })
		}
		if why != x.why || !sameEntries(got, x.told) || !sameEntries(told.Rows(), x.rows) || (undone == 1) != (why != api.OK) {
			t.Error(x, got, why, told.Rows(), undone)
		}
	}
}
