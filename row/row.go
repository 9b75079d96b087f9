// Package row is layer 2: rows of values, and their order. See shared/doc/02-row.md.
package row

import (
	"slices"

	"verderer/api"
	"verderer/value"
)

func Of(l ...api.Value) []api.Value { return slices.Clone(l) }

func Right(r []api.Value) bool {
	return len(r) <= api.MaxWide && !slices.ContainsFunc(r, func(v api.Value) bool { return !value.Right(v) })
}

func Compare(a, b []api.Value) int { return slices.CompareFunc(a, b, value.Compare) }

func Same(a, b []api.Value) bool { return Compare(a, b) == 0 }

func Pick(r []api.Value, cols ...int) ([]api.Value, api.Errno) {
	out := make([]api.Value, 0, len(cols))
	for _, c := range cols {
		if !within(r, c) {
			return nil, api.ErrArg
		}
		out = append(out, r[c])
	}
	return out, api.OK
}

func within(r []api.Value, place int) bool { return 0 <= place && place < len(r) }

func Join(l ...[]api.Value) []api.Value { return slices.Concat(l...) }

func Pairs(a, b []api.Value, l ...api.Pair) bool {
	for _, p := range l {
		if !within(a, p.Left) || !within(b, p.Right) || value.Compare(a[p.Left], b[p.Right]) != 0 {
			return false
		}
	}
	return true
}

// Sort orders places, not rows, so that only the rows that stay are copied; the order is stable, so that of rows that are the same the first one stays.
func Sort(l ...[]api.Value) [][]api.Value {
	places := make([]int, len(l))
	for i := range places {
		places[i] = i
	}
	inOrder := func(i, k int) int { return Compare(l[i], l[k]) }
	slices.SortStableFunc(places, inOrder)
	out := make([][]api.Value, 0, len(l))
	for _, i := range places {
		if n := len(out); n == 0 || !Same(out[n-1], l[i]) {
			out = append(out, Of(l[i]...))
		}
	}
	return out
}
