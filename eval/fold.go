package eval

import (
	"slices"

	"verderer/api"
	"verderer/safe"
	"verderer/value"
)

func Fold(agg, of int, l ...api.Entry) (api.Value, api.Errno) {
	if len(l) == 0 {
		return api.Value{}, api.ErrNone
	}
	for _, e := range l {
		if !counts(e.Many) || agg != api.Count && !within(e.Row, of) {
			return api.Value{}, api.ErrArg
		}
	}
	inOrder := func(a, b api.Entry) int { return value.Compare(a.Row[of], b.Row[of]) }
	switch agg {
	case api.Count:
		return count(l...)
	case api.Sum:
		return sum(of, l...)
	case api.Least:
		return slices.MinFunc(l, inOrder).Row[of], api.OK
	case api.Most:
		return slices.MaxFunc(l, inOrder).Row[of], api.OK
	}
	return api.Value{}, api.ErrArg
}

func within(r []api.Value, place int) bool { return 0 <= place && place < len(r) }

func count(l ...api.Entry) (api.Value, api.Errno) {
	var all safe.Sum
	for _, e := range l {
		all.Put(1, e.Many)
	}
	n, why := all.Value()
	if why != api.OK || n > api.MaxCount {
		return api.Value{}, api.ErrOver
	}
	return value.Int(n), api.OK
}

// sum is exact on its way, so that it does not hang on the order of the rows whether it fits.
func sum(of int, l ...api.Entry) (api.Value, api.Errno) {
	var all safe.Sum
	for _, e := range l {
		if v := e.Row[of]; v.Kind == api.Int {
			all.Put(v.Int, e.Many)
		}
	}
	n, why := all.Value()
	if why != api.OK {
		return api.Value{}, why
	}
	return value.Int(n), api.OK
}

func Holds(r []api.Value, l ...api.Cond) bool {
	return !slices.ContainsFunc(l, func(c api.Cond) bool { return !holds(r, c) })
}

func holds(r []api.Value, c api.Cond) bool {
	switch {
	case !within(r, c.Left):
		return false
	case c.Right < 0:
		return value.Test(c.Op, r[c.Left], c.Val)
	}
	return within(r, c.Right) && value.Test(c.Op, r[c.Left], r[c.Right])
}
