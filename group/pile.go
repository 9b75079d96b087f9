package group

import (
	"verderer/api"
	"verderer/bag"
	"verderer/row"
	"verderer/safe"
	"verderer/value"
)

// pile is one group: its rows' cells at the group's places, and how many rows it has. As rows go, too, what its aggregate is made of is kept: of Count and Sum the exact total; of Least and Most the rows' values, each as often as there are rows that have it (not as often as these are there, which together is more than a bag may have).
type pile struct {
	cells  []api.Value
	rows   int64
	total  safe.Sum
	values bag.Bag
}

// copy answers a pile that changes apart from p.
func (p pile) copy() pile {
	p.values = *p.values.Copy()
	return p
}

// told answers the row that is told of a pile, so many times; none, if it has no rows.
func (p pile) told(agg int, many int64) ([]api.Entry, api.Errno) {
	if p.rows == 0 {
		return nil, api.OK
	}
	v, why := p.aggregate(agg)
	if why != api.OK {
		return nil, why
	}
	return []api.Entry{{Row: row.Join(p.cells, row.Of(v)), Many: many}}, api.OK
}

// aggregate answers that of a pile that has rows.
func (p pile) aggregate(agg int) (api.Value, api.Errno) {
	switch agg {
	case api.Count, api.Sum:
		n, why := p.total.Value()
		if why != api.OK || agg == api.Count && n > api.MaxCount {
			return api.Value{}, api.ErrOver
		}
		return value.Int(n), api.OK
	case api.Least:
		return only(p.values.Least())
	case api.Most:
		return only(p.values.Most())
	}
	return api.Value{}, api.ErrArg
}

// only answers the only cell of a row.
func only(r []api.Value, why api.Errno) (api.Value, api.Errno) {
	if why != api.OK {
		return api.Value{}, why
	}
	return r[0], api.OK
}
