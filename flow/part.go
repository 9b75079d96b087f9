package flow

import (
	"verderer/api"
	"verderer/bag"
	"verderer/group"
	"verderer/meet"
	"verderer/miss"
	"verderer/pick"
	"verderer/plan"
	"verderer/shape"
)

// part is a part of plans: what tells its rows, and the keys of the parts that it stands on; of a Scan its relation.
type part struct {
	teller
	left, right string
	rel         string
}

// teller tells rows, which change as those on both sides do that they are told of. What it refuses changes nothing.
type teller interface {
	Apply(left, right []api.Entry) ([]api.Entry, api.Errno)
	Rows() []api.Entry
}

// single is a teller that has one side only.
type single interface {
	Apply(l ...api.Entry) ([]api.Entry, api.Errno)
	Rows() []api.Entry
}

// onLeft is a single one, whose side is the left one.
type onLeft struct{ single }

func (o onLeft) Apply(left, _ []api.Entry) ([]api.Entry, api.Errno) { return o.single.Apply(left...) }

// scan is a relation, whose rows have changed already when a Scan of it is told so.
type scan struct{ *bag.Bag }

func (s scan) Apply(l ...api.Entry) ([]api.Entry, api.Errno) {
	if s.Len() > api.MaxEntries {
		return nil, api.ErrFull
	}
	return l, api.OK
}

// kept is the rows of a part that hang on those of its side each by itself: how these change is passed on by a function.
type kept struct {
	bag.Bag
	pass func(l []api.Entry) ([]api.Entry, api.Errno)
}

// Apply changes a copy, which costs nothing. It leaves it to the bag to refuse a row that would be there too often; there are no more rows than on the side, so they are never too many.
func (k *kept) Apply(l ...api.Entry) ([]api.Entry, api.Errno) {
	out, why := k.pass(l)
	if why != api.OK {
		return nil, why
	}
	next := k.Copy()
	for _, e := range out {
		if why := next.Add(e.Row, e.Many); why != api.OK {
			return nil, why
		}
	}
	k.Bag = *next
	return out, api.OK
}

// part answers one that is not there yet, and tells what it is to tell of all that it stands on; or why it can not.
func (f *Flow) part(n *api.Node) (part, api.Errno) {
	t, why := f.teller(n)
	if why != api.OK {
		return part{}, why
	}
	p := part{teller: t, left: shape.Key(n.Left), right: shape.Key(n.Right)}
	left, _ := f.Rows(p.left)
	right, _ := f.Rows(p.right)
	if n.Kind == api.Scan {
		p.rel, left = n.Name, f.rels[n.Name].Rows()
	}
	if _, why := p.Apply(left, right); why != api.OK {
		return part{}, why
	}
	return p, api.OK
}

// teller answers what tells n's rows, as long as there are none that it stands on.
func (f *Flow) teller(n *api.Node) (teller, api.Errno) {
	left, right := plan.Wide(n.Left), plan.Wide(n.Right)
	switch n.Kind {
	case api.Scan:
		return onLeft{scan{f.rels[n.Name]}}, api.OK
	case api.Where:
		where := func(l []api.Entry) ([]api.Entry, api.Errno) { return pick.Where(l, n.Conds...), api.OK }
		return onLeft{&kept{pass: where}}, api.OK
	case api.Take:
		take := func(l []api.Entry) ([]api.Entry, api.Errno) { return pick.Take(l, n.Cols...) }
		return onLeft{&kept{pass: take}}, api.OK
	case api.Once:
		return onLeft{pick.New()}, api.OK
	case api.Group:
		g, why := group.New(left, n.Agg, n.Of, n.Cols...)
		return onLeft{g}, why
	case api.Meet:
		return meet.New(left, right, n.Pairs...)
	}
	return miss.New(left, right, n.Pairs...)
}
