package bag

import (
	"iter"

	"verderer/api"
	"verderer/row"
)

// With just these two numbers one turn, or two, put a tree in balance again that was so ahead of one row more, or less.
const (
	// A side may weigh so many times what the other one does.
	maxLean = 3
	// An inner part that weighs so many times what the outer one does would be too heavy on the other side, so it is turned first.
	maxInner = 2
)

// tree is a row, and those ahead of it and behind it; nil has none.
type tree struct {
	api.Entry
	size      int
	low, high *tree
}

func fork(e api.Entry, low, high *tree) *tree {
	return &tree{Entry: e, size: low.len() + 1 + high.len(), low: low, high: high}
}

func (t *tree) len() int {
	if t == nil {
		return 0
	}
	return t.size
}

// weight counts the places at which a row may come, so that it is never 0.
func (t *tree) weight() int { return t.len() + 1 }

// all tells the nodes in the order of their rows.
func (t *tree) all() iter.Seq[*tree] {
	return func(yield func(*tree) bool) { t.each(yield) }
}

// each answers whether there is to be more.
func (t *tree) each(yield func(*tree) bool) bool {
	return t == nil || t.low.each(yield) && yield(t) && t.high.each(yield)
}

func (t *tree) many(r []api.Value) int64 {
	if n := t.from(r); n != nil && row.Same(n.Row, r) {
		return n.Many
	}
	return 0
}

// from answers the first node whose row is not ahead of r.
func (t *tree) from(r []api.Value) *tree {
	var first *tree
	for t != nil {
		if row.Compare(t.Row, r) < 0 {
			t = t.high
		} else {
			first, t = t, t.low
		}
	}
	return first
}

func (t *tree) least() *tree {
	for t != nil && t.low != nil {
		t = t.low
	}
	return t
}

func (t *tree) most() *tree {
	for t != nil && t.high != nil {
		t = t.high
	}
	return t
}

// plus answers the tree in which r is there so many times more.
func (t *tree) plus(r []api.Value, many int64) (*tree, api.Errno) {
	was := t.many(r)
	switch {
	case many < -api.MaxCount-was || many > api.MaxCount-was:
		return nil, api.ErrOver
	case many == 0:
		return t, api.OK
	case was+many == 0:
		return t.without(r), api.OK
	}
	return t.with(r, was+many), api.OK
}

// with answers the tree in which r is there so often.
func (t *tree) with(r []api.Value, many int64) *tree {
	if t == nil {
		return fork(api.Entry{Row: row.Of(r...), Many: many}, nil, nil)
	}
	switch row.Compare(r, t.Row) {
	case -1:
		return balanced(t.Entry, t.low.with(r, many), t.high)
	case 1:
		return balanced(t.Entry, t.low, t.high.with(r, many))
	}
	return fork(api.Entry{Row: t.Row, Many: many}, t.low, t.high)
}

// without answers the tree less r, which is there.
func (t *tree) without(r []api.Value) *tree {
	switch row.Compare(r, t.Row) {
	case -1:
		return balanced(t.Entry, t.low.without(r), t.high)
	case 1:
		return balanced(t.Entry, t.low, t.high.without(r))
	}
	if t.high == nil {
		return t.low
	}
	next := t.high.least().Entry
	return balanced(next, t.low, t.high.without(next.Row))
}

// balanced answers the tree of low, e and high, of which one side may be one row too heavy.
func balanced(e api.Entry, low, high *tree) *tree {
	switch {
	case low.weight() > maxLean*high.weight():
		if low.high.weight() >= maxInner*low.low.weight() {
			low = raiseHigh(low.Entry, low.low, low.high)
		}
		return raiseLow(e, low, high)
	case high.weight() > maxLean*low.weight():
		if high.low.weight() >= maxInner*high.high.weight() {
			high = raiseLow(high.Entry, high.low, high.high)
		}
		return raiseHigh(e, low, high)
	}
	return fork(e, low, high)
}

// raiseLow answers the tree of low, e and high with low's row at its top.
func raiseLow(e api.Entry, low, high *tree) *tree {
	return fork(low.Entry, low.low, fork(e, low.high, high))
}

// raiseHigh does so with high's.
func raiseHigh(e api.Entry, low, high *tree) *tree {
	return fork(high.Entry, fork(e, low, high.low), high.high)
}
