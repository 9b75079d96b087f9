// Package sides has the rows of two sides, and rows that are told of them as both change. It is what meet and miss (layers 21 and 22) have in common.
package sides

import (
	"cmp"
	"slices"

	"verderer/api"
	"verderer/bag"
	"verderer/index"
	"verderer/pick"
	"verderer/row"
)

// The sides' places.
const (
	Left = iota
	Right
)

// Sides has each side at its place.
type Sides [2]Side

// Side is rows of so many cells, in order, and by their key: their cells at the pairs' places, which those of the other side are to have as well.
type Side struct {
	wide  int
	cols  []int
	rows  bag.Bag
	byKey index.Index
}

// New takes each pair once, so that keys are short, however many pairs are handed in.
func New(left, right int, l ...api.Pair) (*Sides, api.Errno) {
	inOrder := func(a, b api.Pair) int { return cmp.Or(cmp.Compare(a.Left, b.Left), cmp.Compare(a.Right, b.Right)) }
	var cols [2][]int
	for _, p := range slices.Compact(slices.SortedFunc(slices.Values(l), inOrder)) {
		cols[Left] = append(cols[Left], p.Left)
		cols[Right] = append(cols[Right], p.Right)
	}
	s := &Sides{}
	for i, wide := range [2]int{left, right} {
		side, why := newSide(wide, cols[i]...)
		if why != api.OK {
			return nil, why
		}
		s[i] = side
	}
	return s, api.OK
}

func newSide(wide int, cols ...int) (Side, api.Errno) {
	outside := func(c int) bool { return c < 0 || c >= wide }
	if wide < 1 || wide > api.MaxWide || slices.ContainsFunc(cols, outside) {
		return Side{}, api.ErrArg
	}
	x, why := index.New(cols...)
	if why != api.OK {
		return Side{}, why
	}
	return Side{wide: wide, cols: cols, byKey: *x}, api.OK
}

// Nets answers the net of what is to come and go at each side, or why it may not.
func (s *Sides) Nets(left, right []api.Entry) ([2][]api.Entry, api.Errno) {
	var none, nets [2][]api.Entry
	lists := [2][]api.Entry{left, right}
	for i := range 2 {
		net, why := pick.Net(lists[i]...)
		if why != api.OK {
			return none, why
		}
		nets[i] = net
	}
	if !s[Left].fit(left) || !s[Right].fit(right) {
		return none, api.ErrArg
	}
	if !s[Left].may(nets[Left]) || !s[Right].may(nets[Right]) {
		return none, api.ErrOver
	}
	return nets, api.OK
}

// Change has nets, of which Nets said that they may, come so many times: once, or, to have them go again, -1 times. So no bag refuses them.
func (s *Sides) Change(nets [2][]api.Entry, times int64) {
	for i := range 2 {
		for _, e := range nets[i] {
			s[i].rows.Add(e.Row, e.Many*times)
			s[i].byKey.Add(e.Row, e.Many*times)
		}
	}
}

// fit: have all rows just as many cells as the side's?
func (s *Side) fit(l []api.Entry) bool {
	return !slices.ContainsFunc(l, func(e api.Entry) bool { return len(e.Row) != s.wide })
}

// may: would each row be there as often as one may?
func (s *Side) may(net []api.Entry) bool {
	over := func(e api.Entry) bool {
		many := s.Many(e.Row) + e.Many
		return many < 0 || many > api.MaxCount
	}
	return !slices.ContainsFunc(net, over)
}

func (s *Side) Wide() int { return s.wide }

func (s *Side) Rows() []api.Entry { return s.rows.Rows() }

func (s *Side) Many(r []api.Value) int64 { return s.rows.Many(r) }

// Key answers the key of a row that has the side's many cells.
func (s *Side) Key(r []api.Value) []api.Value {
	key, _ := row.Pick(r, s.cols...)
	return key
}

// Find answers the side's rows of a key, in order.
func (s *Side) Find(key []api.Value) []api.Entry { return s.byKey.Find(key) }

// Has: is any row of that key there?
func (s *Side) Has(key []api.Value) bool { return s.byKey.Has(key) > 0 }
