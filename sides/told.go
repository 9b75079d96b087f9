package sides

import (
	"verderer/api"
	"verderer/bag"
	"verderer/row"
)

// Told is the rows that are told of both sides.
type Told struct{ rows bag.Bag }

func (t *Told) Rows() []api.Entry { return t.rows.Rows() }

// Pass has both sides change, and answers how what is told of them changes; or has them change back, and answers why it may not.
//
// What is handed on: change has the sides' changes come so many times. touched answers the rows that are told of the sides as they are and may be told otherwise by the changes; it may answer others, too, and only the first of them, if these are more than MaxEntries that are told. many answers how often a row is told of the sides as they are.
func (t *Told) Pass(change func(times int64), touched func() [][]api.Value, many func(r []api.Value) int64) ([]api.Entry, api.Errno) {
	rows := touched()
	change(1)
	rows = append(rows, touched()...)
	out, why := t.settle(rows, many)
	if why != api.OK {
		change(-1)
	}
	return out, why
}

// settle has each of rows told as often as many says, and answers how that changes. It leaves it to the bag to refuse one that would be told too often.
func (t *Told) settle(rows [][]api.Value, many func(r []api.Value) int64) ([]api.Entry, api.Errno) {
	var out []api.Entry
	size := t.rows.Len()
	for _, r := range row.Sort(rows...) {
		was, now := t.rows.Many(r), many(r)
		switch {
		case was == now:
			continue
		case was == 0:
			size++
		case now == 0:
			size--
		}
		out = append(out, api.Entry{Row: r, Many: now - was})
	}
	if size > api.MaxEntries {
		return nil, api.ErrFull
	}
	next := t.rows.Copy()
	for _, e := range out {
		if why := next.Add(e.Row, e.Many); why != api.OK {
			return nil, why
		}
	}
	t.rows = *next
	return out, api.OK
}
