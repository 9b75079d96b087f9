package group

import (
	"maps"
	"math"
	"math/big"
	"math/rand"
	"slices"
	"testing"

	"verderer/api"
	"verderer/bag"
	"verderer/eval"
	"verderer/pick"
	"verderer/row"
	"verderer/value"
)

// model is a Group by the chapter's words: how often each row is there, and nothing kept of what is told.
type model struct {
	wide, agg, of int
	cols          []int
	rows          rows
}

// rows is how often each is there, by its cells in Go's own words.
type rows map[string]api.Entry

func (l rows) add(e api.Entry) {
	key := words(e.Row)
	e.Many += l[key].Many
	l[key] = e
	if e.Many == 0 {
		delete(l, key)
	}
}

func words(r []api.Value) string {
	var s string
	for _, v := range r {
		s += value.Show(v) + " "
	}
	return s
}

func (l rows) entries() []api.Entry {
	return slices.SortedFunc(maps.Values(l), func(a, b api.Entry) int { return row.Compare(a.Row, b.Row) })
}

// netOf is the net of changes, or why there is none.
func netOf(l []api.Entry) (rows, api.Errno) {
	out := rows{}
	for _, e := range l {
		if !row.Right(e.Row) {
			return nil, api.ErrArg
		}
		if many := out[words(e.Row)].Many; e.Many > most-many || e.Many < -most-many {
			return nil, api.ErrOver
		}
		out.add(e)
	}
	return out, api.OK
}

// told answers what is told of the groups; how many there are, and whether all aggregates fit.
func (m model) told() (out rows, many int, fits bool) {
	groups := map[string][]api.Entry{}
	for _, e := range m.rows.entries() {
		key := words(m.cells(e))
		groups[key] = append(groups[key], e)
	}
	out, fits = rows{}, true
	for _, l := range groups {
		v, ok := m.aggregate(l)
		fits = fits && ok
		out.add(api.Entry{Row: append(m.cells(l[0]), v), Many: 1})
	}
	return out, len(groups), fits
}

func (m model) cells(e api.Entry) []api.Value {
	var out []api.Value
	for _, c := range m.cols {
		out = append(out, e.Row[c])
	}
	return out
}

// aggregate answers that of rows, and whether it fits.
func (m model) aggregate(l []api.Entry) (api.Value, bool) {
	if m.agg == api.Least || m.agg == api.Most {
		var all []api.Value
		for _, e := range l {
			all = append(all, e.Row[m.of])
		}
		slices.SortFunc(all, value.Compare)
		return map[int]api.Value{api.Least: all[0], api.Most: all[len(all)-1]}[m.agg], true
	}
	sum, limit := new(big.Int), big.NewInt(most)
	for _, e := range l {
		n := int64(1)
		if m.agg == api.Sum {
			n, limit = 0, big.NewInt(math.MaxInt64)
			if v := e.Row[m.of]; v.Kind == api.Int {
				n = v.Int
			}
		}
		sum.Add(sum, new(big.Int).Mul(big.NewInt(n), big.NewInt(e.Many)))
	}
	return value.Int(sum.Int64()), sum.IsInt64() && sum.Cmp(limit) <= 0
}

// apply answers the model behind the changes, and how what is told changes.
func (m model) apply(l []api.Entry) (model, []api.Entry, api.Errno) {
	net, why := netOf(l)
	if why != api.OK {
		return m, nil, why
	}
	next := m
	next.rows = maps.Clone(m.rows)
	for _, e := range net {
		if len(e.Row) != m.wide {
			return m, nil, api.ErrArg
		}
		next.rows.add(e)
	}
	for _, e := range next.rows {
		if e.Many < 0 || e.Many > most {
			return m, nil, api.ErrOver
		}
	}
	is, many, fits := next.told()
	switch {
	case many > api.MaxEntries:
		return m, nil, api.ErrFull
	case !fits:
		return m, nil, api.ErrOver
	}
	was, _, _ := m.told()
	for _, e := range was {
		is.add(api.Entry{Row: e.Row, Many: -1})
	}
	return next, is.entries(), api.OK
}

// chance makes changes: rows of few values, now and then of a wrong width, or that can not be.
type chance struct {
	*rand.Rand
	values []api.Value
	many   []int64
	size   int
	wrong  bool
}

func (c chance) changes(wide int) []api.Entry {
	var out []api.Entry
	for range c.Intn(c.size) {
		e := api.Entry{Many: c.many[c.Intn(len(c.many))]}
		width := wide
		if c.wrong && c.Intn(80) == 0 {
			width += c.Intn(3) - 1
		}
		for range width {
			e.Row = append(e.Row, c.values[c.Intn(len(c.values))])
		}
		if c.wrong && c.Intn(200) == 0 {
			e.Row = wrong()[c.Intn(len(wrong()))]
		}
		out = append(out, e)
	}
	return out
}

// model answers one without rows, of any aggregate and places.
func (c chance) model() model {
	m := model{wide: 1 + c.Intn(3), agg: 1 + c.Intn(4), rows: rows{}}
	if m.agg != api.Count {
		m.of = c.Intn(m.wide)
	}
	for range c.Intn(4) {
		m.cols = append(m.cols, c.Intn(m.wide))
	}
	return m
}

func (m model) make(t *testing.T) *Group {
	t.Helper()
	return groupOf(t, m.wide, m.agg, m.of, m.cols...)
}

// P23.1 to P23.3: along many changes a Group is what the model is, and what a plan tells of the rows; all that it told, together, is Rows; changes that go again leave it as it was.
func TestAlong(t *testing.T) {
	few := []api.Value{value.Null(), value.Bool(true), value.Int(1), value.Int(-2), value.Int(7), value.Text("a"), value.Text("")}
	var lots []api.Value
	for i := range 3000 {
		lots = append(lots, value.Int(int64(i)))
	}
	for what, x := range map[string]struct {
		c            chance
		rounds, long int
		asked        []api.Errno
	}{
		"few":   {chance{values: few, many: []int64{-2, -1, -1, 0, 1, 1, 2, 3}, size: 7, wrong: true}, 250, 40, []api.Errno{api.OK, api.ErrArg, api.ErrOver}},
		"often": {chance{values: few[:4], many: []int64{-most, -1 << 29, -3, 1, 3, 1 << 29, most - 1, most, most + 1}, size: 4}, 400, 30, []api.Errno{api.OK, api.ErrOver}},
		"great": {chance{values: []api.Value{value.Null(), value.Int(1 << 40), value.Int(math.MaxInt64), value.Int(math.MinInt64), value.Int(-1)}, many: []int64{-1, 1, 1, 2, 1 << 20, most}, size: 4}, 400, 30, []api.Errno{api.OK, api.ErrOver}},
		"full":  {chance{values: lots, many: append(slices.Repeat([]int64{1}, 1200), -1), size: 700}, 20, 8, []api.Errno{api.OK, api.ErrFull, api.ErrOver}},
	} {
		x.c.Rand = rand.New(rand.NewSource(1))
		seen := map[api.Errno]int{}
		for range x.rounds {
			m := x.c.model()
			if what == "full" {
				m.wide, m.of, m.cols = 1, 0, []int{0}
			}
			along(t, x.c, x.long, m, seen)
		}
		for _, why := range x.asked {
			if seen[why] < 10 {
				t.Error(what, why, seen)
			}
		}
	}
}

func along(t *testing.T, c chance, long int, is model, seen map[api.Errno]int) {
	t.Helper()
	g, all := is.make(t), bag.New()
	for range long {
		l := c.changes(is.wide)
		next, want, wantWhy := is.apply(l)
		got, why := g.Apply(l...)
		seen[why]++
		checkEntries(t, []any{is, l}, got, why, want, wantWhy)
		for _, e := range got {
			if all.Add(e.Row, e.Many) != api.OK {
				t.Fatal("all that was told", e)
			}
		}
		is = next
		told, _, _ := is.told()
		checkGroup(t, g, told.entries(), len(is.rows))
		checkEntries(t, "all that was told", all.Rows(), api.OK, g.Rows(), api.OK)
		// Relations with more rows than this tell nothing.
		if len(is.rows) <= api.MaxEntries {
			checkEntries(t, "Eval", g.Rows(), api.OK, is.eval(t), api.OK)
		}
		if why == api.OK {
			again(t, g, l, got)
		}
	}
}

// eval answers what a plan tells of the rows.
func (m model) eval(t *testing.T) []api.Entry {
	t.Helper()
	n := &api.Node{Kind: api.Group, Cols: m.cols, Agg: m.agg, Of: m.of, Left: &api.Node{Kind: api.Scan, Name: "a", Wide: m.wide}}
	out, why := eval.Eval(n, eval.Rel{Name: "a", Rows: m.rows.entries()})
	if why != api.OK {
		t.Fatal("Eval", why)
	}
	return out
}

// again has changes go again, which tells the opposite, and come once more, which tells the same.
func again(t *testing.T, g *Group, l, was []api.Entry) {
	t.Helper()
	l, _ = pick.Net(l...)
	got, why := g.Apply(opposite(l)...)
	checkEntries(t, "back", got, why, opposite(was), api.OK)
	got, why = g.Apply(l...)
	checkEntries(t, "again", got, why, was, api.OK)
}

// P23.3: all at once, or one behind the other, in any order, ends as the same rows.
func TestOrders(t *testing.T) {
	c := chance{Rand: rand.New(rand.NewSource(1)), values: []api.Value{value.Null(), value.Int(1), value.Int(2)}, many: []int64{1, 2, 3}, size: 8}
	for range 1000 {
		m := c.model()
		l := c.changes(m.wide)
		at, first, last := m.make(t), m.make(t), m.make(t)
		apply(t, at, l)
		for i, e := range l {
			apply(t, first, []api.Entry{e})
			apply(t, last, []api.Entry{l[len(l)-1-i]})
		}
		checkGroup(t, first, at.Rows(), at.Len())
		checkGroup(t, last, at.Rows(), at.Len())
	}
}

// P6: places, rows and numbers of any kind.
func TestAnything(t *testing.T) {
	r := rand.New(rand.NewSource(1))
	odd := func() int {
		return []int{r.Intn(4), r.Intn(4), 1, 2, -1, 41, int(r.Uint64()), math.MaxInt, math.MinInt}[r.Intn(9)]
	}
	bad := wrong()
	oddList := func() []api.Entry {
		var l []api.Entry
		for range r.Intn(4) {
			e := api.Entry{Many: int64(odd())}
			for range r.Intn(4) {
				e.Row = append(e.Row, value.Int(int64(r.Intn(2))))
			}
			if r.Intn(6) == 0 {
				e.Row = bad[r.Intn(len(bad))]
			}
			l = append(l, e)
		}
		return l
	}
	made := 0
	for range 30000 {
		var cols []int
		for range r.Intn(3) {
			cols = append(cols, odd())
		}
		g, why := New(odd(), odd(), odd(), cols...)
		if (g == nil) != (why != api.OK) {
			t.Fatal("New", g, why)
		}
		if g != nil {
			made++
		}
		for range 3 {
			rows, many := g.Rows(), g.Len()
			if got, why := g.Apply(oddList()...); why != api.OK {
				checkEntries(t, "refused", got, api.OK, nil, api.OK)
				checkGroup(t, g, rows, many)
			}
		}
	}
	if made < 500 {
		t.Error(made)
	}
}

// P6: it ends soon, however many rows there are, as only the groups that change are looked at, and of these not all rows; and if there would be far too many groups.
func TestManyRows(t *testing.T) {
	const many = 1 << 15
	for agg := api.Count; agg <= api.Most; agg++ {
		g := groupOf(t, 2, agg, 0, 1)
		all := numbers(0, many, 1, 7)
		apply(t, g, all)
		rows := g.Rows()
		for i := range 1000 {
			apply(t, g, numbers(i*3, 1, -1, 7))
			apply(t, g, numbers(i*3, 1, 1, 7))
		}
		checkGroup(t, g, rows, many)
		got, why := groupOf(t, 2, agg, 1, 0).Apply(all...)
		checkEntries(t, "far too many", got, why, nil, api.ErrFull)
		checkEntries(t, "all go", apply(t, g, opposite(all)), api.OK, opposite(rows), api.OK)
		checkGroup(t, g, nil, 0)
	}
}
