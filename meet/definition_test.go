package meet

import (
	"maps"
	"math"
	"math/rand"
	"slices"
	"testing"

	"verderer/api"
	"verderer/bag"
	"verderer/eval"
	"verderer/pick"
	"verderer/row"
	"verderer/value"
)

// model is a Meet by the chapter's words: how often each row of a side is there, and nothing kept of what goes together.
type model struct {
	wide  [2]int
	pairs []api.Pair
	side  [2]rows
}

// rows is how often each is there, by its bytes in Go's own words.
type rows map[string]api.Entry

func (l rows) add(e api.Entry) {
	key := words(e.Row)
	e.Many += l[key].Many
	l[key] = e
	if e.Many == 0 {
		delete(l, key)
	}
}

func words(r []api.Value) string {
	var s string
	for _, v := range r {
		s += value.Show(v) + " "
	}
	return s
}

func (l rows) entries() []api.Entry {
	return slices.SortedFunc(maps.Values(l), func(a, b api.Entry) int { return row.Compare(a.Row, b.Row) })
}

func (l rows) any(is func(many int64) bool) bool {
	for _, e := range l {
		if is(e.Many) {
			return true
		}
	}
	return false
}

func over(many int64) bool { return many > most }

func below(many int64) bool { return many < 0 }

// netOf is the net of changes, or why there is none.
func netOf(l []api.Entry) (rows, api.Errno) {
	out := rows{}
	for _, e := range l {
		if !row.Right(e.Row) {
			return nil, api.ErrArg
		}
		was := out[words(e.Row)].Many
		if e.Many > 2*most || e.Many < -2*most || over(was+e.Many) || over(-was-e.Many) {
			return nil, api.ErrOver
		}
		out.add(e)
	}
	return out, api.OK
}

// together are the rows that go together, each as often as it would be, however often that is.
func (m model) together() rows {
	out := rows{}
	for _, a := range m.side[0] {
		for _, b := range m.side[1] {
			if row.Pairs(a.Row, b.Row, m.pairs...) {
				out.add(api.Entry{Row: slices.Concat(a.Row, b.Row), Many: a.Many * b.Many})
			}
		}
	}
	return out
}

// apply answers the model behind the changes, and how what goes together changes.
func (m model) apply(left, right []api.Entry) (model, []api.Entry, api.Errno) {
	next := m
	for i, l := range [2][]api.Entry{left, right} {
		net, why := netOf(l)
		if why != api.OK {
			return m, nil, why
		}
		next.side[i] = maps.Clone(m.side[i])
		for _, e := range net {
			next.side[i].add(e)
		}
	}
	for i, l := range [2][]api.Entry{left, right} {
		if slices.ContainsFunc(l, func(e api.Entry) bool { return len(e.Row) != m.wide[i] }) {
			return m, nil, api.ErrArg
		}
	}
	if next.side[0].any(over) || next.side[1].any(over) || next.side[0].any(below) || next.side[1].any(below) {
		return m, nil, api.ErrOver
	}
	is := next.together()
	switch {
	case len(is) > api.MaxEntries:
		return m, nil, api.ErrFull
	case is.any(over):
		return m, nil, api.ErrOver
	}
	for _, e := range m.together() {
		is.add(api.Entry{Row: e.Row, Many: -e.Many})
	}
	return next, is.entries(), api.OK
}

// chance makes changes of a side: rows of few values, now and then of a wrong width, or that can not be.
type chance struct {
	*rand.Rand
	values []api.Value
	many   []int64
	size   int
	wrong  bool
}

func (c chance) changes(wide int) []api.Entry {
	var out []api.Entry
	for range c.Intn(c.size) {
		e := api.Entry{Many: c.many[c.Intn(len(c.many))]}
		if c.wrong && c.Intn(60) == 0 {
			wide += c.Intn(3) - 1
		}
		for range wide {
			e.Row = append(e.Row, c.values[c.Intn(len(c.values))])
		}
		if c.wrong && c.Intn(200) == 0 {
			e.Row = wrong()[c.Intn(len(wrong()))]
		}
		out = append(out, e)
	}
	return out
}

func (c chance) pairs(left, right int) []api.Pair {
	var out []api.Pair
	for range c.Intn(3) {
		out = append(out, api.Pair{Left: c.Intn(left), Right: c.Intn(right)})
	}
	return out
}

// P21.1 to P21.3: along many changes a Meet is what the model is, and what a plan tells of both sides; all that it told, together, is Rows; changes that go again leave it as it was.
func TestAlong(t *testing.T) {
	few := []api.Value{value.Null(), value.Bool(true), value.Int(1), value.Int(2), value.Text("a")}
	var lots []api.Value
	for i := range 60 {
		lots = append(lots, value.Int(int64(i)))
	}
	for what, x := range map[string]struct {
		c            chance
		rounds, long int
		asked        []api.Errno
	}{
		"few":   {chance{values: few, many: []int64{-2, -1, -1, 0, 1, 1, 2, 3}, size: 5, wrong: true}, 200, 40, []api.Errno{api.OK, api.ErrArg, api.ErrOver}},
		"often": {chance{values: few[:3], many: []int64{-most, -1 << 15, -3, 1, 1 << 15, most / 2, most, most + 1}, size: 3}, 200, 40, []api.Errno{api.OK, api.ErrOver}},
		"full":  {chance{values: lots, many: append(slices.Repeat([]int64{1}, 80), -1, 1<<16), size: 20}, 25, 30, []api.Errno{api.OK, api.ErrFull, api.ErrOver}},
	} {
		x.c.Rand = rand.New(rand.NewSource(1))
		seen := map[api.Errno]int{}
		for range x.rounds {
			wide := [2]int{1 + x.c.Intn(2), 1 + x.c.Intn(2)}
			l := x.c.pairs(wide[0], wide[1])
			if what == "full" {
				wide, l = [2]int{1, 1}, nil
			}
			along(t, x.c, x.long, wide, l, seen)
		}
		for _, why := range x.asked {
			if seen[why] < 20 {
				t.Error(what, why, seen)
			}
		}
	}
}

func along(t *testing.T, c chance, long int, wide [2]int, l []api.Pair, seen map[api.Errno]int) {
	t.Helper()
	m, all := meetOf(t, wide[0], wide[1], l...), bag.New()
	is := model{wide: wide, pairs: l, side: [2]rows{{}, {}}}
	for range long {
		left, right := c.changes(wide[0]), c.changes(wide[1])
		next, want, wantWhy := is.apply(left, right)
		got, why := m.Apply(left, right)
		seen[why]++
		checkEntries(t, []any{wide, l, left, right}, got, why, want, wantWhy)
		for _, e := range got {
			if all.Add(e.Row, e.Many) != api.OK {
				t.Fatal("all that was told", e)
			}
		}
		is = next
		checkMeet(t, m, is.side[0].entries(), is.side[1].entries(), is.together().entries())
		checkEntries(t, "all that was told", all.Rows(), api.OK, m.Rows(), api.OK)
		checkEntries(t, "Eval", m.Rows(), api.OK, told(t, wide, l, m.Left(), m.Right()), api.OK)
		if why == api.OK {
			again(t, m, left, right, got)
		}
	}
}

// told answers what a plan tells of two sides that go together.
func told(t *testing.T, wide [2]int, l []api.Pair, left, right []api.Entry) []api.Entry {
	t.Helper()
	n := &api.Node{Kind: api.Meet, Pairs: l, Left: &api.Node{Kind: api.Scan, Name: "a", Wide: wide[0]}, Right: &api.Node{Kind: api.Scan, Name: "b", Wide: wide[1]}}
	out, why := eval.Eval(n, eval.Rel{Name: "a", Rows: left}, eval.Rel{Name: "b", Rows: right})
	if why != api.OK {
		t.Fatal("Eval", why)
	}
	return out
}

// again has changes go again, which tells the opposite, and come once more, which tells the same.
func again(t *testing.T, m *Meet, left, right, was []api.Entry) {
	t.Helper()
	left, _ = pick.Net(left...)
	right, _ = pick.Net(right...)
	got, why := m.Apply(opposite(left), opposite(right))
	checkEntries(t, "back", got, why, opposite(was), api.OK)
	got, why = m.Apply(left, right)
	checkEntries(t, "again", got, why, was, api.OK)
}

// P21.3: both sides at once, or one behind the other, in any order, or exchanged, end as the same rows.
func TestOrders(t *testing.T) {
	c := chance{Rand: rand.New(rand.NewSource(1)), values: []api.Value{value.Null(), value.Int(1), value.Int(2)}, many: []int64{1, 2, 3}, size: 6}
	for range 1000 {
		l := c.pairs(2, 2)
		var turned []api.Pair
		for _, p := range l {
			turned = append(turned, api.Pair{Left: p.Right, Right: p.Left})
		}
		left, right := c.changes(2), c.changes(2)
		at, first, last, other := meetOf(t, 2, 2, l...), meetOf(t, 2, 2, l...), meetOf(t, 2, 2, l...), meetOf(t, 2, 2, turned...)
		apply(t, at, left, right)
		apply(t, first, left, nil)
		apply(t, first, nil, right)
		for _, e := range right {
			apply(t, last, nil, []api.Entry{e})
		}
		apply(t, last, left, nil)
		apply(t, other, right, left)
		checkMeet(t, first, at.Left(), at.Right(), at.Rows())
		checkMeet(t, last, at.Left(), at.Right(), at.Rows())
		columns, why := pick.Take(other.Rows(), 2, 3, 0, 1)
		checkEntries(t, "exchanged", columns, why, at.Rows(), api.OK)
	}
}

// P6: sides, pairs, rows and numbers of any kind.
func TestAnything(t *testing.T) {
	r := rand.New(rand.NewSource(1))
	odd := func() int {
		return []int{r.Intn(4), r.Intn(4), 1, 2, -1, 41, int(r.Uint64()), math.MaxInt, math.MinInt}[r.Intn(9)]
	}
	bad := wrong()
	oddSide := func() []api.Entry {
		var l []api.Entry
		for range r.Intn(4) {
			e := api.Entry{Many: int64(odd())}
			for range r.Intn(4) {
				e.Row = append(e.Row, value.Int(int64(r.Intn(2))))
			}
			if r.Intn(6) == 0 {
				e.Row = bad[r.Intn(len(bad))]
			}
			l = append(l, e)
		}
		return l
	}
	made := 0
	for range 20000 {
		var l []api.Pair
		for range r.Intn(3) {
			l = append(l, api.Pair{Left: odd(), Right: odd()})
		}
		m, why := New(odd(), odd(), l...)
		if (m == nil) != (why != api.OK) {
			t.Fatal("New", m, why)
		}
		if m != nil {
			made++
		}
		for range 3 {
			left, right, rows := m.Left(), m.Right(), m.Rows()
			if got, why := m.Apply(oddSide(), oddSide()); why != api.OK {
				checkEntries(t, "refused", got, api.OK, nil, api.OK)
				checkMeet(t, m, left, right, rows)
			}
		}
	}
	if made < 1000 {
		t.Error(made)
	}
}

// P6: it ends soon, however many rows, or pairs, there are, as long as few rows go together; and if far too many would.
func TestManyRows(t *testing.T) {
	const many = 1 << 15
	m := meetOf(t, 1, 1, pairs(0, 0)...)
	left := numbers(0, many, 1)
	apply(t, m, left, numbers(many-7, many, most))
	if got := m.Rows(); len(got) != 7 {
		t.Error(len(got))
	}
	for i := range 1000 {
		apply(t, m, numbers(i, 1, 1), numbers(i, 1, 1))
		apply(t, m, numbers(i, 1, -1), numbers(i, 1, -1))
	}
	m = meetOf(t, 1, 1)
	apply(t, m, left, nil)
	for range 3 {
		got, why := m.Apply(numbers(many, many, 1), numbers(0, many, 1))
		checkEntries(t, "all", got, why, nil, api.ErrFull)
	}
	// All of a side go as all of the other one come.
	got, why := m.Apply(opposite(left), left)
	checkEntries(t, "instead", got, why, nil, api.OK)
	checkMeet(t, m, nil, left, nil)
	m = meetOf(t, 1, 1, make([]api.Pair, 1<<20)...)
	apply(t, m, left, numbers(many-7, many, 1))
	if got := m.Rows(); len(got) != 7 {
		t.Error(len(got))
	}
}
