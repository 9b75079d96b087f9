package miss

import (
	"maps"
	"math"
	"math/rand"
	"slices"
	"testing"

	"verderer/api"
	"verderer/bag"
	"verderer/eval"
	"verderer/pick"
	"verderer/row"
	"verderer/value"
)

// model is a Miss by the chapter's words: how often each row of a side is there, and nothing kept of what is told.
type model struct {
	wide  [2]int
	pairs []api.Pair
	side  [2]rows
}

// rows is how often each is there, by its bytes in Go's own words.
type rows map[string]api.Entry

func (l rows) add(e api.Entry) {
	key := words(e.Row)
	e.Many += l[key].Many
	l[key] = e
	if e.Many == 0 {
		delete(l, key)
	}
}

func words(r []api.Value) string {
	var s string
	for _, v := range r {
		s += value.Show(v) + " "
	}
	return s
}

func (l rows) entries() []api.Entry {
	return slices.SortedFunc(maps.Values(l), func(a, b api.Entry) int { return row.Compare(a.Row, b.Row) })
}

func (l rows) any(is func(many int64) bool) bool {
	for _, e := range l {
		if is(e.Many) {
			return true
		}
	}
	return false
}

func over(many int64) bool { return many > most }

func below(many int64) bool { return many < 0 }

// netOf is the net of changes, or why there is none.
func netOf(l []api.Entry) (rows, api.Errno) {
	out := rows{}
	for _, e := range l {
		if !row.Right(e.Row) {
			return nil, api.ErrArg
		}
		was := out[words(e.Row)].Many
		if e.Many > 2*most || e.Many < -2*most || over(was+e.Many) || over(-was-e.Many) {
			return nil, api.ErrOver
		}
		out.add(e)
	}
	return out, api.OK
}

// alone are the rows of the left side with which none of the right one goes.
func (m model) alone() rows {
	out := rows{}
left:
	for key, a := range m.side[0] {
		for _, b := range m.side[1] {
			if row.Pairs(a.Row, b.Row, m.pairs...) {
				continue left
			}
		}
		out[key] = a
	}
	return out
}

// apply answers the model behind the changes, and how what is told changes.
func (m model) apply(left, right []api.Entry) (model, []api.Entry, api.Errno) {
	next := m
	for i, l := range [2][]api.Entry{left, right} {
		net, why := netOf(l)
		if why != api.OK {
			return m, nil, why
		}
		next.side[i] = maps.Clone(m.side[i])
		for _, e := range net {
			next.side[i].add(e)
		}
	}
	for i, l := range [2][]api.Entry{left, right} {
		if slices.ContainsFunc(l, func(e api.Entry) bool { return len(e.Row) != m.wide[i] }) {
			return m, nil, api.ErrArg
		}
	}
	if next.side[0].any(over) || next.side[1].any(over) || next.side[0].any(below) || next.side[1].any(below) {
		return m, nil, api.ErrOver
	}
	is := next.alone()
	if len(is) > api.MaxEntries {
		return m, nil, api.ErrFull
	}
	for _, e := range m.alone() {
		is.add(api.Entry{Row: e.Row, Many: -e.Many})
	}
	return next, is.entries(), api.OK
}

// chance makes changes of a side: rows of few values, now and then of a wrong width, or that can not be.
type chance struct {
	*rand.Rand
	values []api.Value
	many   []int64
	size   int
	// How many times as long the left side's changes are.
	lean  int
	wrong bool
}

func (c chance) changes(wide, size int) []api.Entry {
	var out []api.Entry
	for range c.Intn(size) {
		e := api.Entry{Many: c.many[c.Intn(len(c.many))]}
		if c.wrong && c.Intn(60) == 0 {
			wide += c.Intn(3) - 1
		}
		for range wide {
			e.Row = append(e.Row, c.values[c.Intn(len(c.values))])
		}
		if c.wrong && c.Intn(200) == 0 {
			e.Row = wrong()[c.Intn(len(wrong()))]
		}
		out = append(out, e)
	}
	return out
}

func (c chance) pairs(left, right int) []api.Pair {
	var out []api.Pair
	for range c.Intn(3) {
		out = append(out, api.Pair{Left: c.Intn(left), Right: c.Intn(right)})
	}
	return out
}

// P22.1 and P22.2: along many changes a Miss is what the model is, and what a plan tells of both sides; all that it told, together, is Rows; changes that go again leave it as it was.
func TestAlong(t *testing.T) {
	few := []api.Value{value.Null(), value.Bool(true), value.Int(1), value.Int(2), value.Text("a")}
	var lots []api.Value
	for i := range 2500 {
		lots = append(lots, value.Int(int64(i)))
	}
	for what, x := range map[string]struct {
		c            chance
		rounds, long int
		asked        []api.Errno
	}{
		"few":   {chance{values: few, many: []int64{-2, -1, -1, 0, 1, 1, 2, 3}, size: 5, wrong: true}, 200, 40, []api.Errno{api.OK, api.ErrArg, api.ErrOver}},
		"often": {chance{values: few[:3], many: []int64{-most, -1 << 15, -3, 1, 1 << 15, most / 2, most, most + 1}, size: 3}, 200, 40, []api.Errno{api.OK, api.ErrOver}},
		"full":  {chance{values: lots, many: append(slices.Repeat([]int64{1}, 2000), -1), size: 8, lean: 80}, 25, 14, []api.Errno{api.OK, api.ErrFull, api.ErrOver}},
	} {
		x.c.Rand = rand.New(rand.NewSource(1))
		seen := map[api.Errno]int{}
		for range x.rounds {
			wide := [2]int{1 + x.c.Intn(2), 1 + x.c.Intn(2)}
			l := x.c.pairs(wide[0], wide[1])
			if what == "full" {
				wide, l = [2]int{1, 1}, pairs(0, 0)
			}
			along(t, x.c, x.long, wide, l, seen)
		}
		for _, why := range x.asked {
			if seen[why] < 20 {
				t.Error(what, why, seen)
			}
		}
	}
}

func along(t *testing.T, c chance, long int, wide [2]int, l []api.Pair, seen map[api.Errno]int) {
	t.Helper()
	m, all := missOf(t, wide[0], wide[1], l...), bag.New()
	is := model{wide: wide, pairs: l, side: [2]rows{{}, {}}}
	for range long {
		left, right := c.changes(wide[0], c.size*(1+c.lean)), c.changes(wide[1], c.size)
		next, want, wantWhy := is.apply(left, right)
		got, why := m.Apply(left, right)
		seen[why]++
		checkEntries(t, []any{wide, l, left, right}, got, why, want, wantWhy)
		for _, e := range got {
			if all.Add(e.Row, e.Many) != api.OK {
				t.Fatal("all that was told", e)
			}
		}
		is = next
		checkMiss(t, m, is.alone().entries())
		checkEntries(t, "all that was told", all.Rows(), api.OK, m.Rows(), api.OK)
		// Relations with more rows than this tell nothing.
		if len(is.side[0]) <= api.MaxEntries && len(is.side[1]) <= api.MaxEntries {
			checkEntries(t, "Eval", m.Rows(), api.OK, told(t, wide, l, is.side[0].entries(), is.side[1].entries()), api.OK)
		}
		if why == api.OK {
			again(t, m, left, right, got)
		}
	}
}

// told answers what a plan tells of a side with which none of another one goes.
func told(t *testing.T, wide [2]int, l []api.Pair, left, right []api.Entry) []api.Entry {
	t.Helper()
	n := &api.Node{Kind: api.Miss, Pairs: l, Left: &api.Node{Kind: api.Scan, Name: "a", Wide: wide[0]}, Right: &api.Node{Kind: api.Scan, Name: "b", Wide: wide[1]}}
	out, why := eval.Eval(n, eval.Rel{Name: "a", Rows: left}, eval.Rel{Name: "b", Rows: right})
	if why != api.OK {
		t.Fatal("Eval", why)
	}
	return out
}

// again has changes go again, which tells the opposite, and come once more, which tells the same.
func again(t *testing.T, m *Miss, left, right, was []api.Entry) {
	t.Helper()
	left, _ = pick.Net(left...)
	right, _ = pick.Net(right...)
	got, why := m.Apply(opposite(left), opposite(right))
	checkEntries(t, "back", got, why, opposite(was), api.OK)
	got, why = m.Apply(left, right)
	checkEntries(t, "again", got, why, was, api.OK)
}

// P22.2: both sides at once, or one behind the other, in any order, end as the same rows; and how often a row is on the right side is nothing, as long as it is there.
func TestOrders(t *testing.T) {
	c := chance{Rand: rand.New(rand.NewSource(1)), values: []api.Value{value.Null(), value.Int(1), value.Int(2)}, many: []int64{1, 2, 3}, size: 6}
	for range 1000 {
		l := c.pairs(2, 2)
		left, right := c.changes(2, c.size), c.changes(2, c.size)
		at, first, last := missOf(t, 2, 2, l...), missOf(t, 2, 2, l...), missOf(t, 2, 2, l...)
		apply(t, at, left, right)
		apply(t, first, left, nil)
		apply(t, first, nil, right)
		for _, e := range right {
			apply(t, last, nil, []api.Entry{{Row: e.Row, Many: 1}})
		}
		apply(t, last, left, nil)
		checkMiss(t, first, at.Rows())
		checkMiss(t, last, at.Rows())
	}
}

// P6: sides, pairs, rows and numbers of any kind.
func TestAnything(t *testing.T) {
	r := rand.New(rand.NewSource(1))
	odd := func() int {
		return []int{r.Intn(4), r.Intn(4), 1, 2, -1, 41, int(r.Uint64()), math.MaxInt, math.MinInt}[r.Intn(9)]
	}
	bad := wrong()
	oddSide := func() []api.Entry {
		var l []api.Entry
		for range r.Intn(4) {
			e := api.Entry{Many: int64(odd())}
			for range r.Intn(4) {
				e.Row = append(e.Row, value.Int(int64(r.Intn(2))))
			}
			if r.Intn(6) == 0 {
				e.Row = bad[r.Intn(len(bad))]
			}
			l = append(l, e)
		}
		return l
	}
	made := 0
	for range 20000 {
		var l []api.Pair
		for range r.Intn(3) {
			l = append(l, api.Pair{Left: odd(), Right: odd()})
		}
		m, why := New(odd(), odd(), l...)
		if (m == nil) != (why != api.OK) {
			t.Fatal("New", m, why)
		}
		if m != nil {
			made++
		}
		for range 3 {
			rows := m.Rows()
			if got, why := m.Apply(oddSide(), oddSide()); why != api.OK {
				checkEntries(t, "refused", got, api.OK, nil, api.OK)
				checkMiss(t, m, rows)
			}
		}
	}
	if made < 1000 {
		t.Error(made)
	}
}

// P6: it ends soon, however many rows, or pairs, there are, as long as few are told; and if far too many would.
func TestManyRows(t *testing.T) {
	const many = 1 << 15
	for _, l := range [][]api.Pair{nil, pairs(0, 0), make([]api.Pair, 1<<20)} {
		m := missOf(t, 1, 1, l...)
		all := numbers(0, many, 1)
		apply(t, m, all, all)
		checkMiss(t, m, nil)
		for i := range 1000 {
			apply(t, m, numbers(i, 1, 1), numbers(i, 1, 1))
			apply(t, m, numbers(i, 1, -1), numbers(i, 1, -1))
		}
		got, why := m.Apply(nil, opposite(all))
		checkEntries(t, "all", got, why, nil, api.ErrFull)
		// All of a key go and come at once, so each key is to be asked once.
		got, why = m.Apply(numbers(0, many-1500, -1), opposite(all))
		checkEntries(t, "the last", got, why, all[many-1500:], api.OK)
		got, why = m.Apply(nil, all)
		checkEntries(t, "again", got, why, opposite(all[many-1500:]), api.OK)
	}
}
