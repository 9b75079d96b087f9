package index

import (
	"math"
	"math/rand"
	"slices"
	"strings"
	"testing"

	"verderer/api"
	"verderer/row"
	"verderer/value"
)

const most = api.MaxCount

var null = api.Value{}

func num(n int64) api.Value { return value.Int(n) }

func text(s string) api.Value { return value.Text(s) }

func entry(many int64, r ...api.Value) api.Entry { return api.Entry{Row: r, Many: many} }

func by(t *testing.T, cols ...int) *Index {
	t.Helper()
	x, why := New(cols...)
	if x == nil || why != api.OK {
		t.Fatal("New", cols, why)
	}
	return x
}

func add(t *testing.T, x *Index, l ...api.Entry) {
	t.Helper()
	for _, e := range l {
		if why := x.Add(e.Row, e.Many); why != api.OK {
			t.Fatal("Add", e, why)
		}
	}
}

func sameEntries(a, b []api.Entry) bool {
	return slices.EqualFunc(a, b, func(x, y api.Entry) bool { return slices.Equal(x.Row, y.Row) && x.Many == y.Many })
}

// checkKey holds what is told of a key against the rows that are to be there.
func checkKey(t *testing.T, x *Index, key []api.Value, want ...api.Entry) {
	t.Helper()
	if got := x.Find(key); !sameEntries(got, want) {
		t.Fatal("Find", key, got, want)
	}
	many := int64(0)
	for _, e := range want {
		many += e.Many
	}
	if x.Has(key) != many {
		t.Fatal("Has", key, x.Has(key), many)
	}
}

func checkCounts(t *testing.T, x *Index, keys, rows int) {
	t.Helper()
	if x.Keys() != keys || x.Len() != rows {
		t.Fatal("Keys, Len", x.Keys(), x.Len(), keys, rows)
	}
}

// P6.1
func TestNew(t *testing.T) {
	for _, cols := range [][]int{nil, {}, {0}, {39}, {0, 39, 0}, {3, 2, 1, 0}, make([]int, 100)} {
		checkCounts(t, by(t, cols...), 0, 0)
	}
	for _, cols := range [][]int{{-1}, {40}, {math.MinInt64}, {math.MaxInt64}, {0, 1, 40}, {-1, 0}, {39, 39, 1 << 32}} {
		if x, why := New(cols...); x != nil || why != api.ErrArg {
			t.Error(cols, x, why)
		}
	}
}

// P6.1 and P6.2
func TestNil(t *testing.T) {
	var x *Index
	for _, r := range [][]api.Value{nil, {}, {null}, {{Kind: 9}}, make([]api.Value, 41)} {
		if why := x.Add(r, most+1); why != api.ErrNil {
			t.Error("Add", why)
		}
		checkKey(t, x, r)
	}
	checkCounts(t, x, 0, 0)
}

// P6.1 and P6.2
func TestAddAndFind(t *testing.T) {
	x := by(t, 1)
	a, b := []api.Value{text("a")}, []api.Value{text("b")}
	add(t, x, entry(1, num(2), text("a")), entry(1, num(1), text("a")), entry(-3, num(1), text("b"), null))
	checkKey(t, x, a, entry(1, num(1), text("a")), entry(1, num(2), text("a")))
	checkKey(t, x, b, entry(-3, num(1), text("b"), null))
	checkCounts(t, x, 2, 3)
	add(t, x, entry(4, num(1), text("a")), entry(2, num(1), text("b"), null), entry(0, num(7), text("c")), entry(0, num(1), text("a")))
	checkKey(t, x, a, entry(5, num(1), text("a")), entry(1, num(2), text("a")))
	checkKey(t, x, b, entry(-1, num(1), text("b"), null))
	checkKey(t, x, []api.Value{text("c")})
	checkCounts(t, x, 2, 3)
	add(t, x, entry(1, num(1), text("b"), null), entry(-1, num(2), text("a")))
	checkKey(t, x, a, entry(5, num(1), text("a")))
	checkKey(t, x, b)
	checkCounts(t, x, 1, 1)
	add(t, x, entry(-5, num(1), text("a")))
	checkKey(t, x, a)
	checkCounts(t, x, 0, 0)
	add(t, x, entry(2, num(1), text("a")))
	checkKey(t, x, a, entry(2, num(1), text("a")))
	checkCounts(t, x, 1, 1)
}

// P6.2: rows that are there so often, and fewer than no times as often, are there, though together they are there 0 times.
func TestNoneTogether(t *testing.T) {
	x := by(t, 0)
	add(t, x, entry(5, num(1), num(1)), entry(-5, num(1), num(2)))
	checkKey(t, x, []api.Value{num(1)}, entry(5, num(1), num(1)), entry(-5, num(1), num(2)))
	checkCounts(t, x, 1, 2)
}

// P6.2: how often rows are there together may be more than a row may be there.
func TestManyTogether(t *testing.T) {
	x := by(t)
	var want []api.Entry
	for n := range int64(50) {
		want = append(want, entry(most, num(n)))
	}
	add(t, x, want...)
	checkKey(t, x, nil, want...)
	if x.Has(nil) != 50*most {
		t.Error(x.Has(nil))
	}
}

// P6.1: without places all rows have one key, which has no cells.
func TestNoPlaces(t *testing.T) {
	for _, x := range []*Index{by(t), by(t, []int{}...), new(Index)} {
		checkKey(t, x, nil)
		add(t, x, entry(1, num(2)), entry(2), entry(3, null, null), entry(-1, num(2)), entry(1, num(1)))
		want := []api.Entry{entry(2), entry(3, null, null), entry(1, num(1))}
		checkKey(t, x, nil, want...)
		checkKey(t, x, []api.Value{}, want...)
		checkKey(t, x, []api.Value{null})
		checkCounts(t, x, 1, 3)
	}
}

// P6.1 and P6.2: the key has its cells in the order of the places, which may come twice.
func TestPlaces(t *testing.T) {
	r := []api.Value{num(0), num(1), num(2)}
	for _, c := range []struct {
		cols []int
		key  []api.Value
		not  [][]api.Value
	}{
		{[]int{2, 0}, []api.Value{num(2), num(0)}, [][]api.Value{{num(0), num(2)}, {num(2)}, {num(2), num(0), null}, nil}},
		{[]int{1, 1}, []api.Value{num(1), num(1)}, [][]api.Value{{num(1)}, {num(1), num(0)}, {num(1), num(1), num(1)}}},
		{make([]int, 50), make([]api.Value, 50), [][]api.Value{make([]api.Value, 49), make([]api.Value, 51)}},
	} {
		if len(c.cols) == 50 {
			for i := range c.key {
				c.key[i] = num(0)
			}
		}
		x := by(t, c.cols...)
		add(t, x, entry(1, r...))
		checkKey(t, x, c.key, entry(1, r...))
		for _, key := range c.not {
			checkKey(t, x, key)
		}
	}
	x := by(t, api.MaxWide-1)
	wide := make([]api.Value, api.MaxWide)
	wide[api.MaxWide-1] = text("z")
	add(t, x, entry(1, wide...))
	checkKey(t, x, []api.Value{text("z")}, entry(1, wide...))
}

// P6.1: what is refused, and why; nothing changes by it.
func TestAddRefuses(t *testing.T) {
	x := by(t, 1)
	there := entry(2, num(1), text("a"))
	full := entry(most, num(2), text("a"))
	add(t, x, there, full)
	long := text(strings.Repeat("x", api.MaxText+1))
	for _, c := range []struct {
		why  api.Errno
		many int64
		r    []api.Value
	}{
		{api.ErrArg, 1, nil},
		{api.ErrArg, 1, []api.Value{num(1)}},
		{api.ErrArg, 0, []api.Value{num(1)}},
		{api.ErrArg, most + 1, []api.Value{num(1)}},
		{api.ErrArg, 1, []api.Value{{Kind: 9}, text("a")}},
		{api.ErrArg, 1, []api.Value{num(1), {Kind: 9}}},
		{api.ErrArg, 1, []api.Value{num(1), {Kind: api.Text, Text: "a", Int: 1}}},
		{api.ErrArg, 0, []api.Value{num(1), {Int: 1}}},
		{api.ErrArg, most + 1, []api.Value{num(1), long}},
		{api.ErrArg, 1, []api.Value{long, text("a")}},
		{api.ErrArg, 1, make([]api.Value, api.MaxWide+1)},
		{api.ErrArg, 1, make([]api.Value, 1<<16)},
		{api.ErrOver, 1, full.Row},
		{api.ErrOver, math.MaxInt64, full.Row},
		{api.ErrOver, -2*most - 1, full.Row},
		{api.ErrOver, math.MinInt64, there.Row},
		{api.ErrOver, most - 1, there.Row},
		{api.ErrOver, most + 1, []api.Value{num(3), text("new")}},
		{api.ErrOver, -most - 1, []api.Value{num(3), text("a")}},
	} {
		if why := x.Add(c.r, c.many); why != c.why {
			t.Error(c, why)
		}
		checkKey(t, x, []api.Value{text("a")}, there, full)
		checkKey(t, x, []api.Value{text("new")})
		checkKey(t, x, []api.Value{null})
		checkCounts(t, x, 1, 2)
	}
	zero := new(Index)
	if why := zero.Add([]api.Value{num(1)}, most+1); why != api.ErrOver {
		t.Error(why)
	}
	add(t, zero, entry(0, num(1)))
	checkCounts(t, zero, 0, 0)
}

// P6.2: keys are the same if Compare is 0, also one with cells that can not be.
func TestWrongKeys(t *testing.T) {
	x := by(t, 0)
	l := []api.Value{null, value.Bool(false), value.Bool(true), num(0), num(5), text(""), text("a"), text(strings.Repeat("x", api.MaxText))}
	for i, v := range l {
		add(t, x, entry(int64(i+1), v, num(1)))
	}
	keys := []api.Value{
		{Int: 7, Flag: true, Text: "x"}, {Kind: api.Bool, Int: 9}, {Kind: api.Bool, Flag: true, Text: "x"}, {Kind: api.Int, Flag: true}, {Kind: api.Int, Int: 5, Text: strings.Repeat("x", 100)},
		{Kind: api.Text, Int: 1}, {Kind: api.Text, Text: "a", Flag: true}, {Kind: api.Text, Text: strings.Repeat("x", api.MaxText), Int: -1},
	}
	for i, v := range l {
		checkKey(t, x, []api.Value{v}, entry(int64(i+1), v, num(1)))
		checkKey(t, x, []api.Value{keys[i]}, entry(int64(i+1), v, num(1)))
	}
	for _, v := range []api.Value{{Kind: 4}, {Kind: -1}, {Kind: math.MaxInt64}, {Kind: math.MinInt64, Int: 5}, text(strings.Repeat("x", api.MaxText+1)), text(strings.Repeat("x", 1<<16)), num(1), text("b")} {
		checkKey(t, x, []api.Value{v})
		checkKey(t, x, []api.Value{v, null})
	}
	checkKey(t, x, nil)
	checkKey(t, x, make([]api.Value, 1<<16))
}

// Keys that are alike as bytes of their cells would be, laid side by side, are apart.
func TestKeysApart(t *testing.T) {
	x := by(t, 0, 1)
	l := [][]api.Value{
		{text(""), text("a")}, {text("a"), text("")}, {text("\x00"), text("a")}, {text(""), text("\x00a")}, {text("\x00\x01"), text("")}, {text(""), text("\x00\x01")},
		{text("1"), num(1)}, {num(1), text("1")}, {null, null}, {null, value.Bool(false)}, {value.Bool(false), null},
	}
	for i, r := range l {
		add(t, x, entry(int64(i+1), r...))
	}
	for i, r := range l {
		checkKey(t, x, r, entry(int64(i+1), r...))
	}
	checkCounts(t, x, len(l), len(l))
}

// model is the rows of an index without any order.
type model []api.Entry

func (m *model) add(r []api.Value, many int64) {
	for i, e := range *m {
		if slices.Equal(e.Row, r) {
			(*m)[i].Many += many
			if e.Many+many == 0 {
				*m = slices.Delete(*m, i, i+1)
			}
			return
		}
	}
	if many != 0 {
		*m = append(*m, api.Entry{Row: r, Many: many})
	}
}

// of answers the rows of a key, in order.
func (m model) of(key []api.Value, cols []int) []api.Entry {
	var out []api.Entry
	for _, e := range m {
		if k, _ := row.Pick(e.Row, cols...); slices.Equal(k, key) {
			out = append(out, e)
		}
	}
	slices.SortFunc(out, func(a, b api.Entry) int { return row.Compare(a.Row, b.Row) })
	return out
}

// keys answers all keys of which a row is there.
func (m model) keys(cols []int) [][]api.Value {
	var l [][]api.Value
	for _, e := range m {
		k, _ := row.Pick(e.Row, cols...)
		l = append(l, k)
	}
	return row.Sort(l...)
}

// P6.1 to P6.3: along many changes each key's rows are those that are there with it, and all keys' rows together are all rows.
func TestAlong(t *testing.T) {
	r := rand.New(rand.NewSource(1))
	cells := []api.Value{null, num(0), num(1), text("a")}
	for _, cols := range [][]int{nil, {0}, {2}, {1, 0}, {2, 0, 1}, {1, 1}} {
		x, m := by(t, cols...), model{}
		for range 400 {
			var one []api.Value
			for range 3 + r.Intn(2) {
				one = append(one, cells[r.Intn(len(cells))])
			}
			many := int64(r.Intn(5) - 2)
			if why := x.Add(one, many); why != api.OK {
				t.Fatal(why)
			}
			m.add(one, many)
			checkModel(t, x, m, cols)
		}
		for len(m) > 0 {
			e := m[r.Intn(len(m))]
			add(t, x, entry(-e.Many, e.Row...))
			m.add(e.Row, -e.Many)
			checkModel(t, x, m, cols)
		}
		checkCounts(t, x, 0, 0)
	}
}

func checkModel(t *testing.T, x *Index, m model, cols []int) {
	t.Helper()
	keys := m.keys(cols)
	checkCounts(t, x, len(keys), len(m))
	rows := 0
	for _, key := range keys {
		checkKey(t, x, key, m.of(key, cols)...)
		rows += len(x.Find(key))
	}
	if rows != len(m) {
		t.Fatal("not all rows", rows, len(m))
	}
}

// Rules 4 and 5: places, rows and keys that are handed in are neither kept nor changed, and no row that is answered is the index's own.
func TestNothingShared(t *testing.T) {
	cols := []int{1, 0}
	x := by(t, cols...)
	r := []api.Value{num(1), text("a"), null}
	key := []api.Value{{Kind: api.Text, Text: "a", Int: 7}, num(1)}
	was := slices.Clone(key)
	add(t, x, api.Entry{Row: r, Many: 1}, entry(2, num(1), text("a")))
	want := []api.Entry{entry(2, num(1), text("a")), entry(1, num(1), text("a"), null)}
	checkKey(t, x, key, want...)
	if !slices.Equal(cols, []int{1, 0}) || !slices.Equal(r, []api.Value{num(1), text("a"), null}) || !slices.Equal(key, was) {
		t.Error("changed")
	}
	cols[0], cols[1], r[0], r[1] = 0, 2, num(9), num(9)
	got := x.Find(key)
	for i := range got {
		got[i].Row[0], got[i].Many = num(9), 9
		_ = append(got[i].Row, num(8))
	}
	checkKey(t, x, key, want...)
	add(t, x, entry(3, num(1), text("a")))
	checkKey(t, x, key, entry(5, num(1), text("a")), want[1])
	checkCounts(t, x, 1, 2)
}
