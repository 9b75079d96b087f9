package miss

import (
	"math"
	"slices"
	"strconv"
	"strings"
	"testing"

	"verderer/api"
	"verderer/row"
	"verderer/value"
)

const most = api.MaxCount

// cells answers the row of values' words with blanks between.
func cells(t *testing.T, words string) []api.Value {
	t.Helper()
	var r []api.Value
	for _, w := range strings.Fields(words) {
		v, why := value.Read(w)
		if why != api.OK {
			t.Fatal("no value:", w)
		}
		r = append(r, v)
	}
	return r
}

// changes answers entries with commas between, each written as its values behind how often they come, and a colon.
func changes(t *testing.T, l string) []api.Entry {
	t.Helper()
	var out []api.Entry
	for s := range strings.SplitSeq(l, ",") {
		many, words, is := strings.Cut(strings.TrimSpace(s), ":")
		if !is {
			continue
		}
		n, err := strconv.ParseInt(many, 10, 64)
		if err != nil {
			t.Fatal(err)
		}
		out = append(out, api.Entry{Row: cells(t, words), Many: n})
	}
	return out
}

// numbers answers the rows of one Int, of the numbers from one on, each so many times.
func numbers(from, rows int, many int64) []api.Entry {
	var out []api.Entry
	for i := range rows {
		out = append(out, api.Entry{Row: row.Of(value.Int(int64(from + i))), Many: many})
	}
	return out
}

func opposite(l []api.Entry) []api.Entry {
	out := slices.Clone(l)
	for i := range out {
		out[i].Many = -out[i].Many
	}
	return out
}

// wrong has rows that can not be.
func wrong() [][]api.Value {
	return [][]api.Value{
		make([]api.Value, api.MaxWide+1), make([]api.Value, 1<<16), row.Of(value.Text(strings.Repeat("x", api.MaxText+1)), value.Null()),
		{value.Null(), {Int: 7}}, {{Kind: 9}, value.Null()}, {value.Int(1), {Kind: -1}}, {value.Int(0), {Kind: api.Bool, Text: "x"}}, {{Kind: api.Int, Flag: true}}, {{Kind: api.Text, Text: "a", Int: 1}},
	}
}

// pairs answers the pairs of so many numbers, two by two.
func pairs(l ...int) []api.Pair {
	var out []api.Pair
	for i := 0; i < len(l); i += 2 {
		out = append(out, api.Pair{Left: l[i], Right: l[i+1]})
	}
	return out
}

func missOf(t *testing.T, left, right int, l ...api.Pair) *Miss {
	t.Helper()
	m, why := New(left, right, l...)
	if m == nil || why != api.OK {
		t.Fatal("New", left, right, l, why)
	}
	return m
}

func sameEntry(a, b api.Entry) bool { return a.Many == b.Many && slices.Equal(a.Row, b.Row) }

func sameEntries(a, b []api.Entry) bool { return slices.EqualFunc(a, b, sameEntry) }

func checkEntries(t *testing.T, what any, got []api.Entry, why api.Errno, want []api.Entry, wantWhy api.Errno) {
	t.Helper()
	switch {
	case why != wantWhy:
		t.Fatalf("%v: %v, not %v", what, why, wantWhy)
	case !sameEntries(got, want) && len(got)+len(want) > 40:
		t.Fatalf("%v: %d rows, not those %d", what, len(got), len(want))
	case !sameEntries(got, want):
		t.Fatalf("%v: %v, not %v", what, got, want)
	}
}

func checkMiss(t *testing.T, m *Miss, told []api.Entry) {
	t.Helper()
	checkEntries(t, "Rows", m.Rows(), api.OK, told, api.OK)
}

// apply has changes that may not be refused come and go.
func apply(t *testing.T, m *Miss, left, right []api.Entry) []api.Entry {
	t.Helper()
	told, why := m.Apply(left, right)
	if why != api.OK {
		t.Fatal("Apply", why)
	}
	return told
}

// P22.1
func TestNew(t *testing.T) {
	for _, x := range []struct {
		left, right int
		l           []api.Pair
	}{
		{1, 1, nil}, {1, 40, nil}, {40, 1, nil}, {40, 40, nil}, {2, 2, pairs(0, 0)}, {2, 3, pairs(1, 2, 0, 0, 1, 0)},
		{40, 40, pairs(39, 39, 0, 0)}, {40, 1, pairs(39, 0)}, {1, 40, pairs(0, 39)}, {1, 1, pairs(0, 0, 0, 0, 0, 0)}, {20, 20, make([]api.Pair, 1<<17)},
	} {
		m := missOf(t, x.left, x.right, x.l...)
		checkMiss(t, m, nil)
	}
	for _, x := range []struct {
		left, right int
		l           []api.Pair
	}{
		{0, 1, nil}, {1, 0, nil}, {0, 0, nil}, {-1, 5, nil}, {5, -1, nil}, {-1, -1, nil}, {math.MinInt, 1, nil}, {1, math.MinInt, nil},
		{41, 1, nil}, {1, 41, nil}, {41, 41, nil}, {50, -20, nil}, {-20, 50, nil},
		{math.MaxInt, math.MaxInt, nil}, {math.MaxInt, math.MinInt, nil}, {math.MinInt, math.MaxInt, nil}, {math.MinInt, math.MinInt, nil}, {1 << 32, 1, nil},
		{2, 3, pairs(-1, 0)}, {2, 3, pairs(0, -1)}, {2, 3, pairs(2, 0)}, {2, 3, pairs(0, 3)}, {2, 3, pairs(0, 0, 1, 2, 2, 2)}, {2, 3, pairs(2, 2, 0, 0)},
		{2, 3, pairs(math.MaxInt, 0)}, {2, 3, pairs(0, math.MaxInt)}, {2, 3, pairs(math.MinInt, 0)}, {2, 3, pairs(0, math.MinInt)}, {2, 3, pairs(1<<32, 1<<32)},
		{3, 2, pairs(2, 2)}, {3, 2, pairs(1, 2)}, {0, 0, pairs(0, 0)}, {40, 40, pairs(40, 0)}, {40, 40, pairs(0, 40)},
	} {
		if m, why := New(x.left, x.right, x.l...); m != nil || why != api.ErrArg {
			t.Error("New", x, m, why)
		}
	}
}

// step is what comes and goes, and what is to be told of it and to be told in all behind it.
type step struct{ left, right, told, rows string }

func checkSteps(t *testing.T, m *Miss, l ...step) {
	t.Helper()
	for _, s := range l {
		got, why := m.Apply(changes(t, s.left), changes(t, s.right))
		checkEntries(t, s, got, why, changes(t, s.told), api.OK)
		checkMiss(t, m, changes(t, s.rows))
	}
}

// P22.1: the example of chapter 22, and more.
func TestWithoutPairs(t *testing.T) {
	checkSteps(t, missOf(t, 1, 2),
		step{},
		step{`2:"a", 1:1`, ``, `1:1, 2:"a"`, `1:1, 2:"a"`},
		step{``, `1:7 null`, `-1:1, -2:"a"`, ``},
		step{`1:2`, `1:8 null`, ``, ``},
		step{`-1:1, 3:2`, `-1:7 null`, ``, ``},
		step{``, `1:8 null`, ``, ``},
		step{``, `-1:8 null`, ``, ``},
		step{``, `-1:8 null, 1:9 9`, ``, ``},
		step{``, `-1:9 9`, `4:2, 2:"a"`, `4:2, 2:"a"`},
		step{`-4:2`, ``, `-4:2`, `2:"a"`},
		step{`-1:"a"`, `0:5 5`, `-1:"a"`, `1:"a"`},
	)
}

// P22.1
func TestOnePair(t *testing.T) {
	checkSteps(t, missOf(t, 2, 2, pairs(0, 1)...),
		step{right: `1:"x" 1, 2:"y" 1, 1:"x" null`},
		step{`1:1 "p", 3:2 "q", 1:null "r"`, ``, `3:2 "q"`, `3:2 "q"`},
		// Of several on the right side the last one to go counts.
		step{``, `-1:"x" 1`, ``, `3:2 "q"`},
		step{``, `-1:"y" 1`, ``, `3:2 "q"`},
		step{``, `-1:"y" 1`, `1:1 "p"`, `1:1 "p", 3:2 "q"`},
		// The first one that comes has all of its key go.
		step{`5:1 "o"`, ``, `5:1 "o"`, `5:1 "o", 1:1 "p", 3:2 "q"`},
		step{``, `1:"z" 1`, `-5:1 "o", -1:1 "p"`, `3:2 "q"`},
		// Both at once: what goes here and comes there, by either side.
		step{`-1:1 "p", 1:2 "r"`, `-1:"z" 1, -1:"x" null, 1:"z" 2`, `1:null "r", 5:1 "o", -3:2 "q"`, `1:null "r", 5:1 "o"`},
		step{`-2:1 "o", 1:1 "n"`, `1:"z" null`, `-1:null "r", 1:1 "n", -2:1 "o"`, `1:1 "n", 3:1 "o"`},
		step{`-1:null "r", -3:2 "q", -1:2 "r", -1:1 "n", -3:1 "o"`, ``, `-1:1 "n", -3:1 "o"`, ``},
	)
}

// P22.1: values of other kinds, or other numbers of them, never go together; and all pairs have to hold.
func TestPairs(t *testing.T) {
	all := []string{`null`, `false`, `true`, `-1`, `0`, `1`, `""`, `"0"`, `"a"`, `"a\x00"`, `"null"`}
	m := missOf(t, 1, 1, pairs(0, 0)...)
	left := changes(t, "1:"+strings.Join(all, ",1:"))
	apply(t, m, left, nil)
	for i, e := range left {
		got, why := m.Apply(nil, []api.Entry{e})
		checkEntries(t, all[i], got, why, opposite(left[i:i+1]), api.OK)
		checkMiss(t, m, left[i+1:])
	}
	checkSteps(t, missOf(t, 1, 1, pairs(0, 0, 0, 0)...), step{`1:1, 1:2`, `1:2`, `1:1`, `1:1`})
	checkSteps(t, missOf(t, 2, 2, pairs(0, 1, 1, 0)...), step{`1:1 2, 1:1 3, 1:2 2`, `1:2 1, 1:1 3, 1:3 3`, `1:1 3, 1:2 2`, `1:1 3, 1:2 2`})
	checkSteps(t, missOf(t, 1, 2, pairs(0, 0, 0, 1)...), step{`1:1, 1:2`, `1:1 2, 1:1 1, 5:2 3`, `1:2`, `1:2`})
	checkSteps(t, missOf(t, 2, 1, pairs(0, 0, 1, 0)...), step{`1:1 2, 1:1 1, 5:2 2`, `1:1`, `1:1 2, 5:2 2`, `1:1 2, 5:2 2`})
	checkSteps(t, missOf(t, 2, 2, pairs(0, 0, 1, 1)...), step{`1:"a" "bc", 1:"ab" "c"`, `1:"ab" "c", 1:"a" "b"`, `1:"a" "bc"`, `1:"a" "bc"`})
}

// P22.1: as many columns as may be, on both sides.
func TestWide(t *testing.T) {
	wide := func(last int64) []api.Entry {
		return []api.Entry{{Row: append(make([]api.Value, 39), value.Int(last)), Many: 1}}
	}
	m := missOf(t, 40, 40, pairs(39, 39, 0, 38)...)
	got, why := m.Apply(append(wide(1), wide(2)...), wide(2))
	checkEntries(t, "40", got, why, wide(1), api.OK)
	got, why = m.Apply(nil, wide(1))
	checkEntries(t, "40", got, why, opposite(wide(1)), api.OK)
}

// P22.1: a row that comes twice, goes and comes, or is there 0 times, is told by the net.
func TestNetOfChanges(t *testing.T) {
	checkSteps(t, missOf(t, 1, 1, pairs(0, 0)...),
		step{`1:1, 2:1, 0:2`, `1:3, 0:1`, `3:1`, `3:1`},
		step{`1:2, -1:2, -1:1, 1:1`, `1:1, -1:1`, ``, `3:1`},
		// To go ahead of coming is as to come first.
		step{`-1:2, 2:2`, `-5:1, 5:1`, `1:2`, `3:1, 1:2`},
		step{`1:3`, `1:1, 1:1`, `-3:1`, `1:2`},
		step{``, `-1:1`, ``, `1:2`},
		step{``, `-1:3, -1:1`, `3:1, 1:3`, `3:1, 1:2, 1:3`},
		step{`-2:1, -1:2, -1:1, -1:3`, ``, `-3:1, -1:2, -1:3`, ``},
	)
}

// P22.1: a row whose partner goes, or comes, in the same step as it comes, or goes.
func TestPartnerGoes(t *testing.T) {
	for _, l := range [][]api.Pair{nil, pairs(0, 0)} {
		checkSteps(t, missOf(t, 1, 1, l...),
			step{right: `1:1`},
			step{`1:1`, `-1:1`, `1:1`, `1:1`},
			step{`-1:1`, `1:1`, `-1:1`, ``},
			step{`3:1`, ``, ``, ``},
			step{`-1:1`, `-1:1`, `2:1`, `2:1`},
			step{`1:1`, `2:1`, `-2:1`, ``},
			step{`-1:1`, `-1:1`, ``, ``},
			step{`-2:1`, `-1:1`, ``, ``},
		)
	}
	// One partner goes as another one comes.
	checkSteps(t, missOf(t, 1, 2, pairs(0, 0)...),
		step{`1:1`, `1:1 "a"`, ``, ``},
		step{`1:1`, `-1:1 "a", 1:1 "b"`, ``, ``},
		step{`1:2`, `-1:1 "b", 1:2 "b"`, `2:1`, `2:1`},
		step{`-2:1`, `1:1 "b", -1:2 "b"`, `-2:1, 1:2`, `1:2`})
}

// P22.1: each error, and which comes first; with one nothing changes.
func TestRefuses(t *testing.T) {
	const full, much = "full", "much"
	m := missOf(t, 1, 1, pairs(0, 0)...)
	rows := changes(t, `2:1, 1:2, 1073741824:3`)
	apply(t, m, append(changes(t, `7:8`), rows...), changes(t, `1:8`))
	odd := api.Entry{Row: []api.Value{{Kind: 9}}, Many: 1}
	lists := map[string][]api.Entry{full: numbers(10, 1498, 1), much: append(numbers(10, 1498, 1), changes(t, `-3:1`)...), "odd": {odd}}
	list := func(s string) []api.Entry {
		if l, is := lists[s]; is {
			return l
		}
		return changes(t, s)
	}
	for _, x := range []struct {
		left, right string
		why         api.Errno
	}{
		// Net's errors: of the left side ahead of those of the right one.
		{"odd", ``, api.ErrArg}, {``, "odd", api.ErrArg}, {`1073741825:1`, ``, api.ErrOver}, {``, `-1073741825:8`, api.ErrOver},
		{`1073741824:5, 1:5, -1:5`, ``, api.ErrOver}, {`9223372036854775807:1`, ``, api.ErrOver}, {``, `-9223372036854775808:8`, api.ErrOver},
		{`1073741825:1`, "odd", api.ErrOver}, {"odd", `1073741825:1`, api.ErrArg}, {full, "odd", api.ErrArg}, {much, "odd", api.ErrArg}, {`1:3`, "odd", api.ErrArg},
		// A row of another width, behind these and ahead of all else.
		{`1:`, ``, api.ErrArg}, {``, `1:`, api.ErrArg}, {`1:1 1`, ``, api.ErrArg}, {``, `1:8 8`, api.ErrArg}, {`1:1 1 1, 1:1`, `1:8`, api.ErrArg},
		{`1:1 1`, `1073741825:8`, api.ErrOver}, {`1073741825:1`, `1:8 8`, api.ErrOver}, {`1:1 1, 1073741825:2`, ``, api.ErrOver}, {`-3:1`, `1:8 8`, api.ErrArg}, {`1:1 1`, `-2:8`, api.ErrArg}, {much, `1:8 8`, api.ErrArg}, {`0:1 1`, ``, api.ErrArg}, {``, `1:8 8, -1:8 8`, api.ErrArg},
		// A row that would be there too few times, or too often.
		{`-3:1`, ``, api.ErrOver}, {`-1:9`, ``, api.ErrOver}, {``, `-2:8`, api.ErrOver}, {``, `-1:1`, api.ErrOver}, {`1:3`, ``, api.ErrOver}, {``, `1073741824:8`, api.ErrOver},
		{`1:9, 1:3`, `-1:8`, api.ErrOver}, {`-1:1, -2:1`, `1:8`, api.ErrOver}, {`-1073741824:1`, ``, api.ErrOver}, {`-1073741824:3, -1:4`, ``, api.ErrOver}, {`1:5`, `1:7, -1:1`, api.ErrOver},
		{`-8:8`, `-1:8`, api.ErrOver}, {`1:3`, `1:3`, api.ErrOver}, {much, ``, api.ErrOver}, {full, `-2:8`, api.ErrOver}, {full, `-1:9`, api.ErrOver},
		// Too many rows.
		{full, ``, api.ErrFull}, {full, `-1:8`, api.ErrFull}, {full, `1:9`, api.ErrFull}, {full, `1:3, -1:8`, api.ErrFull},
	} {
		got, why := m.Apply(list(x.left), list(x.right))
		checkEntries(t, x, got, why, nil, x.why)
		checkMiss(t, m, rows)
	}
	// Behind what was refused all is told as it would be without it.
	got, why := m.Apply(changes(t, `-2:1, 1:10`), changes(t, `1:3, -1:8`))
	checkEntries(t, "behind", got, why, changes(t, `-2:1, -1073741824:3, 7:8, 1:10`), api.OK)
	got, why = m.Apply(nil, changes(t, `-1:3, 1:8, 1:2, 1:20`))
	checkEntries(t, "behind", got, why, changes(t, `-1:2, 1073741824:3, -7:8`), api.OK)
	checkMiss(t, m, changes(t, `1073741824:3, 1:10`))
}

// P22.1: rows that can not be, whatever else.
func TestWrongRows(t *testing.T) {
	m := missOf(t, 2, 2, pairs(0, 0)...)
	apply(t, m, changes(t, `1:1 1`), changes(t, `1:2 2`))
	for _, r := range wrong() {
		for _, many := range []int64{1, 0, -1, most + 1, math.MinInt64} {
			bad := []api.Entry{{Row: r, Many: many}}
			got, why := m.Apply(bad, nil)
			checkEntries(t, bad, got, why, nil, api.ErrArg)
			got, why = m.Apply(changes(t, `-1:1 1`), bad)
			checkEntries(t, bad, got, why, nil, api.ErrArg)
		}
	}
	checkMiss(t, m, changes(t, `1:1 1`))
}

// P22.1: as many rows as may be told, and one more.
func TestFull(t *testing.T) {
	m := missOf(t, 1, 1)
	left, one := numbers(0, 1500, 1), numbers(5000, 1, 1)
	got, why := m.Apply(left, nil)
	checkEntries(t, "1500", got, why, left, api.OK)
	got, why = m.Apply(one, nil)
	checkEntries(t, "1501", got, why, nil, api.ErrFull)
	checkMiss(t, m, left)
	// How often rows are there is not what is counted; and one may come as another one goes.
	got, why = m.Apply(numbers(0, 1500, most-1), nil)
	checkEntries(t, "more often", got, why, numbers(0, 1500, most-1), api.OK)
	got, why = m.Apply(append(numbers(0, 1, -most), one...), nil)
	checkEntries(t, "one for one", got, why, append(numbers(0, 1, -most), one...), api.OK)
	got, why = m.Apply(append(numbers(1, 1499, -most), numbers(6000, 1499, 1)...), nil)
	checkEntries(t, "all others", got, why, append(numbers(1, 1499, -most), numbers(6000, 1499, 1)...), api.OK)
	// There may be more that are not told; but not all of them come when what went with them goes.
	all := append(one, numbers(6000, 1499, 1)...)
	got, why = m.Apply(numbers(0, 3000, 1), one)
	checkEntries(t, "none", got, why, opposite(all), api.OK)
	got, why = m.Apply(nil, opposite(one))
	checkEntries(t, "all", got, why, nil, api.ErrFull)
	checkMiss(t, m, nil)
	got, why = m.Apply(numbers(0, 2999, -1), opposite(one))
	checkEntries(t, "1501", got, why, nil, api.ErrFull)
	got, why = m.Apply(numbers(0, 3000, -1), opposite(one))
	checkEntries(t, "1500", got, why, all, api.OK)
	checkMiss(t, m, all)
	got, why = missOf(t, 1, 1, pairs(0, 0)...).Apply(numbers(0, 1502, 1), numbers(7, 1, 1))
	checkEntries(t, "1501 at once", got, why, nil, api.ErrFull)
	got, why = missOf(t, 1, 1, pairs(0, 0)...).Apply(numbers(0, 1501, most), numbers(1500, 1, 1))
	checkEntries(t, "1500 at once", got, why, numbers(0, 1500, most), api.OK)
}

// P22.1: nil, and a Miss that New did not make.
func TestNil(t *testing.T) {
	var m *Miss
	for _, l := range [][]api.Entry{nil, changes(t, `1:5`), changes(t, `-1:5`), changes(t, `1073741825:5`), {{Row: wrong()[0], Many: 1}}} {
		got, why := m.Apply(l, nil)
		checkEntries(t, l, got, why, nil, api.ErrNil)
		got, why = m.Apply(nil, l)
		checkEntries(t, l, got, why, nil, api.ErrNil)
	}
	checkMiss(t, m, nil)
	zero := new(Miss)
	zero.Apply(changes(t, `1:5`), nil)
	zero.Apply([]api.Entry{{Many: 1}}, []api.Entry{{Many: 1}})
	zero.Rows()
	// A nil list is an empty one.
	n := missOf(t, 1, 1)
	got, why := n.Apply(nil, nil)
	checkEntries(t, "nil", got, why, nil, api.OK)
	got, why = n.Apply([]api.Entry{}, []api.Entry{})
	checkEntries(t, "empty", got, why, nil, api.OK)
	// Two of them have nothing to do with each other.
	apply(t, n, changes(t, `1:1`), nil)
	checkMiss(t, missOf(t, 1, 1), nil)
}

// Rules 4 and 5: what is handed in is neither changed nor kept, and no row that is answered is that of an argument, of another row, or of another answer.
func TestNothingShared(t *testing.T) {
	shared := append(make([]api.Value, 0, 8), cells(t, "1 2")...)
	l := pairs(0, 0)
	m := missOf(t, 2, 2, l...)
	l[0] = api.Pair{Left: 1, Right: 1}
	sideOf := func() []api.Entry {
		return append(changes(t, `1:3 5, 1:4 7`), api.Entry{Row: shared, Many: 1}, api.Entry{Row: shared, Many: 1})
	}
	left, right := sideOf(), changes(t, `1:3 7, 1:5 2`)
	rows := changes(t, `2:1 2, 1:4 7`)
	spoil := func(what string, got, want []api.Entry) {
		t.Helper()
		checkEntries(t, what, got, api.OK, want, api.OK)
		for i := range got {
			_ = append(got[i].Row, value.Bool(true), value.Bool(true))
			clear(got[i].Row)
			got[i].Many = 99
			checkEntries(t, what, got[i+1:], api.OK, want[i+1:], api.OK)
		}
		_ = append(got[:0], api.Entry{})
	}
	spoil("Apply", apply(t, m, left, right), rows)
	if !sameEntries(left, sideOf()) || !sameEntries(right, changes(t, `1:3 7, 1:5 2`)) || !slices.Equal(shared[:8], append(cells(t, "1 2"), make([]api.Value, 6)...)) {
		t.Error("changed", left, right)
	}
	for _, e := range slices.Concat(left, right) {
		clear(e.Row)
	}
	for range 2 {
		spoil("Rows", m.Rows(), rows)
	}
	spoil("partners come", apply(t, m, nil, changes(t, `1:1 0, 1:4 0`)), opposite(rows))
	spoil("partners go", apply(t, m, nil, changes(t, `-1:1 0, -1:4 0, -1:3 7`)), changes(t, `2:1 2, 1:3 5, 1:4 7`))
	checkMiss(t, m, changes(t, `2:1 2, 1:3 5, 1:4 7`))
}
