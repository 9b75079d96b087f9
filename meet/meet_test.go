package meet

import (
	"math"
	"slices"
	"strconv"
	"strings"
	"testing"

	"verderer/api"
	"verderer/row"
	"verderer/value"
)

const most = api.MaxCount

// cells answers the row of values' words with blanks between.
func cells(t *testing.T, words string) []api.Value {
	t.Helper()
	var r []api.Value
	for _, w := range strings.Fields(words) {
		v, why := value.Read(w)
		if why != api.OK {
			t.Fatal("no value:", w)
		}
		r = append(r, v)
	}
	return r
}

// changes answers entries with commas between, each written as its values behind how often they come, and a colon.
func changes(t *testing.T, l string) []api.Entry {
	t.Helper()
	var out []api.Entry
	for s := range strings.SplitSeq(l, ",") {
		many, words, is := strings.Cut(strings.TrimSpace(s), ":")
		if !is {
			continue
		}
		n, err := strconv.ParseInt(many, 10, 64)
		if err != nil {
			t.Fatal(err)
		}
		out = append(out, api.Entry{Row: cells(t, words), Many: n})
	}
	return out
}

// numbers answers the rows of one Int, of the numbers from one on, each so many times.
func numbers(from, rows int, many int64) []api.Entry {
	var out []api.Entry
	for i := range rows {
		out = append(out, api.Entry{Row: row.Of(value.Int(int64(from + i))), Many: many})
	}
	return out
}

// crossed answers all rows of left, each with all of right.
func crossed(left, right []api.Entry) []api.Entry {
	var out []api.Entry
	for _, a := range left {
		for _, b := range right {
			out = append(out, api.Entry{Row: slices.Concat(a.Row, b.Row), Many: a.Many * b.Many})
		}
	}
	return out
}

func opposite(l []api.Entry) []api.Entry {
	out := slices.Clone(l)
	for i := range out {
		out[i].Many = -out[i].Many
	}
	return out
}

// wrong has rows that can not be.
func wrong() [][]api.Value {
	return [][]api.Value{
		make([]api.Value, api.MaxWide+1), make([]api.Value, 1<<16), row.Of(value.Text(strings.Repeat("x", api.MaxText+1)), value.Null()),
		{value.Null(), {Int: 7}}, {{Kind: 9}, value.Null()}, {value.Int(1), {Kind: -1}}, {value.Int(0), {Kind: api.Bool, Text: "x"}}, {{Kind: api.Int, Flag: true}}, {{Kind: api.Text, Text: "a", Int: 1}},
	}
}

// pairs answers the pairs of so many numbers, two by two.
func pairs(l ...int) []api.Pair {
	var out []api.Pair
	for i := 0; i < len(l); i += 2 {
		out = append(out, api.Pair{Left: l[i], Right: l[i+1]})
	}
	return out
}

func meetOf(t *testing.T, left, right int, l ...api.Pair) *Meet {
	t.Helper()
	m, why := New(left, right, l...)
	if m == nil || why != api.OK {
		t.Fatal("New", left, right, l, why)
	}
	return m
}

func sameEntry(a, b api.Entry) bool { return a.Many == b.Many && slices.Equal(a.Row, b.Row) }

func sameEntries(a, b []api.Entry) bool { return slices.EqualFunc(a, b, sameEntry) }

func checkEntries(t *testing.T, what any, got []api.Entry, why api.Errno, want []api.Entry, wantWhy api.Errno) {
	t.Helper()
	switch {
	case why != wantWhy:
		t.Fatalf("%v: %v, not %v", what, why, wantWhy)
	case !sameEntries(got, want) && len(got)+len(want) > 40:
		t.Fatalf("%v: %d rows, not those %d", what, len(got), len(want))
	case !sameEntries(got, want):
		t.Fatalf("%v: %v, not %v", what, got, want)
	}
}

func checkMeet(t *testing.T, m *Meet, left, right, together []api.Entry) {
	t.Helper()
	checkEntries(t, "Left", m.Left(), api.OK, left, api.OK)
	checkEntries(t, "Right", m.Right(), api.OK, right, api.OK)
	checkEntries(t, "Rows", m.Rows(), api.OK, together, api.OK)
}

// apply has changes that may not be refused come and go.
func apply(t *testing.T, m *Meet, left, right []api.Entry) []api.Entry {
	t.Helper()
	told, why := m.Apply(left, right)
	if why != api.OK {
		t.Fatal("Apply", why)
	}
	return told
}

// P21.1
func TestNew(t *testing.T) {
	for _, x := range []struct {
		left, right int
		l           []api.Pair
	}{
		{1, 1, nil}, {1, 39, nil}, {39, 1, nil}, {20, 20, nil}, {2, 2, pairs(0, 0)}, {2, 3, pairs(1, 2, 0, 0, 1, 0)},
		{39, 1, pairs(38, 0, 0, 0)}, {1, 39, pairs(0, 38)}, {1, 1, pairs(0, 0, 0, 0, 0, 0)}, {20, 20, make([]api.Pair, 1<<17)},
	} {
		m := meetOf(t, x.left, x.right, x.l...)
		checkMeet(t, m, nil, nil, nil)
	}
	for _, x := range []struct {
		left, right int
		l           []api.Pair
	}{
		{0, 1, nil}, {1, 0, nil}, {0, 0, nil}, {-1, 5, nil}, {5, -1, nil}, {-1, -1, nil}, {math.MinInt, 1, nil}, {1, math.MinInt, nil},
		{41, 1, nil}, {1, 41, nil}, {40, 1, nil}, {1, 40, nil}, {40, 40, nil}, {21, 20, nil}, {20, 21, nil}, {50, -20, nil}, {-20, 50, nil},
		{math.MaxInt, math.MaxInt, nil}, {math.MaxInt, math.MinInt, nil}, {math.MinInt, math.MaxInt, nil}, {math.MinInt, math.MinInt, nil}, {1 << 32, 1, nil},
		{2, 3, pairs(-1, 0)}, {2, 3, pairs(0, -1)}, {2, 3, pairs(2, 0)}, {2, 3, pairs(0, 3)}, {2, 3, pairs(0, 0, 1, 2, 2, 2)}, {2, 3, pairs(2, 2, 0, 0)},
		{2, 3, pairs(math.MaxInt, 0)}, {2, 3, pairs(0, math.MaxInt)}, {2, 3, pairs(math.MinInt, 0)}, {2, 3, pairs(0, math.MinInt)}, {2, 3, pairs(1<<32, 1<<32)},
		{3, 2, pairs(2, 2)}, {3, 2, pairs(1, 2)}, {0, 0, pairs(0, 0)},
	} {
		if m, why := New(x.left, x.right, x.l...); m != nil || why != api.ErrArg {
			t.Error("New", x, m, why)
		}
	}
}

// step is what comes and goes, and what is to be told of it and to be there behind it.
type step struct{ left, right, told, rows string }

func checkSteps(t *testing.T, m *Meet, l ...step) {
	t.Helper()
	for _, s := range l {
		got, why := m.Apply(changes(t, s.left), changes(t, s.right))
		checkEntries(t, s, got, why, changes(t, s.told), api.OK)
		checkEntries(t, s, m.Rows(), api.OK, changes(t, s.rows), api.OK)
	}
}

// P21.1, P21.2: the example of chapter 21, and more.
func TestOnePair(t *testing.T) {
	m := meetOf(t, 2, 2, pairs(0, 0)...)
	checkSteps(t, m,
		step{},
		step{left: `1:1 "a"`},
		step{right: `1:1 "b"`, told: `1:1 "a" 1 "b"`, rows: `1:1 "a" 1 "b"`},
		// How often both are there is told by the product.
		step{`2:1 "a"`, ``, `2:1 "a" 1 "b"`, `3:1 "a" 1 "b"`},
		step{``, `1:1 "b"`, `3:1 "a" 1 "b"`, `6:1 "a" 1 "b"`},
		step{`-2:1 "a"`, `-1:1 "b"`, `-5:1 "a" 1 "b"`, `1:1 "a" 1 "b"`},
		// Both come, in any order, and each goes with all of the other side that are as the pair asks.
		step{`1:2 null, 1:null 7, 1:1 5`, `1:2 "y", 1:2 "x", 4:1 null`, `4:1 5 1 null, 1:1 5 1 "b", 4:1 "a" 1 null, 1:2 null 2 "x", 1:2 null 2 "y"`, `4:1 5 1 null, 1:1 5 1 "b", 4:1 "a" 1 null, 1:1 "a" 1 "b", 1:2 null 2 "x", 1:2 null 2 "y"`},
		// What comes as often as something else goes leaves the product.
		step{`1:1 5`, `-2:1 null, 1:null null, -1:2 "x"`, `1:null 7 null null, 1:1 5 1 "b", -2:1 "a" 1 null, -1:2 null 2 "x"`, `1:null 7 null null, 4:1 5 1 null, 2:1 5 1 "b", 2:1 "a" 1 null, 1:1 "a" 1 "b", 1:2 null 2 "y"`},
		step{`-1:1 "a", -1:2 null, -2:1 5, -1:null 7`, `0:3 3`, `-1:null 7 null null, -4:1 5 1 null, -2:1 5 1 "b", -2:1 "a" 1 null, -1:1 "a" 1 "b", -1:2 null 2 "y"`, ``},
	)
	checkMeet(t, m, nil, changes(t, `1:null null, 2:1 null, 1:1 "b", 1:2 "y"`), nil)
}

// P21.1: values of other kinds, or other numbers of them, never go together.
func TestPairs(t *testing.T) {
	m := meetOf(t, 1, 1, pairs(0, 0)...)
	all := `1:null, 1:false, 1:true, 1:-1, 1:0, 1:1, 1:"", 1:"0", 1:"a", 1:"a\x00", 1:"null"`
	together := `1:null null, 1:false false, 1:true true, 1:-1 -1, 1:0 0, 1:1 1, 1:"" "", 1:"0" "0", 1:"a" "a", 1:"a\x00" "a\x00", 1:"null" "null"`
	checkSteps(t, m, step{left: all}, step{``, all, together, together})
	checkSteps(t, meetOf(t, 1, 1, pairs(0, 0, 0, 0)...), step{all, all, together, together})
	// Without pairs any two go together.
	checkSteps(t, meetOf(t, 1, 2), step{`2:1, 1:"a"`, `1:5 6, 3:1 1`, `6:1 1 1, 2:1 5 6, 3:"a" 1 1, 1:"a" 5 6`, `6:1 1 1, 2:1 5 6, 3:"a" 1 1, 1:"a" 5 6`})
	// All pairs have to hold.
	checkSteps(t, meetOf(t, 2, 2, pairs(0, 1, 1, 0)...), step{`1:1 2, 1:1 3, 1:2 2`, `1:2 1, 1:2 2, 1:1 3, 1:3 3`, `1:1 2 2 1, 1:2 2 2 2`, `1:1 2 2 1, 1:2 2 2 2`})
	// One place may have to be as two others, on either side.
	checkSteps(t, meetOf(t, 1, 2, pairs(0, 0, 0, 1)...), step{`1:1, 1:2`, `1:1 2, 1:1 1, 5:2 2`, `1:1 1 1, 5:2 2 2`, `1:1 1 1, 5:2 2 2`})
	checkSteps(t, meetOf(t, 2, 1, pairs(0, 0, 1, 0)...), step{`1:1 2, 1:1 1, 5:2 2`, `1:1, 1:2`, `1:1 1 1, 5:2 2 2`, `1:1 1 1, 5:2 2 2`})
	// Texts that begin alike, one behind the other, are not one text.
	checkSteps(t, meetOf(t, 2, 2, pairs(0, 0, 1, 1)...), step{`1:"a" "bc", 1:"ab" "c"`, `1:"ab" "c", 1:"a" "b"`, `1:"ab" "c" "ab" "c"`, `1:"ab" "c" "ab" "c"`})
}

// P21.1: as many columns as may be.
func TestWide(t *testing.T) {
	ints := func(from, many int) []api.Value {
		var r []api.Value
		for i := range many {
			r = append(r, value.Int(int64(from+i)))
		}
		return r
	}
	for _, wide := range []int{1, 7, 20, 39} {
		var l []api.Pair
		for i := range wide {
			l = append(l, api.Pair{Left: i, Right: i % (40 - wide)})
		}
		m := meetOf(t, wide, 40-wide)
		left, right := []api.Entry{{Row: ints(0, wide), Many: 1}}, []api.Entry{{Row: ints(wide, 40-wide), Many: 1}}
		got, why := m.Apply(left, right)
		checkEntries(t, wide, got, why, []api.Entry{{Row: ints(0, 40), Many: 1}}, api.OK)
		m = meetOf(t, wide, 40-wide, l...)
		got, why = m.Apply(left, right)
		checkEntries(t, wide, got, why, nil, api.OK)
	}
}

// P21.1: a row that comes twice, goes and comes, or is there 0 times, is told by the net.
func TestNetOfChanges(t *testing.T) {
	m := meetOf(t, 1, 1, pairs(0, 0)...)
	checkSteps(t, m,
		step{`1:1, 2:1, 0:2`, `1:1, 0:3`, `3:1 1`, `3:1 1`},
		step{`1:2, -1:2, -1:1, 1:1`, `1:2`, ``, `3:1 1`},
		// To go ahead of coming is as to come first.
		step{`-1:2, 2:2`, `-5:2, 5:2`, `1:2 2`, `3:1 1, 1:2 2`},
		step{`-2:1, -1:1`, `-1:2, 1:1, -2:1`, `-3:1 1, -1:2 2`, ``},
	)
	checkMeet(t, m, changes(t, `1:2`), nil, nil)
	// A row that comes twice, from two rows of the other side.
	m = meetOf(t, 2, 1, pairs(0, 0)...)
	checkSteps(t, m, step{`1:1 5, 1:1 6`, `1:1, 1:1`, `2:1 5 1, 2:1 6 1`, `2:1 5 1, 2:1 6 1`}, step{``, `-1:1`, `-1:1 5 1, -1:1 6 1`, `1:1 5 1, 1:1 6 1`})
}

// P21.1: a row whose partner goes in the same step as it comes is told as never there.
func TestPartnerGoes(t *testing.T) {
	for _, l := range [][]api.Pair{nil, pairs(0, 0)} {
		m := meetOf(t, 1, 1, l...)
		checkSteps(t, m,
			step{right: `1:1`},
			step{left: `1:1`, right: `-1:1`},
			step{left: `-1:1`, right: `1:1`},
			step{`1:1`, ``, `1:1 1`, `1:1 1`},
			// Both go; both come again, each otherwise often.
			step{`-1:1`, `-1:1`, `-1:1 1`, ``},
			step{`3:1`, `2:1`, `6:1 1`, `6:1 1`},
			step{`-1:1`, `1:1`, ``, `6:1 1`},
			step{`2:1`, `-2:1`, `-2:1 1`, `4:1 1`},
			step{`-4:1`, `4:1`, `-4:1 1`, ``},
		)
		checkMeet(t, m, nil, changes(t, `5:1`), nil)
	}
	// One partner goes as another one comes.
	checkSteps(t, meetOf(t, 1, 2, pairs(0, 0)...),
		step{`1:1`, `1:1 "a"`, `1:1 1 "a"`, `1:1 1 "a"`},
		step{`1:1`, `-1:1 "a", 1:1 "b"`, `-1:1 1 "a", 2:1 1 "b"`, `2:1 1 "b"`},
		step{`-2:1, 1:2`, `-1:1 "b", 1:2 "b"`, `-2:1 1 "b", 1:2 2 "b"`, `1:2 2 "b"`})
}

// P21.1: each error, and which comes first; with one nothing changes.
func TestRefuses(t *testing.T) {
	const full, much = "full", "much"
	m := meetOf(t, 1, 1)
	left, right := changes(t, `2:1, 1:2, 1073741824:3`), changes(t, `1:8`)
	apply(t, m, left, right)
	odd := api.Entry{Row: []api.Value{{Kind: 9}}, Many: 1}
	lists := map[string][]api.Entry{full: numbers(10, 1498, 1), much: append(numbers(10, 1498, 1), changes(t, `-3:1`)...), "odd": {odd}}
	list := func(s string) []api.Entry {
		if l, is := lists[s]; is {
			return l
		}
		return changes(t, s)
	}
	for _, x := range []struct {
		left, right string
		why         api.Errno
	}{
		// Net's errors: of the left side ahead of those of the right one.
		{"odd", ``, api.ErrArg}, {``, "odd", api.ErrArg}, {`1073741825:1`, ``, api.ErrOver}, {``, `-1073741825:8`, api.ErrOver},
		{`1073741824:5, 1:5, -1:5`, ``, api.ErrOver}, {`9223372036854775807:1`, ``, api.ErrOver}, {``, `-9223372036854775808:8`, api.ErrOver},
		{`1073741825:1`, "odd", api.ErrOver}, {"odd", `1073741825:1`, api.ErrArg}, {full, "odd", api.ErrArg}, {much, "odd", api.ErrArg}, {`1:3`, "odd", api.ErrArg},
		// A row of another width, behind these and ahead of all else.
		{`1:`, ``, api.ErrArg}, {``, `1:`, api.ErrArg}, {`1:1 1`, ``, api.ErrArg}, {``, `1:8 8`, api.ErrArg}, {`1:1 1 1, 1:1`, `1:8`, api.ErrArg},
		{`1:1 1`, `1073741825:8`, api.ErrOver}, {`1073741825:1`, `1:8 8`, api.ErrOver}, {`1:1 1, 1073741825:2`, ``, api.ErrOver}, {`-3:1`, `1:8 8`, api.ErrArg}, {`1:1 1`, `-2:8`, api.ErrArg}, {much, `1:8 8`, api.ErrArg}, {`0:1 1`, ``, api.ErrArg}, {``, `1:8 8, -1:8 8`, api.ErrArg},
		// A row that would be there too few times, or too often.
		{`-3:1`, ``, api.ErrOver}, {`-1:9`, ``, api.ErrOver}, {``, `-2:8`, api.ErrOver}, {``, `-1:1`, api.ErrOver}, {`1:3`, ``, api.ErrOver}, {``, `1073741824:8`, api.ErrOver},
		{`1:9, 1:3`, `-1:8`, api.ErrOver}, {`-1:1, -2:1`, `1:8`, api.ErrOver}, {`-1073741824:1`, ``, api.ErrOver}, {`-1073741824:3, -1:4`, ``, api.ErrOver}, {`1:5`, `1:7, -1:1`, api.ErrOver},
		{much, ``, api.ErrOver}, {full, `-2:8`, api.ErrOver}, {full, `-1:9`, api.ErrOver},
		// Too many rows, and then one too often.
		{full, ``, api.ErrFull}, {full, `1:8`, api.ErrFull}, {`1:4`, full, api.ErrFull}, {full, `1:9, -1:8`, api.ErrFull}, {``, full, api.ErrFull},
		{``, `1:8`, api.ErrOver}, {`1:1`, `1:8`, api.ErrOver}, {`-1:3, 1073741824:4`, `1:8`, api.ErrOver}, {`-1:1, 1:7`, `2:9`, api.ErrOver},
	} {
		got, why := m.Apply(list(x.left), list(x.right))
		checkEntries(t, x, got, why, nil, x.why)
		checkMeet(t, m, left, right, crossed(left, right))
	}
	// Behind what was refused all is told as it would be without it.
	got, why := m.Apply(changes(t, `-2:1, 1:10`), changes(t, `1:7, -1:8`))
	checkEntries(t, "behind", got, why, changes(t, `-2:1 8, 1:2 7, -1:2 8, 1073741824:3 7, -1073741824:3 8, 1:10 7`), api.OK)
	checkMeet(t, m, changes(t, `1:2, 1073741824:3, 1:10`), changes(t, `1:7`), changes(t, `1:2 7, 1073741824:3 7, 1:10 7`))
}

// P21.1: rows that can not be, whatever else.
func TestWrongRows(t *testing.T) {
	m := meetOf(t, 2, 2, pairs(0, 0)...)
	apply(t, m, changes(t, `1:1 1`), changes(t, `1:1 2`))
	for _, r := range wrong() {
		for _, many := range []int64{1, 0, -1, most + 1, math.MinInt64} {
			bad := []api.Entry{{Row: r, Many: many}}
			got, why := m.Apply(bad, nil)
			checkEntries(t, bad, got, why, nil, api.ErrArg)
			got, why = m.Apply(changes(t, `-1:1 1`), bad)
			checkEntries(t, bad, got, why, nil, api.ErrArg)
		}
	}
	checkMeet(t, m, changes(t, `1:1 1`), changes(t, `1:1 2`), changes(t, `1:1 1 1 2`))
}

// P21.1: as many rows as may go together, and one more.
func TestFull(t *testing.T) {
	m := meetOf(t, 1, 1)
	left, right := numbers(0, 50, 1), numbers(0, 30, 1)
	got, why := m.Apply(left, right)
	checkEntries(t, "1500", got, why, crossed(left, right), api.OK)
	one := numbers(100, 1, 1)
	for _, x := range [][2][]api.Entry{{one, nil}, {nil, one}, {one, one}, {numbers(100, 1<<14, 1), numbers(100, 1<<14, 1)}} {
		got, why = m.Apply(x[0], x[1])
		checkEntries(t, "more", got, why, nil, api.ErrFull)
		checkMeet(t, m, left, right, crossed(left, right))
	}
	// How often rows are there is not what is counted; and some may come as others go.
	got, why = m.Apply(left, nil)
	checkEntries(t, "twice", got, why, crossed(left, right), api.OK)
	// All but one of the left side change, and all of the right one.
	got, why = m.Apply(numbers(0, 49, 1), right)
	checkEntries(t, "all change", got, why, append(crossed(numbers(0, 49, 4), right), crossed(numbers(49, 1, 2), right)...), api.OK)
	got, why = m.Apply(numbers(0, 49, -1), opposite(right))
	checkEntries(t, "and back", got, why, append(crossed(numbers(0, 49, -4), right), crossed(numbers(49, 1, -2), right)...), api.OK)
	got, why = m.Apply(append(opposite(left), opposite(left)...), nil)
	checkEntries(t, "all go", got, why, opposite(crossed(numbers(0, 50, 2), right)), api.OK)
	others := numbers(1000, 30, 1)
	apply(t, m, others, append(opposite(right), numbers(2000, 50, 1)...))
	got, why = m.Apply(append(opposite(others), left...), append(opposite(numbers(2000, 50, 1)), right...))
	checkEntries(t, "all others", got, why, append(crossed(left, right), opposite(crossed(others, numbers(2000, 50, 1)))...), api.OK)
	checkMeet(t, m, left, right, crossed(left, right))
	got, why = m.Apply(append(opposite(numbers(0, 1, 1)), one...), nil)
	checkEntries(t, "one for one", got, why, append(opposite(crossed(left[:1], right)), crossed(one, right)...), api.OK)
	got, why = m.Apply(append(opposite(numbers(1, 1, 1)), numbers(200, 2, 1)...), nil)
	checkEntries(t, "two for one", got, why, nil, api.ErrFull)
	// One row of another width as many times: 1501 at once.
	got, why = meetOf(t, 1, 1).Apply(numbers(0, 1, 1), numbers(0, 1501, 1))
	checkEntries(t, "1501", got, why, nil, api.ErrFull)
	// A side may have more rows, as long as no more go together.
	m = meetOf(t, 1, 1, pairs(0, 0)...)
	left, right = numbers(0, 3000, 1), numbers(1500, 3000, 1)
	got, why = m.Apply(left, right)
	checkEntries(t, "3000", got, why, func() (l []api.Entry) {
		for _, e := range left[1500:] {
			l = append(l, api.Entry{Row: row.Join(e.Row, e.Row), Many: 1})
		}
		return l
	}(), api.OK)
	got, why = m.Apply(nil, numbers(1499, 1, 1))
	checkEntries(t, "1501", got, why, nil, api.ErrFull)
	checkEntries(t, "Left", m.Left(), api.OK, left, api.OK)
	checkEntries(t, "Right", m.Right(), api.OK, right, api.OK)
}

// P21.1: rows that go together as often as may be, and more often.
func TestOver(t *testing.T) {
	m := meetOf(t, 1, 1)
	checkSteps(t, m,
		step{`1073741824:1`, `1:2`, `1073741824:1 2`, `1073741824:1 2`},
		// Both change, and the product stays; what it would be in between is nothing.
		step{`-1073741823:1`, `1073741823:2`, ``, `1073741824:1 2`},
		step{`32767:1`, `-1073709056:2`, ``, `1073741824:1 2`},
	)
	checkMeet(t, m, changes(t, `32768:1`), changes(t, `32768:2`), changes(t, `1073741824:1 2`))
	for _, x := range [][2]string{{`1:1`, ``}, {``, `1:2`}, {`1:1`, `1:2`}, {`1073709056:1`, `1073709056:2`}, {`1:5`, `1073709056:2`}} {
		got, why := m.Apply(changes(t, x[0]), changes(t, x[1]))
		checkEntries(t, x, got, why, nil, api.ErrOver)
		checkMeet(t, m, changes(t, `32768:1`), changes(t, `32768:2`), changes(t, `1073741824:1 2`))
	}
	checkSteps(t, m, step{`-32767:1, 1:3`, `1073709056:2, 1073741824:5`, `1073741824:1 5, 1073741824:3 2, 1073741824:3 5`, `1073741824:1 2, 1073741824:1 5, 1073741824:3 2, 1073741824:3 5`})
	// Rows that do not go together may be there as often as may be.
	checkSteps(t, meetOf(t, 1, 1, pairs(0, 0)...), step{left: `1073741824:1`, right: `1073741824:2`})
}

// P21.1, P21.2: nil, and a Meet that New did not make.
func TestNil(t *testing.T) {
	var m *Meet
	for _, l := range [][]api.Entry{nil, changes(t, `1:5`), changes(t, `-1:5`), changes(t, `1073741825:5`), {{Row: wrong()[0], Many: 1}}} {
		got, why := m.Apply(l, nil)
		checkEntries(t, l, got, why, nil, api.ErrNil)
		got, why = m.Apply(nil, l)
		checkEntries(t, l, got, why, nil, api.ErrNil)
	}
	checkMeet(t, m, nil, nil, nil)
	zero := new(Meet)
	zero.Apply(changes(t, `1:5`), nil)
	zero.Apply([]api.Entry{{Many: 1}}, []api.Entry{{Many: 1}})
	zero.Rows()
	zero.Left()
	zero.Right()
	// A nil list is an empty one.
	n := meetOf(t, 1, 1)
	got, why := n.Apply(nil, nil)
	checkEntries(t, "nil", got, why, nil, api.OK)
	got, why = n.Apply([]api.Entry{}, []api.Entry{})
	checkEntries(t, "empty", got, why, nil, api.OK)
	// Two of them have nothing to do with each other.
	apply(t, n, changes(t, `1:1`), changes(t, `1:2`))
	checkMeet(t, meetOf(t, 1, 1), nil, nil, nil)
}

// Rules 4 and 5: what is handed in is neither changed nor kept, and no row that is answered is that of an argument, of another row, or of another answer.
func TestNothingShared(t *testing.T) {
	shared := append(make([]api.Value, 0, 8), cells(t, "1 2")...)
	l := pairs(0, 0)
	m := meetOf(t, 2, 2, l...)
	l[0] = api.Pair{Left: 1, Right: 1}
	sideOf := func() []api.Entry {
		return append(changes(t, `1:1 5, 1:1 7`), api.Entry{Row: shared, Many: 1}, api.Entry{Row: shared, Many: 1})
	}
	left, right := sideOf(), sideOf()
	rows := changes(t, `2:1 2, 1:1 5, 1:1 7`)
	together := crossed(rows, rows)
	spoil := func(what string, got, want []api.Entry) {
		t.Helper()
		checkEntries(t, what, got, api.OK, want, api.OK)
		for i := range got {
			_ = append(got[i].Row, value.Bool(true), value.Bool(true))
			clear(got[i].Row)
			got[i].Many = 99
			checkEntries(t, what, got[i+1:], api.OK, want[i+1:], api.OK)
		}
		_ = append(got[:0], api.Entry{})
	}
	spoil("Apply", apply(t, m, left, right), together)
	if !sameEntries(left, sideOf()) || !sameEntries(right, sideOf()) || !slices.Equal(shared[:8], append(cells(t, "1 2"), make([]api.Value, 6)...)) {
		t.Error("changed", left, right)
	}
	for _, e := range slices.Concat(left, right) {
		clear(e.Row)
	}
	for range 2 {
		spoil("Left", m.Left(), rows)
		spoil("Right", m.Right(), rows)
		spoil("Rows", m.Rows(), together)
	}
	spoil("all go", apply(t, m, opposite(rows), nil), opposite(together))
	spoil("all come", apply(t, m, rows, nil), together)
	checkMeet(t, m, rows, rows, together)
}
