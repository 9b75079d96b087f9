package group

import (
	"math"
	"slices"
	"strconv"
	"strings"
	"testing"

	"verderer/api"
	"verderer/row"
	"verderer/value"
)

const most = api.MaxCount

// cells answers the row of values' words with blanks between.
func cells(t *testing.T, words string) []api.Value {
	t.Helper()
	var r []api.Value
	for _, w := range strings.Fields(words) {
		v, why := value.Read(w)
		if why != api.OK {
			t.Fatal("no value:", w)
		}
		r = append(r, v)
	}
	return r
}

// changes answers entries with commas between, each written as its values behind how often they come, and a colon.
func changes(t *testing.T, l string) []api.Entry {
	t.Helper()
	var out []api.Entry
	for s := range strings.SplitSeq(l, ",") {
		many, words, is := strings.Cut(strings.TrimSpace(s), ":")
		if !is {
			continue
		}
		n, err := strconv.ParseInt(many, 10, 64)
		if err != nil {
			t.Fatal(err)
		}
		out = append(out, api.Entry{Row: cells(t, words), Many: n})
	}
	return out
}

// numbers answers so many rows, each so many times: one Int, of the numbers from one on, and then the others.
func numbers(from, rows int, many int64, others ...int64) []api.Entry {
	var out []api.Entry
	for i := range rows {
		r := row.Of(value.Int(int64(from + i)))
		for _, n := range others {
			r = append(r, value.Int(n))
		}
		out = append(out, api.Entry{Row: r, Many: many})
	}
	return out
}

func opposite(l []api.Entry) []api.Entry {
	out := slices.Clone(l)
	for i := range out {
		out[i].Many = -out[i].Many
	}
	return out
}

// wrong has rows that can not be.
func wrong() [][]api.Value {
	return [][]api.Value{
		make([]api.Value, api.MaxWide+1), make([]api.Value, 1<<16), row.Of(value.Text(strings.Repeat("x", api.MaxText+1)), value.Null()),
		{value.Null(), {Int: 7}}, {{Kind: 9}, value.Null()}, {value.Int(1), {Kind: -1}}, {value.Int(0), {Kind: api.Bool, Text: "x"}}, {{Kind: api.Int, Flag: true}}, {{Kind: api.Text, Text: "a", Int: 1}},
	}
}

func groupOf(t *testing.T, wide, agg, of int, cols ...int) *Group {
	t.Helper()
	g, why := New(wide, agg, of, cols...)
	if g == nil || why != api.OK {
		t.Fatal("New", wide, agg, of, cols, why)
	}
	return g
}

func sameEntry(a, b api.Entry) bool { return a.Many == b.Many && slices.Equal(a.Row, b.Row) }

func sameEntries(a, b []api.Entry) bool { return slices.EqualFunc(a, b, sameEntry) }

func checkEntries(t *testing.T, what any, got []api.Entry, why api.Errno, want []api.Entry, wantWhy api.Errno) {
	t.Helper()
	switch {
	case why != wantWhy:
		t.Fatalf("%v: %v, not %v", what, why, wantWhy)
	case !sameEntries(got, want) && len(got)+len(want) > 40:
		t.Fatalf("%v: %d rows, not those %d", what, len(got), len(want))
	case !sameEntries(got, want):
		t.Fatalf("%v: %v, not %v", what, got, want)
	}
}

// checkGroup holds what is told, and how many rows there are, against what is to be.
func checkGroup(t *testing.T, g *Group, told []api.Entry, rows int) {
	t.Helper()
	checkEntries(t, "Rows", g.Rows(), api.OK, told, api.OK)
	if g.Len() != rows {
		t.Fatal("Len", g.Len(), rows)
	}
}

// apply has changes that may not be refused come and go.
func apply(t *testing.T, g *Group, l []api.Entry) []api.Entry {
	t.Helper()
	told, why := g.Apply(l...)
	if why != api.OK {
		t.Fatal("Apply", why)
	}
	return told
}

// P23.1
func TestNew(t *testing.T) {
	var all []int
	for i := range 40 {
		all = append(all, i)
	}
	for _, x := range []struct {
		wide, agg, of int
		cols          []int
	}{
		{1, api.Count, 0, nil}, {1, api.Sum, 0, []int{}}, {1, api.Least, 0, []int{0}}, {1, api.Most, 0, []int{0, 0}},
		{40, api.Most, 39, all[:39]}, {40, api.Sum, 0, all[1:]}, {40, api.Least, 39, make([]int, 39)}, {1, api.Sum, 0, make([]int, 39)},
		{3, api.Sum, 2, []int{2, 0, 1, 2}}, {3, api.Count, 2, []int{2}},
		// Count is of no place, so it may be any.
		{1, api.Count, 1, nil}, {3, api.Count, 3, []int{0}}, {3, api.Count, -1, nil}, {3, api.Count, 40, nil}, {3, api.Count, math.MaxInt, nil}, {3, api.Count, math.MinInt, nil},
	} {
		checkGroup(t, groupOf(t, x.wide, x.agg, x.of, x.cols...), nil, 0)
	}
	for _, x := range []struct {
		wide, agg, of int
		cols          []int
	}{
		{0, api.Count, 0, nil}, {-1, api.Count, 0, nil}, {41, api.Count, 0, nil}, {math.MinInt, api.Count, 0, nil}, {math.MaxInt, api.Count, 0, nil}, {1 << 32, api.Sum, 0, nil}, {0, api.Sum, 0, nil}, {41, api.Most, 40, nil}, {41, api.Sum, 0, all[:39]}, {-1, api.Sum, -2, []int{-3}},
		{2, 0, 0, nil}, {2, 5, 0, nil}, {2, -1, 0, nil}, {2, math.MaxInt, 0, nil}, {2, math.MinInt, 0, nil}, {2, api.Plain, 1, []int{0}}, {2, 1 << 32, 0, nil}, {2, 1<<32 + 1, 0, nil},
		{2, api.Count, 0, []int{2}}, {2, api.Count, 0, []int{-1}}, {2, api.Sum, 0, []int{0, 1, 2}}, {2, api.Least, 0, []int{2, 0}}, {40, api.Most, 0, []int{40}}, {2, api.Sum, 0, []int{math.MaxInt}}, {2, api.Sum, 0, []int{math.MinInt}}, {2, api.Count, 0, []int{1 << 32}},
		{40, api.Count, 0, all}, {40, api.Sum, 0, all}, {1, api.Count, 0, make([]int, 40)}, {2, api.Most, 1, make([]int, 1<<20)},
		{2, api.Sum, 2, nil}, {2, api.Sum, -1, nil}, {2, api.Least, 2, []int{0}}, {2, api.Most, -1, []int{0}}, {40, api.Sum, 40, nil}, {2, api.Most, math.MaxInt, nil}, {2, api.Least, math.MinInt, nil}, {2, api.Sum, 1 << 32, nil},
	} {
		if g, why := New(x.wide, x.agg, x.of, x.cols...); g != nil || why != api.ErrArg {
			t.Error("New", x.wide, x.agg, x.of, len(x.cols), g, why)
		}
	}
}

// step is what comes and goes, what is to be told of it, and what is to be told behind it, of how many rows.
type step struct {
	come, told, rows string
	many             int
}

func checkSteps(t *testing.T, g *Group, l ...step) {
	t.Helper()
	for _, s := range l {
		got, why := g.Apply(changes(t, s.come)...)
		checkEntries(t, s, got, why, changes(t, s.told), api.OK)
		checkGroup(t, g, changes(t, s.rows), s.many)
	}
}

// The example of chapter 23.
func TestExample(t *testing.T) {
	checkSteps(t, groupOf(t, 2, api.Sum, 1, 0),
		step{`1:"a" 2, 1:"a" 3`, `1:"a" 5`, `1:"a" 5`, 2},
		step{`-1:"a" 2`, `1:"a" 3, -1:"a" 5`, `1:"a" 3`, 1})
}

// P23.1, P23.2: how often a group's rows are there together.
func TestCount(t *testing.T) {
	checkSteps(t, groupOf(t, 2, api.Count, 0, 0),
		step{},
		step{`1:"b" 1`, `1:"b" 1`, `1:"b" 1`, 1},
		step{`2:"a" 1, 3:"a" null, 1:"b" 1`, `1:"a" 5, -1:"b" 1, 1:"b" 2`, `1:"a" 5, 1:"b" 2`, 3},
		// A row goes once, and is there once still; another one goes for good; one comes as often as another one goes.
		step{`-1:"a" 1`, `1:"a" 4, -1:"a" 5`, `1:"a" 4, 1:"b" 2`, 3},
		step{`-3:"a" null`, `1:"a" 1, -1:"a" 4`, `1:"a" 1, 1:"b" 2`, 2},
		step{`-1:"a" 1, 1:"a" 9`, ``, `1:"a" 1, 1:"b" 2`, 2},
		// A group goes with its last row; one comes with its first.
		step{`-1:"a" 9, 1:"c" 0`, `-1:"a" 1, 1:"c" 1`, `1:"b" 2, 1:"c" 1`, 2},
		step{`-1:"c" 0, -2:"b" 1`, `-1:"b" 2, -1:"c" 1`, ``, 0},
		step{`7:"a" 9`, `1:"a" 7`, `1:"a" 7`, 1},
	)
	// Of whatever place.
	for _, of := range []int{0, 1, 2, -1, math.MaxInt, math.MinInt} {
		checkSteps(t, groupOf(t, 2, api.Count, of, 1), step{`2:1 "a", 1:2 "a", 1:1 null`, `1:null 1, 1:"a" 3`, `1:null 1, 1:"a" 3`, 3})
	}
}

// P23.1, P23.2: the sum of the Ints at a place, each as often as its row; what is none counts as 0.
func TestSum(t *testing.T) {
	checkSteps(t, groupOf(t, 2, api.Sum, 1, 0),
		step{`3:1 5, 1:1 -1, 1:2 0`, `1:1 14, 1:2 0`, `1:1 14, 1:2 0`, 3},
		step{`2:1 "7", 1:1 true, 1:1 null, 1:1 false`, ``, `1:1 14, 1:2 0`, 7},
		step{`-3:1 5, -1:1 -1`, `1:1 0, -1:1 14`, `1:1 0, 1:2 0`, 5},
		step{`-2:1 "7", -1:1 true, -1:1 null`, ``, `1:1 0, 1:2 0`, 2},
		step{`-1:1 false, 4:2 -9`, `-1:1 0, 1:2 -36, -1:2 0`, `1:2 -36`, 2},
	)
	// Of one of the group's own places.
	checkSteps(t, groupOf(t, 1, api.Sum, 0, 0), step{`3:5, 2:"x"`, `1:5 15, 1:"x" 0`, `1:5 15, 1:"x" 0`, 2})
}

// P23.1, P23.2: the first and the last value at a place, of all kinds; how often rows are there is nothing.
func TestLeastMost(t *testing.T) {
	checkSteps(t, groupOf(t, 2, api.Least, 1, 0),
		step{`1:1 5, 9:1 7, 1:2 "b"`, `1:1 5, 1:2 "b"`, `1:1 5, 1:2 "b"`, 3},
		step{`1:1 6, 1:2 "a"`, `1:2 "a", -1:2 "b"`, `1:1 5, 1:2 "a"`, 5},
		step{`-1:1 5`, `-1:1 5, 1:1 6`, `1:1 6, 1:2 "a"`, 4},
		step{`1:1 "", 1:1 true, 1:2 null`, `1:1 true, -1:1 6, 1:2 null, -1:2 "a"`, `1:1 true, 1:2 null`, 7},
		step{`-1:1 true, 1:1 false, -1:2 "a"`, `1:1 false, -1:1 true`, `1:1 false, 1:2 null`, 6},
		step{`-1:1 false, -1:1 6, -9:1 7`, `-1:1 false, 1:1 ""`, `1:1 "", 1:2 null`, 3},
		step{`-1:1 "", -1:2 null, -1:2 "b"`, `-1:1 "", -1:2 null`, ``, 0},
	)
	checkSteps(t, groupOf(t, 2, api.Most, 1, 0),
		step{`1:1 5, 9:1 7, 1:2 "b"`, `1:1 7, 1:2 "b"`, `1:1 7, 1:2 "b"`, 3},
		step{`1:1 6, 1:2 "a"`, ``, `1:1 7, 1:2 "b"`, 5},
		step{`-8:1 7`, ``, `1:1 7, 1:2 "b"`, 5},
		step{`-1:1 7`, `1:1 6, -1:1 7`, `1:1 6, 1:2 "b"`, 4},
		step{`1:1 "", 1:1 true, 1:2 null`, `-1:1 6, 1:1 ""`, `1:1 "", 1:2 "b"`, 7},
		step{`-1:1 "", -1:1 6, -1:1 5, -1:2 "a", -1:2 "b"`, `1:1 true, -1:1 "", 1:2 null, -1:2 "b"`, `1:1 true, 1:2 null`, 2},
		step{`-1:1 true, -1:2 null`, `-1:1 true, -1:2 null`, ``, 0},
	)
	// Of several rows with the same value there the others stand for it when one goes.
	for _, agg := range []int{api.Least, api.Most} {
		checkSteps(t, groupOf(t, 3, agg, 1, 0),
			step{`1:1 5 "a", 2:1 5 "b"`, `1:1 5`, `1:1 5`, 2},
			step{`-1:1 5 "a"`, ``, `1:1 5`, 1},
			step{`-1:1 5 "b"`, ``, `1:1 5`, 1},
			step{`-1:1 5 "b", 1:1 5 "c"`, ``, `1:1 5`, 1},
			step{`-1:1 5 "c"`, `-1:1 5`, ``, 0})
	}
	// Many rows that are there as often as may be, all with one value.
	g := groupOf(t, 2, api.Most, 1)
	checkEntries(t, "often", apply(t, g, numbers(0, 100, most, 7)), api.OK, changes(t, `1:7`), api.OK)
	checkEntries(t, "all but one", apply(t, g, numbers(0, 99, -most, 7)), api.OK, nil, api.OK)
	checkGroup(t, g, changes(t, `1:7`), 1)
}

// P23.1: without places all rows are one group; a place may stand there twice; places may be in any order.
func TestPlaces(t *testing.T) {
	all := `1:1 "a" null, 2:1 "b" 7, 1:2 "a" 5`
	for _, x := range []struct {
		agg, of int
		cols    []int
		told    string
	}{
		{api.Count, 0, nil, `1:4`}, {api.Sum, 2, []int{}, `1:19`}, {api.Least, 2, nil, `1:null`}, {api.Most, 1, nil, `1:"b"`},
		{api.Count, 0, []int{1}, `1:"a" 2, 1:"b" 2`}, {api.Sum, 0, []int{1}, `1:"a" 3, 1:"b" 2`}, {api.Sum, 1, []int{0}, `1:1 0, 1:2 0`},
		{api.Count, 0, []int{1, 1}, `1:"a" "a" 2, 1:"b" "b" 2`}, {api.Most, 2, []int{1, 1, 1}, `1:"a" "a" "a" 5, 1:"b" "b" "b" 7`},
		{api.Sum, 2, []int{1, 0}, `1:"a" 1 0, 1:"a" 2 5, 1:"b" 1 14`}, {api.Sum, 2, []int{0, 1}, `1:1 "a" 0, 1:1 "b" 14, 1:2 "a" 5`},
		{api.Least, 0, []int{2, 0, 1, 2}, `1:null 1 "a" null 1, 1:5 2 "a" 5 2, 1:7 1 "b" 7 1`},
	} {
		g := groupOf(t, 3, x.agg, x.of, x.cols...)
		checkSteps(t, g, step{all, x.told, x.told, 3})
		got, why := g.Apply(opposite(changes(t, all))...)
		checkEntries(t, x, got, why, opposite(changes(t, x.told)), api.OK)
		checkGroup(t, g, nil, 0)
	}
	// Values of other kinds, and texts that begin alike one behind the other, are other groups.
	one := `1:null, 1:false, 1:true, 1:-1, 1:0, 1:1, 1:"", 1:"0", 1:"a", 1:"a\x00", 1:"null"`
	told := strings.ReplaceAll(one, ",", " 1,") + " 1"
	checkSteps(t, groupOf(t, 1, api.Count, 0, 0), step{one, told, told, 11})
	checkSteps(t, groupOf(t, 2, api.Count, 0, 0, 1), step{`1:"a" "bc", 1:"ab" "c"`, `1:"a" "bc" 1, 1:"ab" "c" 1`, `1:"a" "bc" 1, 1:"ab" "c" 1`, 2})
}

// P23.1: as many cells as a row may have, and as many of them as a group may have.
func TestWide(t *testing.T) {
	var r []api.Value
	var cols []int
	for i := range 40 {
		r = append(r, value.Int(int64(i)))
		cols = append(cols, 39-i)
	}
	for many := range 40 {
		g := groupOf(t, 40, api.Most, 7, cols[:many]...)
		want, _ := row.Pick(r, append(cols[:many:many], 7)...)
		got, why := g.Apply(api.Entry{Row: r, Many: 2})
		checkEntries(t, many, got, why, []api.Entry{{Row: want, Many: 1}}, api.OK)
		checkGroup(t, g, got, 1)
	}
}

// P23.1: a row that comes twice, goes and comes, or is there 0 times, is told by the net, whose rows alone are to have so many cells.
func TestNetOfChanges(t *testing.T) {
	checkSteps(t, groupOf(t, 2, api.Sum, 1, 0),
		step{`1:1 5, 2:1 5, 0:2 7, 0:3 3`, `1:1 15`, `1:1 15`, 1},
		step{`-3:1 5, 3:1 5, -4:2 2, 4:2 2`, ``, `1:1 15`, 1},
		// To go ahead of coming is as to come first.
		step{`-1:2 2, 2:2 2, 1:1 5, -1:1 5`, `1:2 2`, `1:1 15, 1:2 2`, 2},
		step{`0:1, 1:1 5 6, -1:1 5 6, 2:, -2:`, ``, `1:1 15, 1:2 2`, 2},
		step{`-2:1 5, -1:2 2, -1:1 5`, `-1:1 15, -1:2 2`, ``, 0})
}

// P23.1: a group all of whose rows go as others come is told as the change of its aggregate; as nothing, if that stays.
func TestGoesAndComes(t *testing.T) {
	for agg, l := range map[int][]step{
		api.Count: {{`2:1 5`, `1:1 2`, `1:1 2`, 1}, {`-2:1 5, 2:1 6`, ``, `1:1 2`, 1}, {`-2:1 6, 1:1 5`, `1:1 1, -1:1 2`, `1:1 1`, 1}, {`-1:1 5, 1:2 5`, `-1:1 1, 1:2 1`, `1:2 1`, 1}},
		api.Sum:   {{`2:1 5`, `1:1 10`, `1:1 10`, 1}, {`-2:1 5, 1:1 10`, ``, `1:1 10`, 1}, {`-1:1 10, 1:1 4, 1:1 7`, `-1:1 10, 1:1 11`, `1:1 11`, 2}, {`-1:1 4, -1:1 7, 1:1 null`, `1:1 0, -1:1 11`, `1:1 0`, 1}},
		api.Least: {{`2:1 5`, `1:1 5`, `1:1 5`, 1}, {`-2:1 5, 1:1 6`, `-1:1 5, 1:1 6`, `1:1 6`, 1}, {`-1:1 6, 1:1 null, 1:1 7`, `1:1 null, -1:1 6`, `1:1 null`, 2}, {`-1:1 7, 1:1 8`, ``, `1:1 null`, 2}},
		api.Most:  {{`2:1 5`, `1:1 5`, `1:1 5`, 1}, {`-2:1 5, 1:1 6`, `-1:1 5, 1:1 6`, `1:1 6`, 1}, {`-1:1 6, 1:1 null, 1:1 7`, `-1:1 6, 1:1 7`, `1:1 7`, 2}, {`-1:1 null, 1:1 1`, ``, `1:1 7`, 2}},
	} {
		checkSteps(t, groupOf(t, 2, agg, 1, 0), l...)
	}
}

// P23.1: each error, and which comes first; with one nothing changes.
func TestRefuses(t *testing.T) {
	const full, odd = "full", "odd"
	max := strconv.Itoa(math.MaxInt64)
	sum := groupOf(t, 2, api.Sum, 1, 0)
	apply(t, sum, changes(t, `2:1 1, 1073741824:3 0, 1:4 `+max))
	count := groupOf(t, 2, api.Count, 1, 0)
	apply(t, count, changes(t, `2:1 1, 1073741824:3 0, 1:4 `+max))
	lists := map[string][]api.Entry{full: numbers(10, 1498, 1, 7), odd: {{Row: []api.Value{{Kind: 9}, {}}, Many: 1}}}
	for _, x := range []struct {
		come []string
		why  api.Errno
	}{
		// Net's errors, ahead of all others.
		{[]string{odd}, api.ErrArg}, {[]string{`1073741825:1 1`}, api.ErrOver}, {[]string{`-1073741825:1 1`}, api.ErrOver}, {[]string{`1073741824:5 5, 1:5 5, -1:5 5`}, api.ErrOver},
		{[]string{`9223372036854775807:1 1`}, api.ErrOver}, {[]string{`-9223372036854775808:1 1`}, api.ErrOver},
		{[]string{odd, `1073741825:1 1`}, api.ErrArg}, {[]string{`1073741825:1 1`, odd}, api.ErrOver},
		{[]string{`1:1`, odd}, api.ErrArg}, {[]string{`1:1, 1073741825:1 1`}, api.ErrOver}, {[]string{`1073741825:1 1, 1:1`}, api.ErrOver}, {[]string{`-3:1 1`, odd}, api.ErrArg}, {[]string{full, odd}, api.ErrArg}, {[]string{full, `1073741825:1 1`}, api.ErrOver}, {[]string{`1:3 0`, odd}, api.ErrArg},
		// A row of another width, ahead of all else.
		{[]string{`1:`}, api.ErrArg}, {[]string{`1:1`}, api.ErrArg}, {[]string{`1:1 1 1`}, api.ErrArg}, {[]string{`-1:1`}, api.ErrArg}, {[]string{`1:1 1, 1:1 2, 1:2`}, api.ErrArg},
		{[]string{`-3:1 1, 1:5`}, api.ErrArg}, {[]string{`1:5, 1:3 0`}, api.ErrArg}, {[]string{full, `1:5`}, api.ErrArg}, {[]string{`1:5 5 5, 1:4 1`}, api.ErrArg},
		// A row that would be there too few times, or too often.
		{[]string{`-3:1 1`}, api.ErrOver}, {[]string{`-1:1 2`}, api.ErrOver}, {[]string{`-1:9 9`}, api.ErrOver}, {[]string{`-1073741824:1 1`}, api.ErrOver}, {[]string{`1:3 0`}, api.ErrOver}, {[]string{`1073741824:3 0`}, api.ErrOver}, {[]string{`1073741823:1 1`}, api.ErrOver},
		{[]string{`-1:1 1, -2:1 1`}, api.ErrOver}, {[]string{`5:1 2, -1:1 3`}, api.ErrOver},
		{[]string{full, `-3:1 1`}, api.ErrOver}, {[]string{full, `1:3 0`}, api.ErrOver}, {[]string{`-3:1 1, 1:4 1`}, api.ErrOver},
		// Too many groups, and then an aggregate that does not fit.
		{[]string{full}, api.ErrFull}, {[]string{full, `1:4 1`}, api.ErrFull}, {[]string{`1073741824:3 1, 1:4 1`, full}, api.ErrFull}, {[]string{full, `-2:1 1, 1:5 5`}, api.ErrFull},
		{[]string{`1:4 1, 1073741824:4 2`}, api.ErrOver}, {[]string{full, `-2:1 1, 1:4 1, 1073741824:4 2`}, api.ErrOver},
	} {
		var l []api.Entry
		for _, s := range x.come {
			if some, is := lists[s]; is {
				l = append(l, some...)
			} else {
				l = append(l, changes(t, s)...)
			}
		}
		got, why := sum.Apply(l...)
		checkEntries(t, x, got, why, nil, x.why)
		checkGroup(t, sum, changes(t, `1:1 2, 1:3 0, 1:4 `+max), 3)
		got, why = count.Apply(l...)
		checkEntries(t, x, got, why, nil, x.why)
		checkGroup(t, count, changes(t, `1:1 2, 1:3 1073741824, 1:4 1`), 3)
	}
	// Behind what was refused all is told as it would be without it.
	got, why := sum.Apply(changes(t, `-1:1 1, 1:4 -1, 1:10 1`)...)
	checkEntries(t, "behind", got, why, changes(t, `1:1 1, -1:1 2, 1:4 9223372036854775806, -1:4 `+max+`, 1:10 1`), api.OK)
	checkGroup(t, sum, changes(t, `1:1 1, 1:3 0, 1:4 9223372036854775806, 1:10 1`), 5)
	got, why = count.Apply(changes(t, `-1:1 1, -1:3 0, 1:3 1, 1:10 1`)...)
	checkEntries(t, "behind", got, why, changes(t, `1:1 1, -1:1 2, 1:10 1`), api.OK)
	checkGroup(t, count, changes(t, `1:1 1, 1:3 1073741824, 1:4 1, 1:10 1`), 5)
}

// P23.1: rows that can not be, whatever else.
func TestWrongRows(t *testing.T) {
	for agg := api.Count; agg <= api.Most; agg++ {
		g := groupOf(t, 2, agg, 1, 0)
		apply(t, g, changes(t, `1:1 1`))
		for _, r := range wrong() {
			for _, many := range []int64{1, 0, -1, most + 1, math.MinInt64} {
				bad := api.Entry{Row: r, Many: many}
				got, why := g.Apply(bad)
				checkEntries(t, bad, got, why, nil, api.ErrArg)
				got, why = g.Apply(append(changes(t, `-1:1 1, 1:7`), bad)...)
				checkEntries(t, bad, got, why, nil, api.ErrArg)
			}
		}
		checkGroup(t, g, changes(t, `1:1 1`), 1)
	}
}

// P23.1: as many groups as may be, and one more.
func TestFull(t *testing.T) {
	for agg := api.Count; agg <= api.Most; agg++ {
		g := groupOf(t, 2, agg, 1, 0)
		all, one := numbers(0, 1500, 1, 1), numbers(5000, 1, 1, 1)
		got, why := g.Apply(all...)
		checkEntries(t, "1500", got, why, all, api.OK)
		for _, l := range [][]api.Entry{one, numbers(5000, 1<<14, 1, 1), append(numbers(0, 1, -1, 1), numbers(5000, 2, 1, 1)...), append(one, numbers(3, 1, 1, 2)...)} {
			got, why = g.Apply(l...)
			checkEntries(t, "more", got, why, nil, api.ErrFull)
			checkGroup(t, g, all, 1500)
		}
		// How many rows a group has is not what is counted.
		apply(t, g, numbers(0, 1500, 1, 2))
		apply(t, g, numbers(0, 1500, -1, 2))
		checkGroup(t, g, all, 1500)
		// Some may come as others go.
		got, why = g.Apply(append(numbers(0, 1, -1, 1), one...)...)
		checkEntries(t, "one for one", got, why, append(numbers(0, 1, -1, 1), one...), api.OK)
		got, why = g.Apply(append(numbers(1, 1499, -1, 1), numbers(6000, 1499, 1, 1)...)...)
		checkEntries(t, "all others", got, why, append(numbers(1, 1499, -1, 1), numbers(6000, 1499, 1, 1)...), api.OK)
		got, why = groupOf(t, 2, agg, 1, 0).Apply(numbers(0, 1501, 1, 1)...)
		checkEntries(t, "1501 at once", got, why, nil, api.ErrFull)
		// There may be more rows.
		g = groupOf(t, 2, agg, 0, 1)
		apply(t, g, append(numbers(1, 3000, 1, 7), numbers(1, 3000, 1, 8)...))
		n := []int64{0, 3000, 3000 * 3001 / 2, 1, 3000}[agg]
		checkGroup(t, g, append(numbers(7, 1, 1, n), numbers(8, 1, 1, n)...), 6000)
	}
}

// P23.1: aggregates that just fit, and that do not; it is nothing that they would not in between.
func TestOver(t *testing.T) {
	g := groupOf(t, 2, api.Count, 0, 0)
	checkSteps(t, g,
		step{`1073741824:1 1`, `1:1 1073741824`, `1:1 1073741824`, 1},
		step{`-1073741824:1 1, 1073741823:1 2, 1:1 3, 1073741824:2 0`, `1:2 1073741824`, `1:1 1073741824, 1:2 1073741824`, 3})
	for _, l := range []string{`1:1 1`, `1:1 3`, `1073741824:1 4`, `1:1 2, 1:5 5`, `-1:2 0, 2:2 1`} {
		got, why := g.Apply(changes(t, l)...)
		checkEntries(t, l, got, why, nil, api.ErrOver)
		checkGroup(t, g, changes(t, `1:1 1073741824, 1:2 1073741824`), 3)
	}
	max, min := strconv.Itoa(math.MaxInt64), strconv.Itoa(math.MinInt64)
	g = groupOf(t, 2, api.Sum, 1, 0)
	checkSteps(t, g,
		step{`1:1 ` + max + `, 1:2 ` + min, `1:1 ` + max + `, 1:2 ` + min, `1:1 ` + max + `, 1:2 ` + min, 2},
		step{`4:1 ` + max + `, 4:1 ` + min + `, 4:1 1`, ``, `1:1 ` + max + `, 1:2 ` + min, 4},
		step{`1073741823:3 4294967296, 2:3 2147483648, 1:3 1`, `1:3 4611686018427387905`, `1:1 ` + max + `, 1:2 ` + min + `, 1:3 4611686018427387905`, 7})
	rows := g.Rows()
	for _, l := range []string{`1:1 1`, `1:1 2, 1:9 9`, `1:2 -1`, `1073741824:1 ` + max, `-1:1 ` + min, `1073741824:3 8589934592`, `1:5 5, 1:5 ` + max, `1073741824:4 ` + min} {
		got, why := g.Apply(changes(t, l)...)
		checkEntries(t, l, got, why, nil, api.ErrOver)
		checkGroup(t, g, rows, 7)
	}
	// Of the others there is always one.
	for _, agg := range []int{api.Least, api.Most} {
		checkSteps(t, groupOf(t, 2, agg, 1, 0), step{`1073741824:1 ` + max + `, 1073741824:2 ` + min, `1:1 ` + max + `, 1:2 ` + min, `1:1 ` + max + `, 1:2 ` + min, 2})
	}
}

// P23.1, P23.2: nil, and a Group that New did not make.
func TestNil(t *testing.T) {
	var g *Group
	for _, l := range [][]api.Entry{nil, changes(t, `1:5`), changes(t, `-1:5`), changes(t, `1073741825:5`), {{Row: wrong()[0], Many: 1}}} {
		got, why := g.Apply(l...)
		checkEntries(t, l, got, why, nil, api.ErrNil)
	}
	checkGroup(t, g, nil, 0)
	zero := new(Group)
	for _, l := range [][]api.Entry{nil, changes(t, `1:5`), {{Many: 1}}, {{Many: -1}}, {{Row: wrong()[0], Many: 1}}} {
		zero.Apply(l...)
		zero.Rows()
		zero.Len()
	}
	// A nil list is an empty one.
	n := groupOf(t, 1, api.Count, 0)
	got, why := n.Apply()
	checkEntries(t, "nil", got, why, nil, api.OK)
	got, why = n.Apply([]api.Entry{}...)
	checkEntries(t, "empty", got, why, nil, api.OK)
	// Two of them have nothing to do with each other.
	apply(t, n, changes(t, `1:1`))
	checkGroup(t, groupOf(t, 1, api.Count, 0), nil, 0)
}

// Rules 4 and 5: what is handed in is neither changed nor kept, and no row that is answered is that of an argument, of another row, or of another answer.
func TestNothingShared(t *testing.T) {
	for agg := api.Count; agg <= api.Most; agg++ {
		shared := append(make([]api.Value, 0, 8), cells(t, "1 2")...)
		cols := append(make([]int, 0, 4), 0)
		g := groupOf(t, 2, agg, 1, cols...)
		if cols[:2][1] != 0 {
			t.Error("changed", cols[:2])
		}
		cols[0] = 1
		listOf := func() []api.Entry {
			return append(changes(t, `1:3 5, 1:4 7`), api.Entry{Row: shared, Many: 1}, api.Entry{Row: shared, Many: 1})
		}
		list := listOf()
		rows := changes(t, []string{``, `1:1 2, 1:3 1, 1:4 1`, `1:1 4, 1:3 5, 1:4 7`, `1:1 2, 1:3 5, 1:4 7`, `1:1 2, 1:3 5, 1:4 7`}[agg])
		spoil := func(what string, got, want []api.Entry) {
			t.Helper()
			checkEntries(t, what, got, api.OK, want, api.OK)
			for i := range got {
				_ = append(got[i].Row, value.Bool(true), value.Bool(true))
				clear(got[i].Row)
				got[i].Many = 99
				checkEntries(t, what, got[i+1:], api.OK, want[i+1:], api.OK)
			}
			_ = append(got[:0], api.Entry{})
		}
		spoil("Apply", apply(t, g, list), rows)
		if !sameEntries(list, listOf()) || !slices.Equal(shared[:8], append(cells(t, "1 2"), make([]api.Value, 6)...)) {
			t.Error("changed", list)
		}
		for _, e := range list {
			clear(e.Row)
		}
		for range 2 {
			spoil("Rows", g.Rows(), rows)
		}
		all := changes(t, `2:1 2, 1:3 5, 1:4 7`)
		spoil("all go", apply(t, g, opposite(all)), opposite(rows))
		spoil("all come", apply(t, g, all), rows)
		checkGroup(t, g, rows, 3)
	}
}
