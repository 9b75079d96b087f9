package pick

import (
	"math"
	"math/rand"
	"slices"
	"strconv"
	"strings"
	"testing"

	"verderer/api"
	"verderer/bag"
	"verderer/eval"
	"verderer/row"
	"verderer/value"
)

const most = api.MaxCount

// cells answers the row of values' words with blanks between.
func cells(t *testing.T, words string) []api.Value {
	t.Helper()
	var r []api.Value
	for _, w := range strings.Fields(words) {
		v, why := value.Read(w)
		if why != api.OK {
			t.Fatal("no value:", w)
		}
		r = append(r, v)
	}
	return r
}

// changes answers entries, each written as its values behind how often they come, and a colon.
func changes(t *testing.T, l ...string) []api.Entry {
	t.Helper()
	var out []api.Entry
	for _, s := range l {
		many, words, _ := strings.Cut(s, ":")
		n, err := strconv.ParseInt(many, 10, 64)
		if err != nil {
			t.Fatal(err)
		}
		out = append(out, api.Entry{Row: cells(t, words), Many: n})
	}
	return out
}

// numbers answers the rows of one Int, of the numbers from one on, each so many times.
func numbers(from, rows int, many int64) []api.Entry {
	var out []api.Entry
	for i := range rows {
		out = append(out, api.Entry{Row: row.Of(value.Int(int64(from + i))), Many: many})
	}
	return out
}

// wrong has rows that can not be.
func wrong() [][]api.Value {
	return [][]api.Value{
		make([]api.Value, api.MaxWide+1), make([]api.Value, 1<<16), row.Of(value.Text(strings.Repeat("x", api.MaxText+1))),
		{{Int: 7}}, {{Kind: 9}}, {{Kind: -1}}, {value.Int(0), {Kind: api.Bool, Text: "x"}}, {{Kind: api.Int, Flag: true}}, {{Kind: api.Text, Text: "a", Int: 1}},
	}
}

func is(left, op int, v api.Value) api.Cond {
	return api.Cond{Left: left, Op: op, Right: -1, Val: v}
}

func as(left, op, right int) api.Cond { return api.Cond{Left: left, Op: op, Right: right} }

func sameEntry(a, b api.Entry) bool { return a.Many == b.Many && slices.Equal(a.Row, b.Row) }

func sameEntries(a, b []api.Entry) bool { return slices.EqualFunc(a, b, sameEntry) }

func checkEntries(t *testing.T, what any, got []api.Entry, why api.Errno, want []api.Entry, wantWhy api.Errno) {
	t.Helper()
	if why != wantWhy || !sameEntries(got, want) {
		t.Errorf("%v: %v, %v, not %v, %v", what, got, why, want, wantWhy)
	}
}

// P20.1
func TestNet(t *testing.T) {
	for _, x := range []struct {
		l, want []string
		why     api.Errno
	}{
		{nil, nil, api.OK},
		{[]string{"1:5"}, []string{"1:5"}, api.OK},
		{[]string{"0:5"}, nil, api.OK},
		{[]string{"-3:"}, []string{"-3:"}, api.OK},
		{[]string{"1:5", "1:null", `2:"a"`, "-1:5 1", "1:false"}, []string{"1:null", "1:false", "1:5", "-1:5 1", `2:"a"`}, api.OK},
		{[]string{"1:5", "-1:5"}, nil, api.OK},
		{[]string{"1:5", "2:6", "-3:5", "0:7", "5:6"}, []string{"-2:5", "7:6"}, api.OK},
		{[]string{"2:5", "1:6", "-2:5"}, []string{"1:6"}, api.OK},
		{[]string{"1073741824:5"}, []string{"1073741824:5"}, api.OK},
		{[]string{"-1073741824:5"}, []string{"-1073741824:5"}, api.OK},
		{[]string{"1073741824:5", "-1:5", "1:5"}, []string{"1073741824:5"}, api.OK},
		{[]string{"-1073741824:5", "2147483648:5"}, []string{"1073741824:5"}, api.OK},
		{[]string{"1073741825:5"}, nil, api.ErrOver},
		{[]string{"-1073741825:5"}, nil, api.ErrOver},
		{[]string{"1:6", "1073741824:5", "1:5", "-1:5"}, nil, api.ErrOver},
		{[]string{"1:6", "-1073741824:5", "-1:5", "1:5"}, nil, api.ErrOver},
		{[]string{"9223372036854775807:5"}, nil, api.ErrOver},
		{[]string{"-9223372036854775808:5"}, nil, api.ErrOver},
		{[]string{"-1:5", "9223372036854775807:5"}, nil, api.ErrOver},
	} {
		got, why := Net(changes(t, x.l...)...)
		checkEntries(t, x.l, got, why, changes(t, x.want...), x.why)
	}
	// There is no bound for how many rows change.
	if got, why := Net(numbers(0, 5000, -2)...); why != api.OK || !sameEntries(got, numbers(0, 5000, -2)) {
		t.Error(len(got), why)
	}
}

// P20.1: the first error of a bag is told.
func TestNetRefuses(t *testing.T) {
	for _, r := range wrong() {
		bad := api.Entry{Row: r, Many: 1}
		for _, many := range []int64{1, 0, -1, most + 1, math.MinInt64} {
			bad.Many = many
			got, why := Net(bad)
			checkEntries(t, many, got, why, nil, api.ErrArg)
		}
		l := slices.Concat(changes(t, "1:5"), []api.Entry{bad}, changes(t, "1073741824:5"))
		got, why := Net(l...)
		checkEntries(t, "a row that can not be first", got, why, nil, api.ErrArg)
		slices.Reverse(l)
		l = append(changes(t, "1:5"), l...)
		got, why = Net(l...)
		checkEntries(t, "a row too often first", got, why, nil, api.ErrOver)
	}
}

// P20.1
func TestWhere(t *testing.T) {
	l := changes(t, `2:5 "a"`, `-1:3 "b"`, `2:5 "a"`, "0:5", "1:", "9223372036854775807:null null", `-9223372036854775808:5 5`, `-2:5 "a"`)
	for _, x := range []struct {
		conds []api.Cond
		want  []int
	}{
		{nil, []int{0, 1, 2, 3, 4, 5, 6, 7}},
		{[]api.Cond{is(0, api.Eq, value.Int(5))}, []int{0, 2, 3, 6, 7}},
		{[]api.Cond{is(0, api.Ne, value.Int(5))}, []int{1, 5}},
		{[]api.Cond{is(0, api.Lt, value.Int(5))}, []int{1, 5}},
		{[]api.Cond{is(0, api.Lt, value.Int(5)), is(0, api.Gt, value.Null())}, []int{1}},
		{[]api.Cond{is(1, api.Ge, value.Null())}, []int{0, 1, 2, 5, 6, 7}},
		{[]api.Cond{as(0, api.Eq, 1)}, []int{5, 6}},
		{[]api.Cond{as(0, api.Lt, 1)}, []int{0, 1, 2, 7}},
		{[]api.Cond{as(1, api.Gt, 0), is(0, api.Eq, value.Int(5))}, []int{0, 2, 7}},
		{[]api.Cond{as(0, api.Le, 0)}, []int{0, 1, 2, 3, 5, 6, 7}},
		{[]api.Cond{{Left: -1, Op: api.Eq, Right: -1}}, nil},
		{[]api.Cond{is(2, api.Ne, value.Int(5))}, nil},
		{[]api.Cond{as(0, api.Ne, 2)}, nil},
		{[]api.Cond{is(0, 0, value.Int(5))}, nil},
		{[]api.Cond{is(0, 7, value.Int(5))}, nil},
		{[]api.Cond{{}}, nil},
		{[]api.Cond{{Left: math.MaxInt, Op: api.Ne, Right: math.MinInt}}, nil},
		{[]api.Cond{{Op: api.Eq, Right: math.MinInt, Val: value.Int(5)}}, []int{0, 2, 3, 6, 7}},
	} {
		var want []api.Entry
		for _, i := range x.want {
			want = append(want, l[i])
		}
		checkEntries(t, x.conds, Where(l, x.conds...), api.OK, want, api.OK)
		checkEntries(t, x.conds, Where(nil, x.conds...), api.OK, nil, api.OK)
	}
	// Rows that can not be are passed on as they are.
	for _, r := range wrong() {
		one := []api.Entry{{Row: r, Many: most + 1}}
		checkEntries(t, "wrong", Where(one), api.OK, one, api.OK)
		checkEntries(t, "wrong", Where(one, as(0, api.Eq, 0)), api.OK, one, api.OK)
		checkEntries(t, "wrong", Where(one, as(0, api.Ne, 0)), api.OK, nil, api.OK)
	}
}

// P20.1
func TestTake(t *testing.T) {
	for _, x := range []struct {
		cols    []int
		l, want []string
		why     api.Errno
	}{
		{[]int{0}, nil, nil, api.OK},
		{[]int{-1, 99}, nil, nil, api.OK},
		{nil, nil, nil, api.OK},
		{[]int{0}, []string{`2:5 "a"`}, []string{"2:5"}, api.OK},
		{[]int{1, 0}, []string{`2:5 "a"`, `-1:3 "b"`}, []string{`2:"a" 5`, `-1:"b" 3`}, api.OK},
		{[]int{0}, []string{`2:5 "b"`, `-1:3 "b"`, `-2:5 "a"`}, []string{"-1:3"}, api.OK},
		{[]int{0}, []string{`2:5 "b"`, `-1:3 "b"`, `-3:5 "a"`, "1:3"}, []string{"-1:5"}, api.OK},
		{[]int{1, 1, 0, 1}, []string{"1:5 6"}, []string{"1:6 6 5 6"}, api.OK},
		{nil, []string{"1:5 6", "2:", "-1:7"}, []string{"2:"}, api.OK},
		{nil, []string{"1:5 6", "-1:7"}, nil, api.OK},
		{[]int{0}, []string{"0:5 6"}, nil, api.OK},
		{[]int{2}, []string{"1:5 6"}, nil, api.ErrArg},
		{[]int{-1}, []string{"1:5 6"}, nil, api.ErrArg},
		{[]int{0, math.MaxInt}, []string{"1:5 6"}, nil, api.ErrArg},
		{[]int{math.MinInt}, []string{"1:5 6"}, nil, api.ErrArg},
		{[]int{0}, []string{"1:5 6", "0:"}, nil, api.ErrArg},
		{[]int{1}, []string{"1:5 6", "1:7"}, nil, api.ErrArg},
		{[]int{0}, []string{"1073741823:5 6", "1:5 7"}, []string{"1073741824:5"}, api.OK},
		{[]int{0}, []string{"1073741823:5 6", "2:5 7"}, nil, api.ErrOver},
		{[]int{0}, []string{"1073741823:5 6", "2:5 7", "-1:5 6"}, nil, api.ErrOver},
		{[]int{1}, []string{"1073741823:5 6", "2:5 7"}, []string{"1073741823:6", "2:7"}, api.OK},
		{[]int{0}, []string{"-1073741825:5"}, nil, api.ErrOver},
		// A place that is not there goes ahead of a row that would come too often.
		{[]int{1}, []string{"1073741825:5 6", "1:7"}, nil, api.ErrArg},
		{make([]int, 40), []string{"1:null"}, []string{"1:" + strings.Repeat("null ", 40)}, api.OK},
		{make([]int, 41), []string{"1:null"}, nil, api.ErrArg},
	} {
		got, why := Take(changes(t, x.l...), x.cols...)
		checkEntries(t, []any{x.cols, x.l}, got, why, changes(t, x.want...), x.why)
	}
	// Cells that can be may be taken from a row that can not be.
	odd := []api.Entry{{Row: []api.Value{{Kind: 9}, value.Int(1)}, Many: 1}, {Row: make([]api.Value, 1<<16), Many: 2}}
	got, why := Take(odd, 1)
	checkEntries(t, "odd", got, why, changes(t, "2:null", "1:1"), api.OK)
	got, why = Take(odd, 0)
	checkEntries(t, "odd", got, why, nil, api.ErrArg)
}

func checkOnce(t *testing.T, o *Once, want ...api.Entry) {
	t.Helper()
	told := slices.Clone(want)
	for i, e := range want {
		if o.Many(e.Row) != e.Many {
			t.Fatal("Many", e, o.Many(e.Row))
		}
		told[i].Many = 1
	}
	if got := o.Rows(); !sameEntries(got, told) {
		t.Fatal("Rows", got, told)
	}
}

// P20.2: the example of chapter 20, and more.
func TestOnce(t *testing.T) {
	o := New()
	for _, x := range []struct{ l, told, came []string }{
		{nil, nil, nil},
		{[]string{`2:"a"`}, []string{`1:"a"`}, []string{`2:"a"`}},
		{[]string{`-1:"a"`}, nil, []string{`1:"a"`}},
		{[]string{`-1:"a"`}, []string{`-1:"a"`}, nil},
		{[]string{"3:5", `1:"b"`, "1:", "2:5"}, []string{"1:", "1:5", `1:"b"`}, []string{"1:", "5:5", `1:"b"`}},
		{[]string{"0:7", "0:5", "1:6", "-1:6"}, nil, []string{"1:", "5:5", `1:"b"`}},
		{[]string{`-1:"b"`, "-5:5", "1:5", `1:"a"`, "1:4", "-1:"}, []string{"-1:", "1:4", `1:"a"`, `-1:"b"`}, []string{"1:4", "1:5", `1:"a"`}},
		// What goes ahead of coming, in one call, is as if it had come first.
		{[]string{"-1:8", "2:8", "-1:4", "1:4"}, []string{"1:8"}, []string{"1:4", "1:5", "1:8", `1:"a"`}},
		{[]string{"1073741823:8"}, nil, []string{"1:4", "1:5", "1073741824:8", `1:"a"`}},
		{[]string{"-1073741824:8", `-1:"a"`, "-1:5", "-1:4"}, []string{"-1:4", "-1:5", "-1:8", `-1:"a"`}, nil},
	} {
		got, why := o.Apply(changes(t, x.l...)...)
		checkEntries(t, x.l, got, why, changes(t, x.told...), api.OK)
		checkOnce(t, o, changes(t, x.came...)...)
	}
	if o.Many(cells(t, "77")) != 0 {
		t.Error("a row that never came")
	}
}

// P20.2: what is refused changes nothing.
func TestOnceRefuses(t *testing.T) {
	o := New()
	came := changes(t, "2:4", "1:5", "1073741824:6")
	if _, why := o.Apply(came...); why != api.OK {
		t.Fatal(why)
	}
	bad := api.Entry{Row: wrong()[0], Many: 1}
	for _, x := range []struct {
		l   []api.Entry
		why api.Errno
	}{
		{changes(t, "1:1", "-3:4"), api.ErrOver},
		{changes(t, "-2:5"), api.ErrOver},
		{changes(t, "-1:9"), api.ErrOver},
		{changes(t, "1:1", "1:6"), api.ErrOver},
		{changes(t, "-1:5", "1073741824:4"), api.ErrOver},
		{changes(t, "-1:5", "-1:5", "1:1"), api.ErrOver},
		{changes(t, "-1073741824:5"), api.ErrOver},
		{changes(t, "-1073741824:6", "-1:7"), api.ErrOver},
		// Net's errors.
		{changes(t, "1:1", "1073741825:1"), api.ErrOver},
		{changes(t, "1:1", "9223372036854775807:5"), api.ErrOver},
		{changes(t, "1:1", "-9223372036854775808:6"), api.ErrOver},
		{append(changes(t, "1:1"), bad), api.ErrArg},
		// It is told ahead of a row that would have come too few times, or too often, and this ahead of too many rows.
		{append(changes(t, "-3:4", "1:6"), bad), api.ErrArg},
		{append(numbers(100, 1500, 1), changes(t, "-3:4")...), api.ErrOver},
		{append(numbers(100, 1500, 1), changes(t, "1:6")...), api.ErrOver},
		{append(numbers(100, 1500, 1), bad), api.ErrArg},
		{append(changes(t, "1:6"), numbers(100, 1500, 1)...), api.ErrOver},
		{append(numbers(100, 1500, 1), changes(t, "1073741824:1", "1:1")...), api.ErrOver},
		{numbers(100, 1498, 1), api.ErrFull},
		{numbers(100, 3000, most), api.ErrFull},
		{append(numbers(100, 1499, 1), changes(t, "-1:5")...), api.ErrFull},
	} {
		got, why := o.Apply(x.l...)
		checkEntries(t, len(x.l), got, why, nil, x.why)
		checkOnce(t, o, came...)
	}
	for _, r := range wrong() {
		for _, many := range []int64{1, 0, -1} {
			got, why := o.Apply(api.Entry{Row: r, Many: many})
			checkEntries(t, many, got, why, nil, api.ErrArg)
		}
		checkOnce(t, o, came...)
	}
	// What was refused is not told as if it had come.
	got, why := o.Apply(changes(t, "1:1", "-1:5")...)
	checkEntries(t, "behind", got, why, changes(t, "1:1", "-1:5"), api.OK)
}

// P20.2: as many rows as may have come, and one more.
func TestOnceFull(t *testing.T) {
	o := New()
	l := numbers(0, 1500, 1)
	got, why := o.Apply(l...)
	checkEntries(t, "1500", got, why, l, api.OK)
	checkOnce(t, o, l...)
	got, why = o.Apply(numbers(1500, 1, 1)...)
	checkEntries(t, "1501", got, why, nil, api.ErrFull)
	checkOnce(t, o, l...)
	// How often rows come is not what is counted; and one may come when another one goes.
	got, why = o.Apply(numbers(0, 1500, 4)...)
	checkEntries(t, "5", got, why, nil, api.OK)
	got, why = o.Apply(append(numbers(1500, 1, 1), numbers(0, 1, -5)...)...)
	checkEntries(t, "one for one", got, why, append(numbers(0, 1, -1), numbers(1500, 1, 1)...), api.OK)
	checkOnce(t, o, append(numbers(1, 1499, 5), numbers(1500, 1, 1)...)...)
	got, why = New().Apply(numbers(0, 1501, 1)...)
	checkEntries(t, "1501 at once", got, why, nil, api.ErrFull)
	// More changes than that may be told.
	got, why = o.Apply(append(numbers(1, 1499, -5), numbers(5000, 1499, 7)...)...)
	checkEntries(t, "all others", got, why, append(numbers(1, 1499, -1), numbers(5000, 1499, 1)...), api.OK)
}

// P20.2: nil, and a Once that New did not make.
func TestNil(t *testing.T) {
	var o *Once
	for _, l := range [][]api.Entry{nil, changes(t, "1:5"), changes(t, "-1:5"), changes(t, "1073741825:5"), {{Row: wrong()[0], Many: 1}}} {
		got, why := o.Apply(l...)
		checkEntries(t, l, got, why, nil, api.ErrNil)
	}
	if len(o.Rows()) != 0 || o.Many(nil) != 0 || o.Many(cells(t, "5")) != 0 || o.Many(wrong()[1]) != 0 {
		t.Error("Rows, Many")
	}
	zero := new(Once)
	checkOnce(t, zero)
	got, why := zero.Apply(changes(t, "2:5")...)
	checkEntries(t, "zero", got, why, changes(t, "1:5"), api.OK)
	checkOnce(t, zero, changes(t, "2:5")...)
	a, b := New(), New()
	a.Apply(changes(t, "2:5")...)
	checkOnce(t, b)
	// What is asked may be a row that can not be.
	for _, r := range wrong() {
		b.Many(r)
	}
	if a.Many([]api.Value{{Kind: api.Int, Int: 5, Text: "x"}}) != 2 {
		t.Error("a row that is the same by Compare")
	}
}

// Rules 4 and 5: what is handed in is neither changed nor kept, and no row that is answered is that of an argument, of another row, or of another answer.
func TestNothingShared(t *testing.T) {
	shared := append(make([]api.Value, 0, 8), cells(t, "1 2")...)
	entries := func() []api.Entry {
		return append(changes(t, "1:3 4", "1:5 6"), api.Entry{Row: shared, Many: 1}, api.Entry{Row: shared, Many: 1})
	}
	o := New()
	for what, f := range map[string]func(l []api.Entry) []api.Entry{
		"Where": func(l []api.Entry) []api.Entry { return Where(l, as(0, api.Ne, 1)) },
		"Take":  func(l []api.Entry) []api.Entry { out, _ := Take(l, 0, 1); return out },
		"Net":   func(l []api.Entry) []api.Entry { out, _ := Net(l...); return out },
		"Apply": func(l []api.Entry) []api.Entry { out, _ := New().Apply(l...); return out },
		"Rows":  func(l []api.Entry) []api.Entry { o.Apply(l...); return o.Rows() },
	} {
		l := entries()
		got, want := f(l), f(l)
		if len(want) < 3 || !sameEntries(got, want) {
			t.Fatal(what, want)
		}
		for i := range got {
			_ = append(got[i].Row, value.Bool(true), value.Bool(true))
			clear(got[i].Row)
			got[i].Many = 99
			for k := i + 1; k < len(got); k++ {
				if !sameEntry(got[k], want[k]) {
					t.Fatal(what, "rows share", i, k)
				}
			}
		}
		_ = append(got[:0], api.Entry{})
		if !sameEntries(l, entries()) || !slices.Equal(shared[:8], append(cells(t, "1 2"), make([]api.Value, 6)...)) {
			t.Error(what, "changed", l)
		}
		if again := f(l); !sameEntries(again, want) {
			t.Error(what, "an answer shares", again, want)
		}
	}
	// A Once keeps rows of its own.
	o = New()
	l := []api.Entry{{Row: shared, Many: 1}}
	told, _ := o.Apply(l...)
	told[0].Row[0] = value.Int(8)
	shared[0] = value.Int(9)
	checkOnce(t, o, changes(t, "1:1 2")...)
	conds, cols := []api.Cond{as(0, api.Ne, 1)}, []int{1, 0}
	Where(l, conds...)
	Take(l, cols...)
	if conds[0] != as(0, api.Ne, 1) || !slices.Equal(cols, []int{1, 0}) {
		t.Error("conditions, places")
	}
}

// model is how often each row came, as a list.
type model []api.Entry

func (m *model) add(l ...api.Entry) {
	for _, e := range l {
		i := slices.IndexFunc(*m, func(x api.Entry) bool { return slices.Equal(x.Row, e.Row) })
		if i < 0 {
			i = len(*m)
			*m = append(*m, api.Entry{Row: e.Row})
		}
		(*m)[i].Many += e.Many
	}
}

// entries are in order; none of 0.
func (m model) entries() []api.Entry {
	out := slices.DeleteFunc(slices.Clone(m), func(e api.Entry) bool { return e.Many == 0 })
	slices.SortFunc(out, func(a, b api.Entry) int { return row.Compare(a.Row, b.Row) })
	return out
}

func (m model) many(r []api.Value) int64 {
	for _, e := range m {
		if slices.Equal(e.Row, r) {
			return e.Many
		}
	}
	return 0
}

func (m model) below() bool {
	return slices.ContainsFunc(m, func(e api.Entry) bool { return e.Many < 0 })
}

func randomChanges(r *rand.Rand) []api.Entry {
	some := []api.Value{value.Null(), value.Bool(false), value.Int(1), value.Int(2), value.Text("a")}
	var out []api.Entry
	for range r.Intn(6) {
		e := api.Entry{Many: int64(r.Intn(5) - 2)}
		for range 1 + r.Intn(2) {
			e.Row = append(e.Row, some[r.Intn(len(some))])
		}
		out = append(out, e)
	}
	return out
}

// P20.1: against a reading of its own, and against what plans tell of rows that only come.
func TestByDefinition(t *testing.T) {
	r := rand.New(rand.NewSource(1))
	for range 5000 {
		l := randomChanges(r)
		var m, taken model
		m.add(l...)
		got, why := Net(l...)
		checkEntries(t, l, got, why, m.entries(), api.OK)
		for _, e := range l {
			taken.add(api.Entry{Row: row.Of(e.Row[0], e.Row[0]), Many: e.Many})
		}
		got, why = Take(l, 0, 0)
		checkEntries(t, l, got, why, taken.entries(), api.OK)
		var held []api.Entry
		c := api.Cond{Left: r.Intn(3) - 1, Op: r.Intn(8), Right: r.Intn(3) - 1, Val: value.Int(1)}
		for _, e := range l {
			if eval.Holds(e.Row, c) {
				held = append(held, e)
			}
		}
		checkEntries(t, l, Where(l, c), api.OK, held, api.OK)
	}
}

func told(t *testing.T, n *api.Node, l []api.Entry) []api.Entry {
	t.Helper()
	out, why := eval.Eval(n, eval.Rel{Name: "a", Rows: l})
	if why != api.OK {
		t.Fatal(l, why)
	}
	return out
}

// P20.1, P20.2: rows that come, and nothing else, are passed on as a plan tells them.
func TestAsPlansTell(t *testing.T) {
	r := rand.New(rand.NewSource(1))
	scan := &api.Node{Kind: api.Scan, Name: "a", Wide: 2}
	c := is(1, api.Ge, value.Int(1))
	for range 3000 {
		var l []api.Entry
		for _, e := range randomChanges(r) {
			if len(e.Row) == 2 && e.Many > 0 {
				l = append(l, e)
			}
		}
		got, why := Net(Where(l, c)...)
		checkEntries(t, l, got, why, told(t, &api.Node{Kind: api.Where, Conds: []api.Cond{c}, Left: scan}, l), api.OK)
		got, why = Take(l, 1)
		checkEntries(t, l, got, why, told(t, &api.Node{Kind: api.Take, Cols: []int{1}, Left: scan}, l), api.OK)
		o := New()
		got, why = o.Apply(l...)
		checkEntries(t, l, got, why, told(t, &api.Node{Kind: api.Once, Left: scan}, l), api.OK)
		checkEntries(t, l, o.Rows(), api.OK, got, api.OK)
	}
}

// P20.2 to P20.4: along many changes a Once is what a list would be; all that it told, together, is Rows; and changes that come, and go again, leave it as it was.
func TestAlong(t *testing.T) {
	r := rand.New(rand.NewSource(1))
	refused := map[api.Errno]int{}
	for range 200 {
		o, all := New(), bag.New()
		var m model
		for range 40 {
			l := randomChanges(r)
			next := slices.Clone(m)
			next.add(l...)
			got, why := o.Apply(l...)
			refused[why]++
			if next.below() {
				checkEntries(t, l, got, why, nil, api.ErrOver)
			} else {
				checkEntries(t, l, got, why, toldBy(m, next), api.OK)
				undone(t, o, l, got)
				m = next
			}
			for _, e := range got {
				all.Add(e.Row, e.Many)
			}
			checkOnce(t, o, m.entries()...)
			if !sameEntries(all.Rows(), o.Rows()) {
				t.Fatal(all.Rows(), o.Rows())
			}
		}
	}
	if refused[api.OK] < 1000 || refused[api.ErrOver] < 1000 {
		t.Error(refused)
	}
}

// toldBy answers what is told when what was becomes what is.
func toldBy(was, is model) []api.Entry {
	var out []api.Entry
	for _, e := range is.entries() {
		if was.many(e.Row) == 0 {
			out = append(out, api.Entry{Row: e.Row, Many: 1})
		}
	}
	for _, e := range was.entries() {
		if is.many(e.Row) == 0 {
			out = append(out, api.Entry{Row: e.Row, Many: -1})
		}
	}
	slices.SortFunc(out, func(a, b api.Entry) int { return row.Compare(a.Row, b.Row) })
	return out
}

// undone has changes go again, which tells the opposite, and come once more, which tells the same.
func undone(t *testing.T, o *Once, l, was []api.Entry) {
	t.Helper()
	opposite := func(l []api.Entry) []api.Entry {
		out := slices.Clone(l)
		for i := range out {
			out[i].Many = -out[i].Many
		}
		return out
	}
	got, why := o.Apply(opposite(l)...)
	checkEntries(t, "back", got, why, opposite(was), api.OK)
	got, why = o.Apply(l...)
	checkEntries(t, "again", got, why, was, api.OK)
}

// P6: rows, numbers and places of any kind.
func TestAnything(t *testing.T) {
	r := rand.New(rand.NewSource(1))
	o, bad := New(), wrong()
	odd := func() int {
		return []int{r.Intn(4), r.Intn(4), -1, int(r.Uint64()), math.MaxInt, math.MinInt}[r.Intn(6)]
	}
	for range 20000 {
		l := randomChanges(r)
		for i := range l {
			if r.Intn(3) == 0 {
				l[i].Many = int64(odd())
			}
			if r.Intn(6) == 0 {
				l[i].Row = bad[r.Intn(len(bad))]
			}
		}
		Where(l, api.Cond{Left: odd(), Op: odd(), Right: odd(), Val: api.Value{Kind: odd()}})
		if got, why := Take(l, odd(), odd()); why != api.OK && len(got) > 0 {
			t.Fatal(got, why)
		}
		if got, why := Net(l...); why != api.OK && len(got) > 0 {
			t.Fatal(got, why)
		}
		was := o.Rows()
		if got, why := o.Apply(l...); why != api.OK && (len(got) > 0 || !sameEntries(o.Rows(), was)) {
			t.Fatal(got, why)
		}
	}
	many := numbers(0, 1<<17, 1)
	if got := Where(many, is(0, api.Lt, value.Int(3))); len(got) != 3 {
		t.Error(got)
	}
	if got, why := Take(many); why != api.OK || !sameEntries(got, changes(t, "131072:")) {
		t.Error(got, why)
	}
}
