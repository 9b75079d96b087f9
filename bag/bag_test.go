package bag

import (
	"math"
	"math/rand"
	"reflect"
	"slices"
	"strings"
	"testing"

	"verderer/api"
	"verderer/row"
	"verderer/value"
)

const most = api.MaxCount

func n(i int64) []api.Value { return row.Of(value.Int(i)) }

func text(s string) []api.Value { return row.Of(value.Text(s)) }

// inOrder has rows that can be, each ahead of the next.
func inOrder() [][]api.Value {
	return [][]api.Value{
		{}, {{}}, {{}, {}}, make([]api.Value, api.MaxWide), {{}, value.Int(0)},
		{value.Bool(false)}, {value.Bool(true)}, {value.Bool(true), value.Text("a")},
		n(math.MinInt64), n(-1), n(0), {value.Int(0), {}}, n(1), n(math.MaxInt64),
		text(""), text("\x00"), text("a"), {value.Text("a"), value.Int(5)}, text("a\x00"), text("b"), text(strings.Repeat("b", api.MaxText)), text("\xff"),
	}
}

// wrong has rows that can not be.
func wrong() [][]api.Value {
	return [][]api.Value{
		make([]api.Value, api.MaxWide+1), make([]api.Value, 1<<16), text(strings.Repeat("x", api.MaxText+1)),
		{{Int: 7}}, {{Kind: 9}}, {{Kind: -1}}, {value.Int(0), {Kind: api.Bool, Text: "x"}}, {{Kind: api.Int, Flag: true}}, {{Kind: api.Text, Text: "a", Int: 1}},
	}
}

// sameAs has, by places in inOrder, rows that can not be, but are the same as the one there by Compare.
func sameAs() map[int][]api.Value {
	return map[int][]api.Value{1: {{Int: 7, Text: "x"}}, 5: {{Kind: api.Bool, Int: 3}}, 10: {{Kind: api.Int, Flag: true}}, 16: {{Kind: api.Text, Text: "a", Int: 1}}}
}

func entry(r []api.Value, many int64) api.Entry { return api.Entry{Row: r, Many: many} }

// of makes a bag of entries that are not refused.
func of(t *testing.T, l ...api.Entry) *Bag {
	t.Helper()
	b, why := Of(l...)
	if b == nil || why != api.OK {
		t.Fatal("Of", l, why)
	}
	return b
}

func sameEntries(a, b []api.Entry) bool {
	return slices.EqualFunc(a, b, func(x, y api.Entry) bool { return slices.Equal(x.Row, y.Row) && x.Many == y.Many })
}

// model is a bag as a list without any order.
type model []api.Entry

func (m *model) add(r []api.Value, many int64) {
	for i, e := range *m {
		if slices.Equal(e.Row, r) {
			(*m)[i].Many += many
			return
		}
	}
	*m = append(*m, entry(r, many))
}

func (m model) rows() []api.Entry {
	var out []api.Entry
	for _, e := range m {
		if e.Many != 0 {
			out = append(out, e)
		}
	}
	slices.SortFunc(out, func(a, b api.Entry) int { return row.Compare(a.Row, b.Row) })
	return out
}

// check holds all that a bag answers against the rows that are to be in it.
func check(t *testing.T, b *Bag, want []api.Entry) {
	t.Helper()
	if got := b.Rows(); !sameEntries(got, want) {
		t.Fatal("Rows", got, want)
	}
	if b.Len() != len(want) {
		t.Fatal("Len", b.Len(), want)
	}
	checkEnds(t, b, want)
	for _, r := range inOrder() {
		at, there := slices.BinarySearchFunc(want, r, func(e api.Entry, r []api.Value) int { return row.Compare(e.Row, r) })
		many := int64(0)
		if there {
			many = want[at].Many
		}
		if b.Many(r) != many {
			t.Fatal("Many", r, b.Many(r), many)
		}
		got, why := b.From(r)
		if at == len(want) && (why != api.ErrNone || len(got) != 0) || at < len(want) && (why != api.OK || !slices.Equal(got, want[at].Row)) {
			t.Fatal("From", r, got, why, want)
		}
	}
	checkTree(t, b.root)
}

func checkEnds(t *testing.T, b *Bag, want []api.Entry) {
	t.Helper()
	least, why := b.Least()
	last, whyLast := b.Most()
	if len(want) == 0 {
		if why != api.ErrNone || whyLast != api.ErrNone || len(least)+len(last) != 0 {
			t.Fatal("ends of none", least, why, last, whyLast)
		}
		return
	}
	if why != api.OK || !slices.Equal(least, want[0].Row) || whyLast != api.OK || !slices.Equal(last, want[len(want)-1].Row) {
		t.Fatal("ends", least, why, last, whyLast)
	}
}

// checkTree answers how high the tree is, and sees to its sizes, its balance, and that no row is there 0 times.
func checkTree(t *testing.T, n *tree) int {
	t.Helper()
	if n == nil {
		return 0
	}
	if n.size != n.low.len()+1+n.high.len() || n.Many == 0 {
		t.Fatal("node", n.size, n.Many)
	}
	if n.low.weight() > maxLean*n.high.weight() || n.high.weight() > maxLean*n.low.weight() {
		t.Fatal("balance", n.low.weight(), n.high.weight())
	}
	return 1 + max(checkTree(t, n.low), checkTree(t, n.high))
}

func TestRowsOfTests(t *testing.T) {
	l := inOrder()
	for i, r := range l {
		if !row.Right(r) || i > 0 && row.Compare(l[i-1], r) != -1 {
			t.Error("not in order", i, r)
		}
	}
	for i, r := range sameAs() {
		if row.Right(r) || row.Compare(l[i], r) != 0 {
			t.Error("not the same", i, r)
		}
	}
	for _, r := range wrong() {
		if row.Right(r) {
			t.Error("can be", r)
		}
	}
}

// P5.1
func TestNew(t *testing.T) {
	check(t, New(), nil)
	check(t, new(Bag), nil)
	check(t, of(t), nil)
	check(t, of(t, []api.Entry{}...), nil)
	a, b := New(), New()
	a.Add(n(1), 1)
	check(t, b, nil)
}

// P5.1
func TestAdd(t *testing.T) {
	b := New()
	for _, x := range []struct {
		r    []api.Value
		many int64
		want []api.Entry
	}{
		{text("b"), 2, []api.Entry{entry(text("b"), 2)}},
		{text("a"), 1, []api.Entry{entry(text("a"), 1), entry(text("b"), 2)}},
		{text("b"), -2, []api.Entry{entry(text("a"), 1)}},
		{text("c"), 0, []api.Entry{entry(text("a"), 1)}},
		{text("a"), 0, []api.Entry{entry(text("a"), 1)}},
		{text("a"), -3, []api.Entry{entry(text("a"), -2)}},
		{nil, -1, []api.Entry{entry(nil, -1), entry(text("a"), -2)}},
		{[]api.Value{}, 5, []api.Entry{entry(nil, 4), entry(text("a"), -2)}},
		{nil, -4, []api.Entry{entry(text("a"), -2)}},
		{text("a"), 2, nil},
		{text("a"), -most, []api.Entry{entry(text("a"), -most)}},
		{text("a"), 2 * most, []api.Entry{entry(text("a"), most)}},
		{text("a"), -most, nil},
	} {
		if why := b.Add(x.r, x.many); why != api.OK {
			t.Fatal(x.r, x.many, why)
		}
		check(t, b, x.want)
	}
}

// P5.1: at the bounds, and beyond them; what is refused changes nothing.
func TestAddBounds(t *testing.T) {
	for _, was := range []int64{0, 1, -1, 2, most - 1, most, 1 - most, -most} {
		for _, many := range []int64{0, 1, -1, most - 1, most, most + 1, 1 - most, -most, -most - 1, 2*most - 1, 2 * most, 2*most + 1, -2 * most, -2*most - 1, math.MaxInt64, math.MinInt64, math.MaxInt64 - most, math.MinInt64 + most, 1 << 62} {
			b := of(t, entry(text("a"), 7), entry(text("b"), was), entry(text("c"), -7))
			m := model{entry(text("a"), 7), entry(text("b"), was), entry(text("c"), -7)}
			fits := -most-was <= many && many <= most-was
			want := api.OK
			if fits {
				m.add(text("b"), many)
			} else {
				want = api.ErrOver
			}
			if why := b.Add(text("b"), many); why != want {
				t.Error(was, many, why)
			}
			check(t, b, m.rows())
		}
	}
}

// P5.1: a row that can not be is refused, however often; this is told ahead of a number that can not be.
func TestAddWrong(t *testing.T) {
	b := of(t, entry(n(1), 1), entry([]api.Value{{}}, 2))
	was := b.Rows()
	for _, r := range wrong() {
		for _, many := range []int64{1, 0, -1, most + 1, math.MinInt64} {
			if why := b.Add(r, many); why != api.ErrArg {
				t.Error(r, many, why)
			}
			if _, why := Of(entry(r, many)); why != api.ErrArg {
				t.Error("Of", r, many, why)
			}
		}
	}
	for _, r := range sameAs() {
		if why := b.Add(r, 1); why != api.ErrArg {
			t.Error(r, why)
		}
	}
	check(t, b, was)
}

// P5.1
func TestOf(t *testing.T) {
	check(t, of(t, entry(n(2), 3), entry(n(1), most), entry(n(2), -3), entry(n(3), 0)), []api.Entry{entry(n(1), most)})
	for _, x := range []struct {
		l   []api.Entry
		why api.Errno
	}{
		{[]api.Entry{entry(n(1), 1), entry(n(1), most)}, api.ErrOver},
		{[]api.Entry{entry(n(1), most+1), entry(n(1), -1)}, api.ErrOver},
		{[]api.Entry{entry(n(1), -most), entry(n(1), -1), entry(wrong()[0], 1)}, api.ErrOver},
		{[]api.Entry{entry(wrong()[0], 1), entry(n(1), most+1)}, api.ErrArg},
		{[]api.Entry{entry(n(1), 1), entry(n(2), 1), entry(wrong()[3], 0)}, api.ErrArg},
	} {
		if b, why := Of(x.l...); b != nil || why != x.why {
			t.Error(x.l, b, why)
		}
	}
	// One after the other: a bag may pass through what is at the bounds.
	check(t, of(t, entry(n(1), most), entry(n(1), -1), entry(n(1), 1)), []api.Entry{entry(n(1), most)})
}

// P5.1 to P5.3
func TestNil(t *testing.T) {
	var b *Bag
	for _, r := range append(wrong(), inOrder()...) {
		if why := b.Add(r, most+1); why != api.ErrNil {
			t.Error("Add", why)
		}
		if b.Many(r) != 0 {
			t.Error("Many")
		}
		if got, why := b.From(r); len(got) != 0 || why != api.ErrNil {
			t.Error("From", got, why)
		}
	}
	if b.Len() != 0 || len(b.Rows()) != 0 || b.Copy() != nil {
		t.Error("Len, Rows, Copy")
	}
	if got, why := b.Least(); len(got) != 0 || why != api.ErrNil {
		t.Error("Least", got, why)
	}
	if got, why := b.Most(); len(got) != 0 || why != api.ErrNil {
		t.Error("Most", got, why)
	}
	for _, times := range []int64{0, 1, most + 1, math.MinInt64} {
		if b.Merge(New(), times) != api.ErrNil || b.Merge(nil, times) != api.ErrNil || New().Merge(nil, times) != api.ErrNil {
			t.Error("Merge", times)
		}
	}
	one := of(t, entry(nil, 1))
	if !Same(nil, nil) || !Same(nil, New()) || !Same(New(), nil) || Same(nil, one) || Same(one, nil) {
		t.Error("Same")
	}
}

// P5.2: what is asked may not be a row that can be: Compare tells.
func TestAskWrong(t *testing.T) {
	l := inOrder()
	b := New()
	for i, r := range l {
		b.Add(r, int64(i+1))
	}
	for i, r := range sameAs() {
		if b.Many(r) != int64(i+1) {
			t.Error("Many", r, b.Many(r))
		}
		if got, why := b.From(r); why != api.OK || !slices.Equal(got, l[i]) {
			t.Error("From", r, got, why)
		}
	}
	if got, why := b.From([]api.Value{{Kind: -1}}); why != api.OK || !slices.Equal(got, l[1]) {
		t.Error("below all kinds", got, why)
	}
	for _, r := range [][]api.Value{{{Kind: 4}}, {{Kind: math.MaxInt64}, {}}, text("\xff\x00"), text(strings.Repeat("\xff", 1000))} {
		if got, why := b.From(r); why != api.ErrNone || len(got) != 0 || b.Many(r) != 0 {
			t.Error("behind all", r, got, why)
		}
	}
	for _, r := range [][]api.Value{make([]api.Value, api.MaxWide+1), make([]api.Value, 1<<20)} {
		if got, why := b.From(r); why != api.OK || !slices.Equal(got, l[4]) || b.Many(r) != 0 {
			t.Error("wide", got, why)
		}
	}
}

// P5.2
func TestFrom(t *testing.T) {
	b := of(t, entry(n(10), 1), entry(n(20), -1), entry(n(30), 5))
	for _, x := range []struct {
		r    []api.Value
		want []api.Value
	}{
		{nil, n(10)}, {n(9), n(10)}, {n(10), n(10)}, {[]api.Value{value.Int(10), {}}, n(20)}, {n(11), n(20)}, {n(20), n(20)}, {n(21), n(30)}, {n(30), n(30)},
	} {
		if got, why := b.From(x.r); why != api.OK || !slices.Equal(got, x.want) {
			t.Error(x.r, got, why)
		}
	}
	if got, why := b.From(n(31)); why != api.ErrNone || len(got) != 0 {
		t.Error(got, why)
	}
}

// anyEntries has rows that are few enough to come again often.
func anyEntries(r *rand.Rand, many int64) []api.Entry {
	l := inOrder()
	out := make([]api.Entry, r.Intn(40))
	for i := range out {
		out[i] = entry(l[r.Intn(len(l))], r.Int63n(2*many+1)-many)
	}
	return out
}

// P5.1 and P5.2: along many changes the bag is what a list would be.
func TestAlong(t *testing.T) {
	r := rand.New(rand.NewSource(1))
	for range 60 {
		b, m := New(), model{}
		for _, e := range slices.Concat(anyEntries(r, 2), anyEntries(r, 1), anyEntries(r, 1000)) {
			if why := b.Add(e.Row, e.Many); why != api.OK {
				t.Fatal(e, why)
			}
			m.add(e.Row, e.Many)
			check(t, b, m.rows())
		}
	}
}

// In whatever order rows come and go, the tree stays low.
func TestManyRows(t *testing.T) {
	const rows = 5000
	orders := map[string]func(i int64) int64{
		"rising":  func(i int64) int64 { return i },
		"falling": func(i int64) int64 { return rows - 1 - i },
		"apart":   func(i int64) int64 { return i * 7919 % rows },
		"inwards": func(i int64) int64 {
			if i%2 == 0 {
				return i / 2
			}
			return rows - 1 - i/2
		},
	}
	for name, at := range orders {
		for back, from := range orders {
			b := New()
			for i := range int64(rows) {
				b.Add(n(at(i)), i+1)
			}
			if high := checkTree(t, b.root); b.Len() != rows || high > 30 {
				t.Fatal(name, b.Len(), high)
			}
			for i := range int64(rows) {
				if b.Many(n(at(i))) != i+1 {
					t.Fatal(name, i)
				}
			}
			for i := range int64(rows) {
				b.Add(n(from(i)), -b.Many(n(from(i))))
				if b.Len() != int(rows-1-i) {
					t.Fatal(name, back, i, b.Len())
				}
				if i%499 == 0 {
					checkTree(t, b.root)
				}
			}
			check(t, b, nil)
		}
	}
}

// P5.3
func TestMerge(t *testing.T) {
	a, b := entry(text("a"), 2), entry(text("b"), -3)
	for _, x := range []struct {
		b, o  []api.Entry
		times int64
		want  []api.Entry
	}{
		{nil, nil, 1, nil},
		{[]api.Entry{a, b}, nil, 5, []api.Entry{a, b}},
		{nil, []api.Entry{a, b}, 1, []api.Entry{a, b}},
		{nil, []api.Entry{a, b}, 0, nil},
		{[]api.Entry{a}, []api.Entry{a, b}, 0, []api.Entry{a}},
		{[]api.Entry{a, b}, []api.Entry{a, b}, -1, nil},
		{[]api.Entry{a}, []api.Entry{a, b}, -2, []api.Entry{entry(text("a"), -2), entry(text("b"), 6)}},
		{nil, []api.Entry{entry(n(1), 1), entry(n(2), -1)}, most, []api.Entry{entry(n(1), most), entry(n(2), -most)}},
		{nil, []api.Entry{entry(n(1), 1), entry(n(2), -1)}, -most, []api.Entry{entry(n(1), -most), entry(n(2), most)}},
		{[]api.Entry{entry(n(1), most)}, []api.Entry{entry(n(1), -2)}, most, []api.Entry{entry(n(1), -most)}},
		{[]api.Entry{entry(n(1), -most)}, []api.Entry{entry(n(1), most)}, 2, []api.Entry{entry(n(1), most)}},
	} {
		got, o := of(t, x.b...), of(t, x.o...)
		if why := got.Merge(o, x.times); why != api.OK {
			t.Error(x, why)
		}
		check(t, got, x.want)
		check(t, o, of(t, x.o...).Rows())
	}
}

// P5.3: what is refused changes nothing, though other rows would have come first.
func TestMergeRefuses(t *testing.T) {
	for _, x := range []struct {
		many, of, times int64
		why             api.Errno
	}{
		{1, 1, most + 1, api.ErrArg}, {1, 1, -most - 1, api.ErrArg}, {1, 1, math.MaxInt64, api.ErrArg}, {1, 1, math.MinInt64, api.ErrArg}, {most, most, 1 << 40, api.ErrArg},
		{1, 1, most, api.ErrOver}, {-1, 1, -most, api.ErrOver}, {most, 1, 1, api.ErrOver}, {-most, -1, 1, api.ErrOver}, {-most, 1, -1, api.ErrOver},
		{0, 2, most, api.ErrOver}, {0, most, most, api.ErrOver}, {5, -most, most, api.ErrOver}, {5, -most, -most, api.ErrOver},
		{most, -3, most, api.ErrOver},
	} {
		b := of(t, entry(n(1), 1), entry(n(5), x.many), entry(n(8), -1))
		o := of(t, entry(n(0), 1), entry(n(1), -1), entry(n(5), x.of), entry(n(9), 1))
		was, other := b.Rows(), o.Rows()
		if why := b.Merge(o, x.times); why != x.why {
			t.Error(x, why)
		}
		check(t, b, was)
		check(t, o, other)
	}
	// An argument that can not be is told though there is nothing to merge.
	if why := New().Merge(New(), most+1); why != api.ErrArg {
		t.Error(why)
	}
}

// P5.3: a bag may be merged with itself.
func TestMergeItself(t *testing.T) {
	l := []api.Entry{entry(n(1), 2), entry(n(2), -3), entry(n(3), most/2)}
	b := of(t, l...)
	if why := b.Merge(b, 1); why != api.OK {
		t.Error(why)
	}
	check(t, b, []api.Entry{entry(n(1), 4), entry(n(2), -6), entry(n(3), most)})
	if why := b.Merge(b, 1); why != api.ErrOver {
		t.Error(why)
	}
	check(t, b, []api.Entry{entry(n(1), 4), entry(n(2), -6), entry(n(3), most)})
	if why := b.Merge(b, -1); why != api.OK {
		t.Error(why)
	}
	check(t, b, nil)
}

// P5.3: a copy and what it was made of go their own ways.
func TestCopy(t *testing.T) {
	b := of(t, entry(n(1), 1), entry(n(2), 2), entry(n(3), 3))
	was := b.Rows()
	c := b.Copy()
	if c == b {
		t.Error("one bag")
	}
	check(t, c, was)
	b.Add(n(2), -2)
	b.Add(n(9), 1)
	b.Merge(b, 2)
	check(t, c, was)
	now := b.Rows()
	c.Add(n(1), 5)
	c.Add(n(3), -3)
	check(t, b, now)
	check(t, new(Bag).Copy(), nil)
}

// P5.3
func TestSame(t *testing.T) {
	l := [][]api.Entry{
		nil, {entry(nil, 1)}, {entry(nil, -1)}, {entry(n(1), 1)}, {entry(n(1), 2)}, {entry(n(2), 1)}, {entry(n(1), 1), entry(n(2), 1)}, {entry(n(1), 1), entry(n(2), 2)}, {entry(n(1), 1), entry(n(3), 1)}, {entry(text("1"), 1)},
	}
	for i, x := range l {
		for k, y := range l {
			if Same(of(t, x...), of(t, y...)) != (i == k) {
				t.Error(x, y)
			}
		}
	}
	b := of(t, l[6]...)
	if !Same(b, b) || !Same(b, b.Copy()) {
		t.Error("with itself")
	}
}

// P5.4
func TestAnyOrder(t *testing.T) {
	r := rand.New(rand.NewSource(2))
	for range 300 {
		l := anyEntries(r, 3)
		first := of(t, l...)
		for range 5 {
			r.Shuffle(len(l), func(i, k int) { l[i], l[k] = l[k], l[i] })
			b := of(t, l...)
			if !Same(first, b) || !sameEntries(first.Rows(), b.Rows()) {
				t.Fatal("another order, another bag", l)
			}
		}
	}
}

// P5.3 and P5.5
func TestMergeBack(t *testing.T) {
	r := rand.New(rand.NewSource(3))
	for range 300 {
		b, o := of(t, anyEntries(r, 5)...), of(t, anyEntries(r, 5)...)
		was, m := b.Rows(), model(b.Rows())
		times := r.Int63n(2001) - 1000
		for _, e := range o.Rows() {
			m.add(e.Row, e.Many*times)
		}
		if why := b.Merge(o, times); why != api.OK {
			t.Fatal(why)
		}
		check(t, b, m.rows())
		if why := b.Merge(o, -times); why != api.OK {
			t.Fatal(why)
		}
		check(t, b, was)
	}
}

// Rules 4 and 5: a row that is handed in is neither kept nor changed, and none that is answered is the bag's own.
func TestNothingShared(t *testing.T) {
	r, key := row.Of(value.Int(1), value.Text("x")), n(1)
	entries := []api.Entry{entry(r, 2), entry(n(2), 1)}
	b := of(t, entries...)
	added := n(3)
	b.Add(added, 1)
	o := of(t, entry(n(4), 1))
	b.Merge(o, 1)
	want := []api.Entry{entry(row.Of(value.Int(1), value.Text("x")), 2), entry(n(2), 1), entry(n(3), 1), entry(n(4), 1)}
	b.From(key)
	b.Many(key)
	if !reflect.DeepEqual(r, want[0].Row) || !slices.Equal(key, n(1)) || !slices.Equal(added, n(3)) || !sameEntries(entries, want[:2]) {
		t.Error("changed")
	}
	r[0], added[0], entries[1].Row[0], entries[0].Many = value.Int(9), value.Int(9), value.Int(9), 9
	check(t, b, want)
	for _, told := range o.Rows() {
		told.Row[0] = value.Int(9)
	}
	c := b.Copy()
	for _, bags := range []*Bag{b, c} {
		rows := bags.Rows()
		for i, e := range rows {
			_ = append(e.Row, value.Int(8))
			e.Row[0], rows[i].Many = value.Int(9), 9
		}
		least, _ := bags.Least()
		last, _ := bags.Most()
		from, _ := bags.From(n(2))
		for _, got := range [][]api.Value{least, last, from} {
			_ = append(got, value.Int(8))
			got[0] = value.Int(9)
		}
	}
	check(t, b, want)
	check(t, c, want)
}

// Rows of one answer share no memory: what is appended to one is not seen in the next.
func TestRowsApart(t *testing.T) {
	b := of(t, entry(nil, 1), entry(n(1), 1), entry([]api.Value{value.Int(1), {}}, 1), entry(n(2), 1))
	rows := b.Rows()
	for i := range rows {
		rows[i].Row = append(rows[i].Row, value.Text("more"))
	}
	for i, e := range b.Rows() {
		if !slices.Equal(rows[i].Row, append(e.Row, value.Text("more"))) {
			t.Error(i, rows[i])
		}
	}
}
