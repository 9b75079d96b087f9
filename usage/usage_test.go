package usage

import (
	"fmt"
	"math"
	"slices"
	"strings"
	"testing"

	"verderer/api"
	"verderer/row"
	"verderer/tenant"
	"verderer/value"
)

// told is what a quota's rule tells of a tenant.
func told(name string, n int64) api.Entry { return entry(value.Text(name), value.Int(n)) }

func entry(cells ...api.Value) api.Entry { return api.Entry{Row: cells, Many: 1} }

// treeOf makes a tree of tenants, each written as its name, and behind a colon its parent, if it has one.
func treeOf(t *testing.T, l ...string) *tenant.Tree {
	t.Helper()
	tree := tenant.New()
	for _, s := range l {
		name, parent, _ := strings.Cut(s, ":")
		if why := tree.Add(name, parent); why != api.OK {
			t.Fatal("Add", s, why)
		}
	}
	return tree
}

// brief is the beginning of what there is to tell, as some lists are long.
func brief(l ...any) string {
	s := fmt.Sprintf("%q", l)
	return s[:min(len(s), 400)]
}

// used is how much a tenant uses.
type used struct {
	name string
	n    int64
}

// checkOf holds what each tenant uses against what it is to use, and the rest of a Use against what is handed in.
func checkOf(t *testing.T, tree *tenant.Tree, l []api.Entry, want ...used) {
	t.Helper()
	for rule, limit := range map[string]int64{"q": 7, "": 0, "any rule\xff": math.MinInt64, "cpu": math.MaxInt64} {
		var uses []api.Use
		for _, x := range want {
			uses = append(uses, api.Use{Rule: rule, Tenant: x.name, Used: x.n, Limit: limit})
		}
		if got, why := Of(rule, limit, tree, l...); !slices.Equal(got, uses) || why != api.OK {
			t.Error("Of", brief(rule, limit, tree.All()), brief(l), "is", brief(got, why), "not", brief(uses))
		}
	}
}

func checkRefused(t *testing.T, tree *tenant.Tree, want api.Errno, l ...api.Entry) {
	t.Helper()
	if got, why := Of("q", 7, tree, l...); len(got) != 0 || why != want {
		t.Error("Of", brief(tree.All()), brief(l), "is", brief(got, why), "not", want)
	}
}

func checkOwn(t *testing.T, name string, n int64, is bool, l ...api.Entry) {
	t.Helper()
	if got, there := Own(name, l...); got != n || there != is {
		t.Error("Own", brief(name), brief(l), "is", got, there, "not", n, is)
	}
}

// The example of chapter 27.
func TestExample(t *testing.T) {
	checkOf(t, treeOf(t, "a", "b:a"), []api.Entry{told("a", 2), told("b", 3)}, used{"a", 5}, used{"b", 3})
}

// P27.1
func TestOwn(t *testing.T) {
	checkOwn(t, "a", 0, false)
	checkOwn(t, "a", 0, false, []api.Entry{}...)
	for _, n := range []int64{0, 1, -1, 20, math.MaxInt64, math.MinInt64} {
		checkOwn(t, "a", n, true, told("a", n))
		checkOwn(t, "b", n, true, told("a", 3), told("b", n), told("c", 4))
		// The first row of a tenant counts, also if it tells 0.
		checkOwn(t, "b", n, true, told("a", 3), told("b", n), told("b", 4), told("b", n))
	}
	// A name is just that name, of whatever bytes.
	names := []string{"", "a", "A", "aa", "a ", " a", "a\x00", "\xff", "tenant", strings.Repeat("a", api.MaxText), strings.Repeat("a", api.MaxText+1), strings.Repeat("a", 1<<16)}
	for i, name := range names {
		for k, other := range names {
			n := int64(k + 1)
			if i != k {
				n = 0
			}
			checkOwn(t, name, n, i == k, told(other, int64(k+1)))
		}
	}
	// How often a row is there is not asked.
	for _, many := range []int64{0, 1, -1, 2, api.MaxCount, math.MaxInt64, math.MinInt64} {
		e := told("a", 5)
		e.Many = many
		checkOwn(t, "a", 5, true, e, told("a", 6))
	}
}

// P27.1: rows that can not count, and one behind them that does.
func TestOwnSkips(t *testing.T) {
	a, five := value.Text("a"), value.Int(5)
	for _, r := range [][]api.Value{
		nil, {}, {a}, {five}, {a, five, five}, {a, five, value.Null()}, {a, a, five}, {five, a}, {a, a}, {five, five}, {value.Null(), five, a, five}, slices.Repeat([]api.Value{a, five}, 20),
		// The first cell is no Text, is Null, has another field that is not zero, or is of another name.
		{value.Null(), five}, {value.Bool(true), five}, {value.Bool(false), five}, {{Text: "a"}, five}, {{Kind: api.Bool, Text: "a"}, five}, {{Kind: api.Int, Text: "a"}, five}, {{Kind: 4, Text: "a"}, five}, {{Kind: -1, Text: "a"}, five},
		{{Kind: api.Text, Text: "a", Flag: true}, five}, {{Kind: api.Text, Text: "a", Int: 1}, five}, {{Kind: api.Text, Text: "a", Int: -1}, five}, {{Kind: api.Text, Text: "a", Int: math.MinInt64, Flag: true}, five}, {value.Text(""), five}, {value.Text("b"), five}, {value.Text("aa"), five},
		// The second cell is no Int.
		{a, value.Null()}, {a, value.Bool(true)}, {a, value.Bool(false)}, {a, value.Text("5")}, {a, value.Text("")}, {a, {Int: 5}}, {a, {Kind: api.Bool, Int: 5}}, {a, {Kind: api.Text, Int: 5}}, {a, {Kind: 4, Int: 5}}, {a, {Kind: -2, Int: 5}}, {a, {Kind: math.MinInt, Int: 5}},
	} {
		e := entry(r...)
		checkOwn(t, "a", 0, false, e)
		checkOwn(t, "a", 0, false, e, e, told("b", 1))
		checkOwn(t, "a", 7, true, e, told("a", 7))
		checkOwn(t, "a", 7, true, told("a", 7), e)
		checkOf(t, treeOf(t, "a", "c:a"), []api.Entry{e, told("c", 1), e}, used{"a", 1}, used{"c", 1})
		checkOf(t, treeOf(t, "a", "c:a"), []api.Entry{e, told("c", 1), told("a", 7), told("a", 8)}, used{"a", 8}, used{"c", 1})
	}
	// Of the second cell the Kind alone is asked.
	for _, v := range []api.Value{{Kind: api.Int, Int: 5, Text: "a"}, {Kind: api.Int, Int: 5, Flag: true}, {Kind: api.Int, Int: 5, Flag: true, Text: "\xff"}} {
		checkOwn(t, "a", 5, true, entry(a, v), told("a", 6))
	}
}

// P27.1: each row of one or two cells whose fields are of a few sorts.
func TestOwnAll(t *testing.T) {
	var cells []api.Value
	for kind := -1; kind <= 4; kind++ {
		for _, flag := range []bool{false, true} {
			for _, n := range []int64{0, 1, -7} {
				for _, text := range []string{"", "a", "b"} {
					cells = append(cells, api.Value{Kind: kind, Flag: flag, Int: n, Text: text})
				}
			}
		}
	}
	counted := 0
	for _, first := range cells {
		checkOwn(t, "a", 0, false, entry(first))
		named := first.Kind == 3 && !first.Flag && first.Int == 0 && first.Text == "a"
		for _, second := range cells {
			var want int64
			is := named && second.Kind == 2
			if is {
				want = second.Int
				counted++
			}
			checkOwn(t, "a", want, is, entry(first, second))
		}
	}
	if counted != 18 {
		t.Error(counted)
	}
}

// P27.1: a tree that is nil, and those without tenants.
func TestOfNoTenants(t *testing.T) {
	for _, l := range [][]api.Entry{nil, {}, {told("a", 2), told("b", 3)}, {told("a", math.MaxInt64), told("a", math.MaxInt64)}, {{}}} {
		checkRefused(t, nil, api.ErrNil, l...)
		checkOf(t, tenant.New(), l)
		checkOf(t, new(tenant.Tree), l)
	}
	// Its tenants came, and went.
	tree := treeOf(t, "a", "b:a")
	tree.Drop("b")
	checkOf(t, tree, []api.Entry{told("a", 2), told("b", 3)}, used{"a", 2})
	tree.Drop("a")
	checkOf(t, tree, []api.Entry{told("a", 2), told("b", 3)})
}

// P27.1: tenants several levels deep, by rising names, however they came and whatever the rows' order is.
func TestOfDeep(t *testing.T) {
	l := []api.Entry{told("x", 1000), told("e", 16), told("d", 8), told("b", 2), told("a", 1), told("c", 4), told("z", 32), told("y1", 64), told("y", 128)}
	checkOf(t, treeOf(t, "e", "d:e", "c:d", "b:c", "a:b"), l, used{"a", 1}, used{"b", 3}, used{"c", 7}, used{"d", 15}, used{"e", 31})
	checkOf(t, treeOf(t, "a", "b:a", "c:b", "d:c", "e:d"), l, used{"a", 31}, used{"b", 30}, used{"c", 28}, used{"d", 24}, used{"e", 16})
	slices.Reverse(l)
	checkOf(t, treeOf(t, "z", "c:z", "a:c", "d:a", "b:c", "e:z"), l, used{"a", 9}, used{"b", 2}, used{"c", 15}, used{"d", 8}, used{"e", 16}, used{"z", 63})
	// Names rise byte by byte: a digit, an underscore, a letter.
	checkOf(t, treeOf(t, "y", "ya", "y_", "y1:ya"), l, used{"y", 128}, used{"y1", 64}, used{"y_", 0}, used{"ya", 64})
	// One that is moved takes with it what those under it use.
	tree := treeOf(t, "a", "b:a", "c:b", "d")
	checkOf(t, tree, l, used{"a", 7}, used{"b", 6}, used{"c", 4}, used{"d", 8})
	if why := tree.Move("b", "d"); why != api.OK {
		t.Fatal("Move", why)
	}
	checkOf(t, tree, l, used{"a", 1}, used{"b", 6}, used{"c", 4}, used{"d", 14})
}

// P27.1: tenants of whom no row speaks, rows of names that are no tenants, several of one name.
func TestOfRows(t *testing.T) {
	tree := treeOf(t, "a", "b:a", "c:b", "d")
	checkOf(t, tree, nil, used{"a", 0}, used{"b", 0}, used{"c", 0}, used{"d", 0})
	checkOf(t, tree, []api.Entry{told("c", 5)}, used{"a", 5}, used{"b", 5}, used{"c", 5}, used{"d", 0})
	checkOf(t, tree, []api.Entry{told("a", 5)}, used{"a", 5}, used{"b", 0}, used{"c", 0}, used{"d", 0})
	checkOf(t, tree, []api.Entry{told("x", 5), told("", 6), told("A", 7), told("b", 1), told("\xff", 8), told("tenant", math.MaxInt64)}, used{"a", 1}, used{"b", 1}, used{"c", 0}, used{"d", 0})
	checkOf(t, tree, []api.Entry{told("b", 1), told("b", 10), told("c", 0), told("c", 100), told("d", -1), told("b", 1), told("d", 1000)}, used{"a", 1}, used{"b", 1}, used{"c", 0}, used{"d", -1})
	// How often a row is there is not asked: it counts once.
	three, gone := told("c", 5), told("b", 2)
	three.Many, gone.Many = 3, -1
	checkOf(t, tree, []api.Entry{three, gone}, used{"a", 7}, used{"b", 7}, used{"c", 5}, used{"d", 0})
	// Numbers below 0.
	checkOf(t, tree, []api.Entry{told("a", 3), told("b", -5), told("c", 1), told("d", math.MinInt64)}, used{"a", -1}, used{"b", -4}, used{"c", 1}, used{"d", math.MinInt64})
	// As many tenants as there may be, and as many rows.
	var names []string
	var l []api.Entry
	want := []used{{"a", 0}}
	for i := range api.MaxTenants - 1 {
		names = append(names, fmt.Sprintf("t%02d:a", i))
		l = append(l, told(names[i][:3], int64(i)))
		want = append(want, used{names[i][:3], int64(i)})
		want[0].n += int64(i)
	}
	checkOf(t, treeOf(t, append([]string{"a"}, names...)...), append(slices.Repeat([]api.Entry{told("b", 1)}, 1<<16), l...), want...)
}

// P27.1: sums at the ends of 64 bits, and beyond.
func TestOfOver(t *testing.T) {
	const high, low = math.MaxInt64, math.MinInt64
	tree := treeOf(t, "a", "b:a", "c:b", "d:a")
	fits := func(a, b, c, d int64, want ...int64) {
		t.Helper()
		checkOf(t, tree, []api.Entry{told("a", a), told("b", b), told("c", c), told("d", d)}, used{"a", want[0]}, used{"b", want[1]}, used{"c", want[2]}, used{"d", want[3]})
	}
	over := func(a, b, c, d int64) {
		t.Helper()
		checkRefused(t, tree, api.ErrOver, told("a", a), told("b", b), told("c", c), told("d", d))
	}
	fits(0, 0, high, 0, high, high, high, 0)
	fits(0, 0, low, 0, low, low, low, 0)
	fits(high-3, 1, 1, 1, high, 2, 1, 1)
	fits(low+3, -1, -1, -1, low, -2, -1, -1)
	// All parts fit, and the uses of those below; the whole does not, or that of one in the middle.
	over(high-2, 1, 1, 1)
	over(low+2, -1, -1, -1)
	over(1, 0, 0, high)
	over(-1, 0, 0, low)
	over(0, 0, high, 1)
	over(high, high, high, high)
	over(low, low, low, low)
	over(-1, high, 1, 0)
	over(1, low, -1, 0)
	// That of b does not fit, though that of a, in which it stands, does.
	over(-5, high, 2, -5)
	over(5, low, -2, 5)
	// On the way, in whatever order, it is beyond the range; the whole fits.
	fits(high, low, high, low, -2, -1, high, low)
	fits(low, high, 0, high, high-1, high, 0, high)
	fits(high, 0, low, high, high-1, low, low, high)
	fits(low, low, high, high, -2, -1, high, high)
	wide := treeOf(t, "a", "b:a", "c:a", "d:a", "e:a")
	checkOf(t, wide, []api.Entry{told("a", high), told("b", high), told("c", high), told("d", low), told("e", low)}, used{"a", high - 2}, used{"b", high}, used{"c", high}, used{"d", low}, used{"e", low})
	checkOf(t, wide, []api.Entry{told("a", low), told("b", low), told("c", high), told("d", high), told("e", -6)}, used{"a", -8}, used{"b", low}, used{"c", high}, used{"d", high}, used{"e", -6})
	// What does not fit of tenants that stand apart, or are not there, is not told.
	checkOf(t, treeOf(t, "b", "a"), []api.Entry{told("a", high), told("b", high), told("c", high)}, used{"a", high}, used{"b", high})
	// The last one is refused, and so are all: nothing is told of those ahead.
	checkRefused(t, treeOf(t, "a", "b", "z", "y:z"), api.ErrOver, told("a", 1), told("z", high), told("y", 1))
}

// P27.1
func TestFind(t *testing.T) {
	a, b := api.Use{Rule: "q", Tenant: "a", Used: 3, Limit: 5}, api.Use{Rule: "q", Tenant: "b", Used: 4, Limit: 5}
	other, twice := api.Use{Rule: "r", Tenant: "a", Used: 6, Limit: 7}, api.Use{Rule: "q", Tenant: "a", Used: 8, Limit: 9}
	for _, x := range []struct {
		rule, name string
		l          []api.Use
		want       api.Use
		there      bool
	}{
		{"q", "a", nil, api.Use{}, false},
		{"", "", nil, api.Use{}, false},
		{"q", "a", []api.Use{a}, a, true},
		{"q", "a", []api.Use{other, b, a}, a, true},
		{"q", "b", []api.Use{a, other, b}, b, true},
		{"r", "a", []api.Use{a, twice, b, other}, other, true},
		// The first one, of two of the same Rule and Tenant.
		{"q", "a", []api.Use{b, a, twice}, a, true},
		{"q", "a", []api.Use{other, twice, a}, twice, true},
		// Another Rule, another Tenant, both the other way round.
		{"q", "a", []api.Use{other, b}, api.Use{}, false},
		{"r", "b", []api.Use{a, b, other, twice}, api.Use{}, false},
		{"a", "q", []api.Use{a, b, other, twice}, api.Use{}, false},
		{"Q", "a", []api.Use{a}, api.Use{}, false},
		{"q", "", []api.Use{a}, api.Use{}, false},
		{"", "a", []api.Use{a}, api.Use{}, false},
		{"qa", "", []api.Use{a, {Rule: "", Tenant: "qa", Used: 1}}, api.Use{}, false},
		{"\xff", "\x00", []api.Use{a, {Rule: "\xff", Tenant: "\x00", Used: math.MinInt64, Limit: math.MaxInt64}}, api.Use{Rule: "\xff", Tenant: "\x00", Used: math.MinInt64, Limit: math.MaxInt64}, true},
		{"", "", []api.Use{a, {}}, api.Use{}, true},
		{"", "", []api.Use{{Used: -3}, {}}, api.Use{Used: -3}, true},
	} {
		if got, there := Find(x.rule, x.name, x.l...); got != x.want || there != x.there {
			t.Errorf("Find(%q, %q, %v): %v, %v, not %v, %v", x.rule, x.name, x.l, got, there, x.want, x.there)
		}
	}
	// What Of tells is found.
	uses, _ := Of("q", 5, treeOf(t, "a", "b:a"), told("a", 2), told("b", 3))
	if got, there := Find("q", "b", uses...); !there || got != (api.Use{Rule: "q", Tenant: "b", Used: 3, Limit: 5}) {
		t.Error("b", got, there)
	}
}

// Rules 3 to 5: what is handed in stays as it is, and is not kept; what is answered is shared with nothing.
func TestNothingShared(t *testing.T) {
	tree := treeOf(t, "a", "b:a", "c:b")
	all := []api.Entry{told("b", 3), told("a", 2), told("c", 1), told("z", 9)}
	l, was, tenants := all[:3], fmt.Sprint(all), fmt.Sprint(tree.All())
	want := []api.Use{{Rule: "q", Tenant: "a", Used: 6, Limit: 7}, {Rule: "q", Tenant: "b", Used: 4, Limit: 7}, {Rule: "q", Tenant: "c", Used: 1, Limit: 7}}
	stays := func(what string) {
		t.Helper()
		if fmt.Sprint(all) != was || fmt.Sprint(tree.All()) != tenants {
			t.Error(what, all, tree.All())
		}
	}
	first, _ := Of("q", 7, tree, l...)
	second, _ := Of("q", 7, tree, l...)
	Own("a", l...)
	stays("asked")
	clear(first)
	_ = append(first[:1], api.Use{Rule: "more"}, api.Use{}, api.Use{}, api.Use{})
	if third, _ := Of("q", 7, tree, l...); !slices.Equal(second, want) || !slices.Equal(third, want) {
		t.Error("spoilt", second, third)
	}
	stays("spoilt")
	checkRefused(t, tree, api.ErrOver, told("a", math.MaxInt64), told("b", 1))
	stays("refused")
	// What was answered does not go with the tree, nor with the rows.
	tree.Move("b", "")
	tree.Drop("c")
	l[1] = told("a", 100)
	l[0].Row[1] = row.Of(value.Int(50))[0]
	if !slices.Equal(second, want) {
		t.Error("kept", second)
	}
	checkOf(t, tree, l, used{"a", 100}, used{"b", 50})
	uses := slices.Clone(want)
	Find("q", "c", uses[:2]...)
	if !slices.Equal(uses, want) {
		t.Error("Find", uses)
	}
}

// P6: nil things, many rows, long names.
func TestEnds(t *testing.T) {
	long := strings.Repeat("a", 1<<20)
	many := append(slices.Repeat([]api.Entry{{}, told("z", 1), entry(nil...)}, 1<<17), told(long, 1), told("a", 5))
	checkOwn(t, "a", 5, true, many...)
	checkOwn(t, long, 1, true, many...)
	checkOwn(t, long+"a", 0, false, many...)
	tree := treeOf(t, "a", "b:a", "c:b", "d:c", "e:d")
	checkOf(t, tree, many, used{"a", 5}, used{"b", 0}, used{"c", 0}, used{"d", 0}, used{"e", 0})
	uses, why := Of(long, -1, tree, told("a", 5))
	if got, there := Find(long, "a", uses...); why != api.OK || !there || got != (api.Use{Rule: long, Tenant: "a", Used: 5, Limit: -1}) {
		t.Error(there, why)
	}
	if got, there := Find(long, "a", slices.Repeat([]api.Use{{Rule: long, Tenant: "b"}, {}}, 1<<10)...); there || got != (api.Use{}) {
		t.Error(got, there)
	}
	checkRefused(t, nil, api.ErrNil, many...)
}
