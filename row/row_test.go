package row

import (
	"cmp"
	"math"
	"reflect"
	"slices"
	"strings"
	"testing"

	"verderer/api"
	"verderer/value"
)

// odd can not be, and Compare of it and null is 0.
var odd = api.Value{Int: 7}

// inOrder has rows, each ahead of the next.
func inOrder() [][]api.Value {
	n, a, b, x := value.Null(), value.Int(1), value.Int(2), value.Text("x")
	return [][]api.Value{
		{}, {n}, {n, n}, {n, x}, {value.Bool(true)},
		{a}, {a, n}, {a, n, x}, {a, a}, {a, b}, {a, x}, {a, x, n}, {b}, {b, a}, {x}, {x, n}, {x, x}, {{Kind: 9}},
	}
}

// P2.1
func TestOf(t *testing.T) {
	if len(Of()) != 0 {
		t.Error("none", Of())
	}
	l := []api.Value{value.Int(1), odd, {Kind: -3}, value.Int(1)}
	r := Of(l...)
	if !reflect.DeepEqual(r, l) {
		t.Error(r)
	}
	l[0] = value.Int(5)
	if r[0] != value.Int(1) {
		t.Error("kept")
	}
}

// P2.1
func TestRight(t *testing.T) {
	full := make([]api.Value, api.MaxWide)
	for _, r := range [][]api.Value{nil, {}, full, {value.Text(strings.Repeat("x", 60))}, {value.Null(), value.Bool(true), value.Int(math.MinInt64)}} {
		if !Right(r) {
			t.Error("can be", r)
		}
	}
	last := slices.Clone(full)
	last[api.MaxWide-1] = odd
	for _, r := range [][]api.Value{make([]api.Value, 41), make([]api.Value, 1000), last, {odd}, {odd, value.Int(1)}, {value.Int(1), {Kind: 4}}, {value.Text(strings.Repeat("x", 61))}} {
		if Right(r) {
			t.Error("can not be", r)
		}
	}
}

// P2.1
func TestCompare(t *testing.T) {
	l := inOrder()
	for i, a := range l {
		for k, b := range l {
			if Compare(a, b) != cmp.Compare(i, k) || Same(a, b) != (i == k) {
				t.Error(a, b, Compare(a, b))
			}
		}
	}
	if Compare(nil, []api.Value{}) != 0 || !Same(nil, nil) || Compare(nil, l[1]) != -1 || Compare(l[1], nil) != 1 {
		t.Error("nil")
	}
	// What can not be is held against others as value.Compare says.
	if Compare(Of(odd), Of(value.Null())) != 0 || !Same(Of(odd), Of(value.Null())) || Compare(Of(odd, value.Int(1)), Of(value.Null(), value.Int(2))) != -1 {
		t.Error("odd")
	}
	wide := make([]api.Value, 5000)
	if Compare(wide, wide[1:]) != 1 || !Same(wide, make([]api.Value, 5000)) {
		t.Error("wide")
	}
}

// P2.2
func TestPick(t *testing.T) {
	r := Of(value.Int(5), value.Bool(true), value.Null())
	for _, x := range []struct {
		cols []int
		want []api.Value
	}{
		{[]int{2, 0}, Of(value.Null(), value.Int(5))},
		{[]int{0, 1, 2}, r},
		{[]int{1, 1, 1, 1}, Of(r[1], r[1], r[1], r[1])},
		{[]int{0}, Of(r[0])},
		{nil, nil},
	} {
		if p, e := Pick(r, x.cols...); e != api.OK || !slices.Equal(p, x.want) {
			t.Error(x.cols, p, e)
		}
	}
	for _, cols := range [][]int{{3}, {-1}, {0, 3}, {3, 0}, {0, 1, 2, -1}, {math.MinInt64}, {math.MaxInt64}} {
		if p, e := Pick(r, cols...); e != api.ErrArg || len(p) != 0 {
			t.Error(cols, p, e)
		}
	}
	if p, e := Pick(nil); e != api.OK || len(p) != 0 {
		t.Error("nothing of nothing", p, e)
	}
	if p, e := Pick(nil, 0); e != api.ErrArg || len(p) != 0 {
		t.Error("no cell", p, e)
	}
	if p, e := Pick(make([]api.Value, 100), make([]int, 300)...); e != api.OK || len(p) != 300 {
		t.Error("wide", len(p), e)
	}
}

// P2.2
func TestJoin(t *testing.T) {
	a, b := Of(value.Int(1), value.Int(2)), Of(odd)
	for _, x := range []struct {
		l    [][]api.Value
		want []api.Value
	}{
		{nil, nil},
		{[][]api.Value{nil, {}, nil}, nil},
		{[][]api.Value{a}, a},
		{[][]api.Value{a, nil, b, a}, Of(value.Int(1), value.Int(2), odd, value.Int(1), value.Int(2))},
		{[][]api.Value{b, a}, Of(odd, value.Int(1), value.Int(2))},
	} {
		if r := Join(x.l...); !slices.Equal(r, x.want) {
			t.Error(x.l, r)
		}
	}
}

// P2.2
func TestPairs(t *testing.T) {
	a, b := Of(value.Int(1), value.Text("x"), value.Null()), Of(value.Text("x"), value.Int(1), odd)
	for _, x := range []struct {
		l    []api.Pair
		want bool
	}{
		{nil, true},
		{[]api.Pair{{Left: 0, Right: 1}}, true},
		{[]api.Pair{{Left: 0, Right: 1}, {Left: 1, Right: 0}, {Left: 0, Right: 1}}, true},
		{[]api.Pair{{Left: 2, Right: 2}}, true}, // by Compare, though one of them can not be
		{[]api.Pair{{Left: 0, Right: 0}}, false},
		{[]api.Pair{{Left: 1, Right: 0}, {Left: 0, Right: 2}}, false},
		{[]api.Pair{{Left: 0, Right: 2}, {Left: 1, Right: 0}}, false},
		{[]api.Pair{{Left: 3, Right: 0}}, false},
		{[]api.Pair{{Left: 0, Right: 3}}, false},
		{[]api.Pair{{Left: -1, Right: 1}}, false},
		{[]api.Pair{{Left: 0, Right: -1}}, false},
		{[]api.Pair{{Left: 0, Right: 1}, {Left: math.MaxInt64, Right: math.MinInt64}}, false},
	} {
		if Pairs(a, b, x.l...) != x.want {
			t.Error(x.l)
		}
	}
	if Pairs(a, nil, api.Pair{}) || Pairs(nil, a, api.Pair{}) || Pairs(nil, nil, api.Pair{}) || !Pairs(nil, nil) {
		t.Error("nil")
	}
}

// P2.3
func TestSort(t *testing.T) {
	want := inOrder()
	for turn := range want {
		var l [][]api.Value
		for i := range want { // 5 and 18 have no common factor: each row comes, in another order for each turn
			l = append(l, want[(i*5+turn)%len(want)], want[(i*7+turn)%len(want)])
		}
		if got := Sort(l...); !slices.EqualFunc(got, want, slices.Equal[[]api.Value]) {
			t.Error(turn, got)
		}
	}
	if len(Sort()) != 0 || len(Sort(nil, []api.Value{}, nil)) != 1 {
		t.Error("nil")
	}
}

// P2.3: of rows whose Compare is 0 the first one stays, in lists short and long.
func TestSortFirst(t *testing.T) {
	n := value.Null()
	if l := Sort(Of(odd), Of(n)); len(l) != 1 || l[0][0] != odd {
		t.Error(l)
	}
	if l := Sort(Of(n), Of(odd)); len(l) != 1 || l[0][0] != n {
		t.Error(l)
	}
	var l [][]api.Value
	for i := range int64(900) {
		l = append(l, Of(value.Int(i%3), api.Value{Int: i}))
	}
	got := Sort(l...)
	if len(got) != 3 {
		t.Fatal(len(got))
	}
	for i, r := range got {
		if r[0] != value.Int(int64(i)) || r[1].Int != int64(i) {
			t.Error(i, r)
		}
	}
}

// P2.4
func TestOneOrder(t *testing.T) {
	l := append(inOrder(), nil, Of(odd), Of(odd, odd), Of(value.Int(1), odd), Of(api.Value{Kind: -1}))
	for _, a := range l {
		for _, b := range l {
			ab := Compare(a, b)
			if ab != -Compare(b, a) || ab < -1 || ab > 1 {
				t.Error("both ways", a, b)
			}
			for _, c := range l {
				if bc := Compare(b, c); ab <= 0 && bc <= 0 && Compare(a, c) != min(ab, bc) {
					t.Error("three", a, b, c)
				}
			}
		}
	}
}

// P2.5
func TestWhole(t *testing.T) {
	for _, r := range append(inOrder(), Of(odd), make([]api.Value, 60)) {
		var cols []int
		var pairs []api.Pair
		for i := range r {
			cols = append(cols, i)
			pairs = append(pairs, api.Pair{Left: i, Right: i})
		}
		if p, e := Pick(r, cols...); e != api.OK || !slices.Equal(p, r) {
			t.Error("Pick", r, p, e)
		}
		if !Pairs(r, r, pairs...) {
			t.Error("Pairs", r)
		}
	}
}

// Rules 4 and 5: what is handed in is not changed, and shares nothing with what is answered.
func TestNothingShared(t *testing.T) {
	fresh := func() [][]api.Value {
		l := [][]api.Value{make([]api.Value, 2, 8), make([]api.Value, 1, 8), make([]api.Value, 2, 8)}
		l[0][0], l[1][0], l[2][1] = value.Int(4), value.Int(3), value.Text("z")
		return l
	}
	l := fresh()
	cols := []int{1, 0}
	calls := []func() [][]api.Value{
		func() [][]api.Value { return [][]api.Value{Of(l[0]...)} },
		func() [][]api.Value { p, _ := Pick(l[0], cols...); return [][]api.Value{p} },
		func() [][]api.Value { return [][]api.Value{Join(l...)} },
		func() [][]api.Value { return [][]api.Value{Join(l[0])} },
		func() [][]api.Value { return [][]api.Value{Join(l[0], nil)} },
		func() [][]api.Value { return Sort(l...) },
		func() [][]api.Value { return Sort(l[0], l[0]) },
	}
	for i, call := range calls {
		want := call()
		for at, r := range call() {
			for k := range r {
				r[k] = value.Text("written")
			}
			_ = append(r, value.Text("behind"))
			if again := call(); !slices.Equal(again[at], want[at]) {
				t.Error("seen later", i, again)
			}
		}
		if !reflect.DeepEqual(l, fresh()) || cols[0] != 1 || cols[1] != 0 {
			t.Error("changed", i, l)
		}
		for _, r := range l {
			if behind := r[:8]; slices.Contains(behind, value.Text("behind")) {
				t.Error("appended", i)
			}
		}
	}
	one := Sort(l...)
	_ = append(one[0], value.Text("behind"))
	one[0][0] = value.Text("written")
	if slices.Contains(one[1], value.Text("written")) || slices.Contains(one[1], value.Text("behind")) {
		t.Error("rows of one answer share")
	}
}
