package graph

import (
	"math"
	"slices"
	"strings"
	"testing"

	"verderer/api"
	"verderer/shape"
)

// plans answers the plans of keys.
func plans(t *testing.T, keys ...string) []*api.Node {
	t.Helper()
	var out []*api.Node
	for _, key := range keys {
		n, why := shape.Read(key)
		if why != api.OK {
			t.Fatal("no key:", key)
		}
		out = append(out, n)
	}
	return out
}

func keysOf(l []*api.Node) []string {
	var out []string
	for _, n := range l {
		out = append(out, shape.Key(n))
	}
	return out
}

func sameKeys(l []*api.Node, keys ...string) bool { return slices.Equal(keysOf(l), keys) }

// set holds plans that may be held, and answers the keys of what comes and of what goes.
func set(t *testing.T, g *Graph, l ...*api.Node) (come, gone []string) {
	t.Helper()
	in, out, why := g.Set(l...)
	if why != api.OK {
		t.Fatal("Set", keysOf(l), why)
	}
	return keysOf(in), keysOf(out)
}

// told is what is to be told of a part.
type told struct {
	key   string
	uses  int
	users []string
}

func checkGraph(t *testing.T, g *Graph, want ...told) {
	t.Helper()
	var keys []string
	for _, x := range want {
		keys = append(keys, x.key)
		if !g.Has(x.key) || g.Uses(x.key) != x.uses || !slices.Equal(g.Users(x.key), x.users) {
			t.Fatalf("%s: %v, %d, %q, not %d, %q", x.key, g.Has(x.key), g.Uses(x.key), g.Users(x.key), x.uses, x.users)
		}
	}
	if !sameKeys(g.Parts(), keys...) || g.Len() != len(want) {
		t.Fatalf("Parts: %q, Len: %d, not %q", keysOf(g.Parts()), g.Len(), keys)
	}
}

// deep answers a plan of so many nodes, one on the other.
func deep(name string, nodes int) *api.Node {
	n := &api.Node{Kind: api.Scan, Name: name, Wide: 1}
	for range nodes - 1 {
		n = &api.Node{Kind: api.Once, Left: n}
	}
	return n
}

// The example of chapter 24.
func TestExample(t *testing.T) {
	g := New()
	come, gone := set(t, g, plans(t, "once scan a 1", "scan a 1")...)
	if !slices.Equal(come, []string{"scan a 1", "once scan a 1"}) || len(gone) != 0 {
		t.Error(come, gone)
	}
	checkGraph(t, g, told{"scan a 1", 2, []string{"once scan a 1"}}, told{"once scan a 1", 1, nil})
}

// P24.1
func TestNew(t *testing.T) {
	checkGraph(t, New())
	a, b := New(), New()
	set(t, a, plans(t, "scan a 1")...)
	checkGraph(t, b)
	checkGraph(t, New())
}

// P24.1, P24.4: what comes, in the order in which it stands then, and what goes, in the order in which it stood.
func TestSet(t *testing.T) {
	const (
		a, b     = "scan a 1", "scan b 2"
		onceA    = "once " + a
		take     = "take 1 1 " + b
		both     = "meet 1 0 0 " + onceA + " " + take
		onceBoth = "once " + both
		onceTake = "once " + take
		missing  = "miss 0 " + b + " " + onceA
		twice    = "meet 0 " + a + " " + a
	)
	g := New()
	for _, x := range []struct{ l, come, gone, parts []string }{
		{nil, nil, nil, nil},
		{[]string{onceBoth}, []string{a, onceA, b, take, both, onceBoth}, nil, []string{a, onceA, b, take, both, onceBoth}},
		// The same again.
		{[]string{onceBoth}, nil, nil, []string{a, onceA, b, take, both, onceBoth}},
		// One more that shares parts, ahead of what there is and behind it: parts stand in another order then.
		{[]string{missing, onceBoth}, []string{missing}, nil, []string{b, a, onceA, missing, take, both, onceBoth}},
		{[]string{onceBoth, missing}, nil, nil, []string{a, onceA, b, take, both, onceBoth, missing}},
		// Some come, and some go.
		{[]string{onceTake, twice}, []string{onceTake, twice}, []string{onceA, both, onceBoth, missing}, []string{b, take, onceTake, a, twice}},
		{[]string{twice, onceTake, twice}, nil, nil, []string{a, twice, b, take, onceTake}},
		{[]string{both}, []string{onceA, both}, []string{twice, onceTake}, []string{a, onceA, b, take, both}},
		// A part of a plan is held as a plan: what stood on it goes.
		{[]string{onceA}, nil, []string{b, take, both}, []string{a, onceA}},
		{[]string{a, onceA}, nil, nil, []string{a, onceA}},
		// All others.
		{[]string{"scan c 1", take}, []string{"scan c 1", b, take}, []string{a, onceA}, []string{"scan c 1", b, take}},
		{[]string{"scan c 2", "scan c 1"}, []string{"scan c 2"}, []string{b, take}, []string{"scan c 2", "scan c 1"}},
		{[]string{}, nil, []string{"scan c 2", "scan c 1"}, nil},
		{[]string{a}, []string{a}, nil, []string{a}},
		{nil, nil, []string{a}, nil},
	} {
		come, gone := set(t, g, plans(t, x.l...)...)
		if !slices.Equal(come, x.come) || !slices.Equal(gone, x.gone) || !sameKeys(g.Parts(), x.parts...) || g.Len() != len(x.parts) {
			t.Errorf("Set(%q): %q, %q, Parts: %q", x.l, come, gone, keysOf(g.Parts()))
		}
	}
}

// P24.2: a plan that is held twice, or by more, is used by each; so is a part by each plan that it is.
func TestUses(t *testing.T) {
	const (
		a, b      = "scan a 1", "scan b 1"
		onceA     = "once " + a
		onceOnceA = "once " + onceA
		square    = "meet 0 " + onceA + " " + onceA
		none      = "miss 1 0 0 " + square + " " + square
		mixed     = "miss 0 " + onceA + " " + b
		turned    = "miss 0 " + b + " " + onceA
	)
	for _, x := range []struct {
		l    []string
		want []told
	}{
		{[]string{a}, []told{{a, 1, nil}}},
		{[]string{a, a}, []told{{a, 2, nil}}},
		{[]string{a, a, b, a}, []told{{a, 3, nil}, {b, 1, nil}}},
		{[]string{onceA}, []told{{a, 1, []string{onceA}}, {onceA, 1, nil}}},
		{[]string{onceA, onceA, a}, []told{{a, 2, []string{onceA}}, {onceA, 2, nil}}},
		{[]string{onceOnceA, onceA, onceOnceA}, []told{{a, 1, []string{onceA}}, {onceA, 2, []string{onceOnceA}}, {onceOnceA, 2, nil}}},
		// What is Left and Right of one part has two uses, but one user.
		{[]string{square}, []told{{a, 1, []string{onceA}}, {onceA, 2, []string{square}}, {square, 1, nil}}},
		{[]string{none}, []told{{a, 1, []string{onceA}}, {onceA, 2, []string{square}}, {square, 2, []string{none}}, {none, 1, nil}}},
		{[]string{none, square, onceA, none}, []told{{a, 1, []string{onceA}}, {onceA, 3, []string{square}}, {square, 3, []string{none}}, {none, 2, nil}}},
		// Users stand in the order of Parts, whatever plans they come from.
		{[]string{mixed, turned, square, onceOnceA}, []told{{a, 1, []string{onceA}}, {onceA, 5, []string{mixed, turned, square, onceOnceA}}, {b, 2, []string{mixed, turned}}, {mixed, 1, nil}, {turned, 1, nil}, {square, 1, nil}, {onceOnceA, 1, nil}}},
		{[]string{turned, onceOnceA, square, mixed}, []told{{b, 2, []string{turned, mixed}}, {a, 1, []string{onceA}}, {onceA, 5, []string{turned, onceOnceA, square, mixed}}, {turned, 1, nil}, {onceOnceA, 1, nil}, {square, 1, nil}, {mixed, 1, nil}}},
	} {
		g := New()
		set(t, g, plans(t, x.l...)...)
		checkGraph(t, g, x.want...)
		// It does not hang on what was held ahead of it.
		set(t, g, plans(t, none, mixed, "once scan c 3")...)
		set(t, g, plans(t, x.l...)...)
		checkGraph(t, g, x.want...)
	}
}

// P24.2: keys of no part.
func TestNoPart(t *testing.T) {
	g := New()
	set(t, g, plans(t, "once take 2 0 1 scan a 3", "scan b 1")...)
	for _, key := range []string{"", " ", "scan", "scan a", "scan a 3 ", " scan a 3", "scan a 4", "scan c 1", "once", "once scan a 3", "take 2 0 1", "scan a 3 scan b 1", "once scan b 1", "\x00", strings.Repeat("once ", 1<<16) + "scan a 3"} {
		if g.Has(key) || g.Uses(key) != 0 || len(g.Users(key)) != 0 {
			t.Errorf("%q: %v, %d, %q", key, g.Has(key), g.Uses(key), g.Users(key))
		}
	}
}

// P24.1: parts that are alike are one, whichever nodes they are, and whether their lists are nil or empty; held are those of the plans that were handed in last.
func TestAlikeNodes(t *testing.T) {
	g := New()
	one := plans(t, "meet 0 once scan a 1 once scan a 1")[0]
	set(t, g, one)
	if one.Left == one.Right || !slices.Equal(g.Parts(), []*api.Node{one.Left.Left, one.Left, one}) {
		t.Error(keysOf(g.Parts()))
	}
	other := &api.Node{Kind: api.Meet, Left: plans(t, "once scan a 1")[0], Pairs: []api.Pair{}, Cols: []int{}}
	other.Right = other.Left
	come, gone := set(t, g, other)
	if len(come)+len(gone) != 0 || !slices.Equal(g.Parts(), []*api.Node{other.Left.Left, other.Left, other}) {
		t.Error(come, gone, keysOf(g.Parts()))
	}
	set(t, g, one, other)
	checkGraph(t, g, told{"scan a 1", 1, []string{"once scan a 1"}}, told{"once scan a 1", 2, []string{shape.Key(one)}}, told{shape.Key(one), 2, nil})
	// What comes is a node of a plan that is held then, what goes one of a plan that was.
	next := plans(t, "once scan b 1")[0]
	in, out, why := g.Set(next)
	if why != api.OK || !slices.Equal(in, []*api.Node{next.Left, next}) || !slices.Equal(out, []*api.Node{one.Left.Left, one.Left, one}) {
		t.Error(keysOf(in), keysOf(out), why)
	}
}

// P24.1: a plan that can not be, and too many of them; with an error nothing changes.
func TestRefuses(t *testing.T) {
	g := New()
	was := []told{{"scan a 1", 2, []string{"once scan a 1"}}, {"once scan a 1", 1, nil}, {"scan b 2", 1, nil}}
	set(t, g, plans(t, "once scan a 1", "scan b 2", "scan a 1")...)
	ok := plans(t, "once scan c 1")[0]
	checkRefused := func(want api.Errno, l ...*api.Node) {
		t.Helper()
		if come, gone, why := g.Set(l...); len(come)+len(gone) != 0 || why != want {
			t.Error("Set", keysOf(l), keysOf(come), keysOf(gone), why)
		}
		checkGraph(t, g, was...)
	}
	for _, bad := range []*api.Node{
		nil, {}, {Kind: 8}, {Kind: -1}, {Kind: math.MaxInt}, {Kind: api.Scan}, {Kind: api.Scan, Name: "A", Wide: 1}, {Kind: api.Scan, Name: "a", Wide: 41}, {Kind: api.Scan, Name: "a", Wide: 1, Left: ok},
		{Kind: api.Once}, {Kind: api.Once, Left: ok, Right: ok}, {Kind: api.Once, Right: ok}, {Kind: api.Where, Left: ok}, {Kind: api.Take, Left: ok, Cols: []int{1}}, {Kind: api.Meet, Left: ok}, {Kind: api.Group, Left: ok, Agg: 5},
		{Kind: api.Once, Left: &api.Node{}}, {Kind: api.Miss, Left: ok, Right: &api.Node{Kind: api.Once}}, deep("a", 401), deep("a", 1<<16),
	} {
		if shape.Right(bad) {
			t.Fatal("can be", shape.Key(bad))
		}
		checkRefused(api.ErrArg, bad)
		checkRefused(api.ErrArg, bad, ok)
		checkRefused(api.ErrArg, ok, ok, bad)
		checkRefused(api.ErrArg, bad, bad)
		// That goes ahead of there being too many.
		checkRefused(api.ErrArg, append(slices.Repeat([]*api.Node{ok}, 12), bad)...)
		checkRefused(api.ErrArg, append([]*api.Node{bad}, slices.Repeat([]*api.Node{ok}, 12)...)...)
		checkRefused(api.ErrArg, append(slices.Repeat([]*api.Node{ok}, 20), bad, ok)...)
		checkRefused(api.ErrArg, slices.Repeat([]*api.Node{bad}, 13)...)
	}
	// 13 plans are too many, however alike.
	for _, many := range []int{13, 14, 24, 1 << 12} {
		checkRefused(api.ErrLong, slices.Repeat([]*api.Node{ok}, many)...)
	}
	checkRefused(api.ErrLong, plans(t, "scan a 1", "scan b 2", "scan a 2", "scan a 3", "scan a 4", "scan a 5", "scan a 6", "scan a 7", "scan a 8", "scan a 9", "scan a 10", "scan a 11", "scan a 12")...)
	// 12 are not.
	come, gone := set(t, g, slices.Repeat([]*api.Node{ok}, 12)...)
	if !slices.Equal(come, []string{"scan c 1", "once scan c 1"}) || !slices.Equal(gone, []string{"scan a 1", "once scan a 1", "scan b 2"}) {
		t.Error(come, gone)
	}
	checkGraph(t, g, told{"scan c 1", 1, []string{"once scan c 1"}}, told{"once scan c 1", 12, nil})
	set(t, g, deep("a", 400))
	if g.Len() != 400 {
		t.Error(g.Len())
	}
}

// nil, and a Graph that New did not make.
func TestNil(t *testing.T) {
	var g *Graph
	for _, l := range [][]*api.Node{nil, plans(t, "scan a 1"), {nil}, {{}}, slices.Repeat(plans(t, "scan a 1"), 13)} {
		if come, gone, why := g.Set(l...); len(come)+len(gone) != 0 || why != api.ErrNil {
			t.Error("Set", come, gone, why)
		}
	}
	checkGraph(t, g)
	for _, key := range []string{"", "scan a 1"} {
		if g.Has(key) || g.Uses(key) != 0 || len(g.Users(key)) != 0 {
			t.Error(key)
		}
	}
	zero := new(Graph)
	checkGraph(t, zero)
	if zero.Has("") || zero.Uses("scan a 1") != 0 || len(zero.Users("")) != 0 {
		t.Error("zero")
	}
	zero.Set(plans(t, "scan a 1")...)
	zero.Set()
}

// Rules 4 and 5: lists that are handed in are neither changed nor kept, and those that are answered share nothing; no node is changed.
func TestNothingShared(t *testing.T) {
	const a, onceA, onceOnceA, square = "scan a 1", "once scan a 1", "once once scan a 1", "meet 0 once scan a 1 once scan a 1"
	want := []told{{a, 1, []string{onceA}}, {onceA, 3, []string{onceOnceA, square}}, {onceOnceA, 1, nil}, {square, 1, nil}}
	g := New()
	list := append(make([]*api.Node, 0, 4), plans(t, onceOnceA, square)...)
	was := slices.Clone(list)
	come, gone, why := g.Set(list...)
	if why != api.OK || !slices.Equal(list, was) || list[:4][2] != nil || list[:4][3] != nil {
		t.Error("changed", keysOf(list), why)
	}
	clear(list)
	clear(come)
	clear(gone)
	_, _ = append(come[:0], &api.Node{}), append(gone[:0], &api.Node{})
	for range 2 {
		checkGraph(t, g, want...)
		l, users := g.Parts(), g.Users(onceA)
		_, _ = append(l[:2], &api.Node{}, nil, nil), append(users[:1], "x", "y")
		clear(l)
		clear(users)
	}
	checkGraph(t, g, want...)
	for _, n := range was {
		if key := shape.Key(n); key != onceOnceA && key != square {
			t.Error("changed", key)
		}
	}
	come, gone, _ = g.Set(plans(t, onceA, "scan b 1")...)
	clear(come)
	clear(gone)
	checkGraph(t, g, told{a, 1, []string{onceA}}, told{onceA, 1, nil}, told{"scan b 1", 1, nil})
}
