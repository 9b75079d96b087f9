package graph

import (
	"math/rand"
	"slices"
	"strconv"
	"testing"

	"verderer/api"
	"verderer/plan"
	"verderer/shape"
)

// nodesOf answers all nodes of plans, each behind those that it stands on, however many are alike.
func nodesOf(l ...*api.Node) []*api.Node {
	var out []*api.Node
	for _, n := range l {
		if n != nil {
			out = append(append(out, nodesOf(n.Left, n.Right)...), n)
		}
	}
	return out
}

// partsOf answers the parts of plans by their keys, each with its uses and users, by the chapter's words.
func partsOf(l ...*api.Node) []told {
	var parts []*api.Node
	for _, n := range nodesOf(l...) {
		if !slices.Contains(keysOf(parts), shape.Key(n)) {
			parts = append(parts, n)
		}
	}
	var out []told
	for _, n := range parts {
		x := told{key: shape.Key(n)}
		for _, p := range parts {
			stands := 0
			for _, below := range []*api.Node{p.Left, p.Right} {
				if below != nil && shape.Key(below) == x.key {
					stands++
				}
			}
			x.uses += stands
			if stands > 0 {
				x.users = append(x.users, shape.Key(p))
			}
		}
		for _, p := range l {
			if shape.Key(p) == x.key {
				x.uses++
			}
		}
		out = append(out, x)
	}
	return out
}

// less answers the keys of a that b has not.
func less(a, b []told) []string {
	var out []string
	for _, x := range a {
		if !slices.ContainsFunc(b, func(y told) bool { return x.key == y.key }) {
			out = append(out, x.key)
		}
	}
	return out
}

// randomPlan answers one that can be, of so many levels at most, mostly one of few parts, so that many are shared.
func randomPlan(r *rand.Rand, levels int) *api.Node {
	if levels <= 1 || r.Intn(6) == 0 {
		return &api.Node{Kind: api.Scan, Name: []string{"a", "b"}[r.Intn(2)], Wide: 1 + r.Intn(2)}
	}
	n := &api.Node{Kind: api.Where + r.Intn(6), Left: randomPlan(r, levels-1)}
	switch n.Kind {
	case api.Where:
		n.Conds = []api.Cond{{Op: 1 + r.Intn(2)}}
	case api.Meet, api.Miss:
		n.Right = n.Left
		if r.Intn(3) > 0 {
			n.Right = randomPlan(r, levels-1)
		}
		n.Pairs = make([]api.Pair, r.Intn(2))
	case api.Take:
		n.Cols = make([]int, 1+r.Intn(2))
	case api.Group:
		n.Cols, n.Agg = make([]int, r.Intn(2)), 1+r.Intn(2)
	}
	if plan.Wide(n) > api.MaxWide {
		return n.Left
	}
	return n
}

// P24.1 to P24.4: along many Sets a Graph is what the chapter's words say of the plans alone.
func TestByDefinition(t *testing.T) {
	r := rand.New(rand.NewSource(1))
	shared, both, refused := 0, 0, 0
	for range 60 {
		g := New()
		var was []told
		var held []*api.Node
		for range 12 {
			var l []*api.Node
			for range r.Intn(5) {
				l = append(l, randomPlan(r, 1+r.Intn(5)))
			}
			if len(held) > 0 && r.Intn(2) == 0 {
				l = append(l, held[r.Intn(len(held))], held[0])
			}
			if r.Intn(8) == 0 {
				refused++
				checkRefusedSet(t, g, r, l, was)
			}
			now := partsOf(l...)
			come, gone := set(t, g, l...)
			if !slices.Equal(come, less(now, was)) || !slices.Equal(gone, less(was, now)) {
				t.Fatal(keysOf(l), come, gone)
			}
			checkGraph(t, g, now...)
			if !slices.Equal(g.Parts(), shape.Parts(l...)) {
				t.Fatal("Parts", keysOf(l))
			}
			checkCounts(t, g, l...)
			if g.Len() < len(nodesOf(l...)) {
				shared++
			}
			if len(come) > 0 && len(gone) > 0 {
				both++
			}
			was, held = now, l
		}
		if _, gone := set(t, g); !slices.Equal(gone, less(was, nil)) || g.Len() != 0 {
			t.Fatal("no plans", gone, g.Len())
		}
		checkGraph(t, g)
	}
	if shared < 200 || both < 200 || refused < 30 {
		t.Error(shared, both, refused)
	}
}

// checkRefusedSet hands in one plan that can not be, or too many.
func checkRefusedSet(t *testing.T, g *Graph, r *rand.Rand, l []*api.Node, was []told) {
	t.Helper()
	bad, want := append(slices.Clone(l), nil), api.ErrArg
	if len(l) > 0 && r.Intn(2) == 0 {
		bad, want = slices.Repeat(l, 13), api.ErrLong
	}
	if come, gone, why := g.Set(bad...); why != want || len(come)+len(gone) != 0 {
		t.Fatal("refused", keysOf(l), why)
	}
	checkGraph(t, g, was...)
}

// checkCounts: P24.3, and that all uses are those by parts' sides and by plans.
func checkCounts(t *testing.T, g *Graph, l ...*api.Node) {
	t.Helper()
	keys := keysOf(nodesOf(l...))
	slices.Sort(keys)
	if many := len(slices.Compact(keys)); g.Len() != many {
		t.Fatal("Len", g.Len(), many)
	}
	uses, sides := 0, len(l)
	for _, n := range g.Parts() {
		if g.Uses(shape.Key(n)) == 0 {
			t.Fatal("no use", shape.Key(n))
		}
		uses += g.Uses(shape.Key(n))
		for _, below := range []*api.Node{n.Left, n.Right} {
			if below != nil {
				sides++
			}
		}
	}
	if uses != sides {
		t.Fatal("Uses", uses, sides)
	}
}

// P6: plans of any numbers, and keys of any bytes.
func TestAnything(t *testing.T) {
	r := rand.New(rand.NewSource(1))
	odd := func() int { return []int{r.Intn(8), r.Intn(8), r.Intn(2), -1, int(r.Uint64())}[r.Intn(5)] }
	oddPlan := func() *api.Node {
		n := randomPlan(r, 1+r.Intn(4))
		switch r.Intn(12) {
		case 0:
			n.Kind = odd()
		case 1:
			n.Cols, n.Pairs = append(n.Cols, odd()), append(n.Pairs, api.Pair{Left: odd(), Right: odd()})
		case 2:
			n.Conds, n.Agg, n.Of = append(n.Conds, api.Cond{Left: odd(), Op: odd(), Right: odd()}), odd(), odd()
		case 3:
			n.Name, n.Wide = []string{"", "x y", "\x00"}[r.Intn(3)], odd()
		case 4:
			n.Left, n.Right = n.Right, n.Left
		case 5:
			return nil
		}
		return n
	}
	g, done := New(), 0
	for range 10000 {
		var l []*api.Node
		for range r.Intn(4) {
			l = append(l, oddPlan())
		}
		was := g.Parts()
		come, gone, why := g.Set(l...)
		ok := !slices.ContainsFunc(l, func(n *api.Node) bool { return !shape.Right(n) })
		switch {
		case ok != (why == api.OK):
			t.Fatal(keysOf(l), why)
		case ok:
			done++
		case why != api.ErrArg || len(come)+len(gone) != 0 || !slices.Equal(g.Parts(), was):
			t.Fatal(keysOf(l), why)
		}
		key := make([]byte, r.Intn(20))
		r.Read(key)
		if g.Has(string(key)) || g.Uses(string(key)) != 0 || g.Users(string(key)) != nil {
			t.Fatal(key)
		}
	}
	if done < 2000 {
		t.Error(done)
	}
}

// P6: it ends soon for as many plans as may be held, each of as many nodes as may be, and for far more.
func TestManyParts(t *testing.T) {
	var l []*api.Node
	for i := range 12 {
		l = append(l, deep("a"+strconv.Itoa(i), 400))
	}
	g := New()
	come, gone := set(t, g, l...)
	if len(come) != 4800 || len(gone) != 0 || g.Len() != 4800 {
		t.Error(len(come), len(gone), g.Len())
	}
	come, gone = set(t, g, l[1:]...)
	if len(come) != 0 || len(gone) != 400 || g.Len() != 4400 {
		t.Error(len(come), len(gone), g.Len())
	}
	// Nodes that stand in a plan more than once.
	n := deep("b", 1)
	for range 7 {
		n = &api.Node{Kind: api.Miss, Left: n, Right: n}
	}
	come, gone = set(t, g, n, n)
	if len(come) != 8 || len(gone) != 4400 || g.Uses(shape.Key(n)) != 2 || g.Uses(shape.Key(n.Left)) != 2 {
		t.Error(len(come), len(gone))
	}
	if _, _, why := g.Set(slices.Repeat(l[:1], 1<<8)...); why != api.ErrLong {
		t.Error(why)
	}
	for range 64 {
		n = &api.Node{Kind: api.Miss, Left: n, Right: n}
	}
	if _, _, why := g.Set(n); why != api.ErrArg {
		t.Error(why)
	}
}
