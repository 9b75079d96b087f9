package tenant

import (
	"maps"
	"math/rand"
	"slices"
	"strconv"
	"strings"
	"testing"

	"verderer/api"
)

var noNames = []string{"", "0", "_", "A", "a b", " a", "a ", "a-b", "a.b", "a\x00", "\x00", "é", "\xff", strings.Repeat("a", api.MaxName+1), strings.Repeat("a", 1<<16)}

func one(name, parent string) api.Tenant { return api.Tenant{Name: name, Parent: parent} }

// with makes a tree of tenants none of which is refused.
func with(t *testing.T, l ...api.Tenant) *Tree {
	t.Helper()
	tree := New()
	if tree == nil {
		t.Fatal("New")
	}
	add(t, tree, l...)
	return tree
}

func add(t *testing.T, tree *Tree, l ...api.Tenant) {
	t.Helper()
	for _, x := range l {
		if why := tree.Add(x.Name, x.Parent); why != api.OK {
			t.Fatal("Add", x, why)
		}
	}
}

// chain has so many tenants, each above the next one.
func chain(many int) []api.Tenant {
	var out []api.Tenant
	above := ""
	for i := range many {
		out = append(out, one("c"+strconv.Itoa(i+1), above))
		above = out[i].Name
	}
	return out
}

// model has parents by names.
type model map[string]string

func modelOf(l ...api.Tenant) model {
	m := model{}
	for _, x := range l {
		m[x.Name] = x.Parent
	}
	return m
}

func (m model) above(name string) []string {
	parent, there := m[name]
	if !there {
		return nil
	}
	return append([]string{name}, m.above(parent)...)
}

// under goes down, from parents to those that have them.
func (m model) under(name string) []string {
	if _, there := m[name]; !there {
		return nil
	}
	out := []string{name}
	for low, parent := range m {
		if parent == name {
			out = append(out, m.under(low)...)
		}
	}
	slices.Sort(out)
	return out
}

func (m model) all() []api.Tenant {
	var out []api.Tenant
	for _, name := range slices.Sorted(maps.Keys(m)) {
		out = append(out, one(name, m[name]))
	}
	return out
}

// check holds all that a tree answers against the tenants that are to be there.
func check(t *testing.T, tree *Tree, want ...api.Tenant) {
	t.Helper()
	m := modelOf(want...)
	if got := tree.All(); !slices.Equal(got, m.all()) {
		t.Error("All", got, m.all())
	}
	for _, x := range want {
		if got, why := tree.Get(x.Name); got != x || why != api.OK || !tree.Has(x.Name) {
			t.Error("Get, Has", x, got, why)
		}
		if got, is := tree.Above(x.Name), m.above(x.Name); !slices.Equal(got, is) || tree.Depth(x.Name) != len(is) {
			t.Error("Above, Depth", x, got, tree.Depth(x.Name), is)
		}
		if got := tree.Under(x.Name); !slices.Equal(got, m.under(x.Name)) {
			t.Error("Under", x, got, m.under(x.Name))
		}
	}
	for _, name := range append([]string{"gone", "tenant"}, noNames...) {
		if _, there := m[name]; there {
			continue
		}
		if got, why := tree.Get(name); got != (api.Tenant{}) || why != api.ErrNone || tree.Has(name) {
			t.Error("Get, Has of none", name, got, why)
		}
		if tree.Depth(name) != 0 || len(tree.Above(name)) != 0 || len(tree.Under(name)) != 0 {
			t.Error("Depth, Above, Under of none", name)
		}
	}
}

// P9.1
func TestNew(t *testing.T) {
	check(t, New())
	for _, tree := range []*Tree{New(), new(Tree), new(Tree).Copy()} {
		check(t, tree)
		if tree.Move("a", "") != api.ErrNone || tree.Drop("a") != api.ErrNone || tree.Add("a", "b") != api.ErrParent {
			t.Error("without tenants")
		}
		check(t, tree)
		add(t, tree, one("a", ""))
		check(t, tree, one("a", ""))
	}
	check(t, New())
}

// P9.1
func TestAdd(t *testing.T) {
	tree := New()
	long := strings.Repeat("z", api.MaxName)
	l := []api.Tenant{one("b", ""), one("a", "b"), one("tenant", ""), one("ab", "a"), one(long, "ab"), one("a_", "ab"), one("z", ""), one("a0", long)}
	for i, x := range l {
		if why := tree.Add(x.Name, x.Parent); why != api.OK {
			t.Error(x, why)
		}
		check(t, tree, l[:i+1]...)
	}
}

// P9.1: each error, and of several the one that is named first.
func TestAddRefused(t *testing.T) {
	l := append(chain(api.MaxDepth), one("a", ""), one("b", "a"))
	tree := with(t, l...)
	for _, c := range []struct {
		name, parent string
		why          api.Errno
	}{
		{"a", "", api.ErrTwice}, {"a", "b", api.ErrTwice}, {"b", "a", api.ErrTwice}, {"b", "b", api.ErrTwice}, {"b", "none", api.ErrTwice}, {"b", "c5", api.ErrTwice}, {"c5", "c5", api.ErrTwice},
		{"new", "none", api.ErrParent}, {"new", "new", api.ErrParent}, {"new", "A", api.ErrParent}, {"new", "a ", api.ErrParent}, {"new", "a\x00", api.ErrParent}, {"new", strings.Repeat("a", 1<<16), api.ErrParent},
		{"new", "c5", api.ErrDeep},
	} {
		if why := tree.Add(c.name, c.parent); why != c.why {
			t.Error(c, why)
		}
		check(t, tree, l...)
	}
	for _, name := range noNames {
		for _, parent := range []string{"", "a", "none", "c5", name} {
			if why := tree.Add(name, parent); why != api.ErrName {
				t.Error(name, parent, why)
			}
		}
	}
	check(t, tree, l...)
}

// P9.1: at MaxTenants, and beyond it.
func TestFull(t *testing.T) {
	l := chain(api.MaxDepth)
	for i := len(l); i < api.MaxTenants; i++ {
		l = append(l, one("x"+strconv.Itoa(i), l[i%api.MaxDepth/2].Name))
	}
	tree := with(t, l...)
	check(t, tree, l...)
	for _, c := range []struct {
		name, parent string
		why          api.Errno
	}{{"new", "", api.ErrFull}, {"new", "c4", api.ErrFull}, {"new", "c5", api.ErrDeep}, {"new", "none", api.ErrParent}, {"c1", "", api.ErrTwice}, {"", "", api.ErrName}} {
		if why := tree.Add(c.name, c.parent); why != c.why {
			t.Error(c, why)
		}
	}
	check(t, tree, l...)
	if why := tree.Move("x5", ""); why != api.OK {
		t.Error("Move in a full one", why)
	}
	if why := tree.Drop("c5"); why != api.OK {
		t.Error(why)
	}
	add(t, tree, one("new", ""))
	if why := tree.Add("newer", ""); why != api.ErrFull {
		t.Error("full again", why)
	}
}

// P9.2
func TestMove(t *testing.T) {
	tree := with(t, one("a", ""), one("b", "a"), one("c", "b"), one("d", ""), one("e", "d"))
	for _, c := range []struct {
		name, parent string
		why          api.Errno
		then         []api.Tenant
	}{
		{"b", "d", api.OK, []api.Tenant{one("a", ""), one("b", "d"), one("c", "b"), one("d", ""), one("e", "d")}},
		{"b", "d", api.OK, []api.Tenant{one("a", ""), one("b", "d"), one("c", "b"), one("d", ""), one("e", "d")}},
		{"d", "a", api.OK, []api.Tenant{one("a", ""), one("b", "d"), one("c", "b"), one("d", "a"), one("e", "d")}},
		{"a", "", api.OK, []api.Tenant{one("a", ""), one("b", "d"), one("c", "b"), one("d", "a"), one("e", "d")}},
		{"c", "", api.OK, []api.Tenant{one("a", ""), one("b", "d"), one("c", ""), one("d", "a"), one("e", "d")}},
		{"a", "c", api.OK, []api.Tenant{one("a", "c"), one("b", "d"), one("c", ""), one("d", "a"), one("e", "d")}},
		{"e", "b", api.OK, []api.Tenant{one("a", "c"), one("b", "d"), one("c", ""), one("d", "a"), one("e", "b")}},
	} {
		if why := tree.Move(c.name, c.parent); why != c.why {
			t.Error(c, why)
		}
		check(t, tree, c.then...)
	}
}

// P9.2: each error, and of several the one that is named first.
func TestMoveRefused(t *testing.T) {
	l := append(chain(api.MaxDepth), one("a", ""), one("b", "a"), one("b0", "b"), one("d", "a"), one("e", ""))
	tree := with(t, l...)
	for _, c := range []struct {
		name, parent string
		why          api.Errno
	}{
		{"none", "", api.ErrNone}, {"none", "a", api.ErrNone}, {"none", "none", api.ErrNone}, {"none", "c5", api.ErrNone}, {"", "", api.ErrNone}, {"", "a", api.ErrNone}, {"A", "none", api.ErrNone}, {strings.Repeat("a", 1<<16), "", api.ErrNone},
		{"a", "none", api.ErrParent}, {"a", "A", api.ErrParent}, {"c5", "\x00", api.ErrParent}, {"a", strings.Repeat("a", 1<<16), api.ErrParent},
		{"a", "a", api.ErrCycle}, {"a", "b", api.ErrCycle}, {"a", "b0", api.ErrCycle}, {"b", "b0", api.ErrCycle}, {"e", "e", api.ErrCycle}, {"c5", "c5", api.ErrCycle}, {"c1", "c5", api.ErrCycle}, {"c4", "c5", api.ErrCycle},
		{"e", "c5", api.ErrDeep}, {"b", "c4", api.ErrDeep}, {"a", "c3", api.ErrDeep}, {"a", "c4", api.ErrDeep}, {"a", "c5", api.ErrDeep}, {"c1", "e", api.ErrDeep}, {"c2", "d", api.ErrDeep}, {"c3", "b0", api.ErrDeep},
	} {
		if why := tree.Move(c.name, c.parent); why != c.why {
			t.Error(c, why)
		}
		check(t, tree, l...)
	}
	for _, c := range [][2]string{{"c2", "e"}, {"c3", "d"}, {"b0", "c4"}} {
		if why := tree.Move(c[0], c[1]); why != api.OK {
			t.Error("as deep as may be", c, why)
		}
	}
	check(t, tree, one("c1", ""), one("a", ""), one("b", "a"), one("d", "a"), one("c3", "d"), one("c4", "c3"), one("c5", "c4"), one("b0", "c4"), one("e", ""), one("c2", "e"))
}

// P9.2
func TestDrop(t *testing.T) {
	tree := with(t, one("a", ""), one("b", "a"), one("c", "b"), one("d", "a"))
	for _, c := range []struct {
		name string
		why  api.Errno
		then []api.Tenant
	}{
		{"", api.ErrNone, []api.Tenant{one("a", ""), one("b", "a"), one("c", "b"), one("d", "a")}},
		{"none", api.ErrNone, []api.Tenant{one("a", ""), one("b", "a"), one("c", "b"), one("d", "a")}},
		{"A", api.ErrNone, []api.Tenant{one("a", ""), one("b", "a"), one("c", "b"), one("d", "a")}},
		{"a", api.ErrUsed, []api.Tenant{one("a", ""), one("b", "a"), one("c", "b"), one("d", "a")}},
		{"b", api.ErrUsed, []api.Tenant{one("a", ""), one("b", "a"), one("c", "b"), one("d", "a")}},
		{"c", api.OK, []api.Tenant{one("a", ""), one("b", "a"), one("d", "a")}},
		{"c", api.ErrNone, []api.Tenant{one("a", ""), one("b", "a"), one("d", "a")}},
		{"b", api.OK, []api.Tenant{one("a", ""), one("d", "a")}},
		{"a", api.ErrUsed, []api.Tenant{one("a", ""), one("d", "a")}},
		{"d", api.OK, []api.Tenant{one("a", "")}},
		{"a", api.OK, nil},
		{"a", api.ErrNone, nil},
	} {
		if why := tree.Drop(c.name); why != c.why {
			t.Error(c, why)
		}
		check(t, tree, c.then...)
	}
	add(t, tree, one("b", ""), one("a", "b"))
	check(t, tree, one("a", "b"), one("b", ""))
}

// P9.3: what Move gave a parent, and what it took one from, is told as what Add did.
func TestAsked(t *testing.T) {
	tree := with(t, one("m", ""), one("z", "m"), one("a", "m"), one("k", "z"), one("b", "a"), one("aa", "z"), one("lone", ""))
	for name, want := range map[string][2]string{
		"m": {"m", "a aa b k m z"}, "z": {"z m", "aa k z"}, "a": {"a m", "a b"}, "k": {"k z m", "k"}, "b": {"b a m", "b"}, "aa": {"aa z m", "aa"}, "lone": {"lone", "lone"}, "none": {"", ""}, "": {"", ""},
	} {
		above, under := strings.Join(tree.Above(name), " "), strings.Join(tree.Under(name), " ")
		if above != want[0] || under != want[1] || tree.Depth(name) != len(strings.Fields(want[0])) || tree.Has(name) != (want[0] != "") {
			t.Error(name, above, under, tree.Depth(name), tree.Has(name), want)
		}
	}
	if want := []api.Tenant{one("a", "m"), one("aa", "z"), one("b", "a"), one("k", "z"), one("lone", ""), one("m", ""), one("z", "m")}; !slices.Equal(tree.All(), want) {
		t.Error("All", tree.All())
	}
}

// P9.3
func TestCopy(t *testing.T) {
	tree := with(t, one("a", ""), one("b", "a"), one("c", ""))
	c := tree.Copy()
	check(t, c, one("a", ""), one("b", "a"), one("c", ""))
	add(t, c, one("d", "b"))
	if why := c.Move("b", "c"); why != api.OK {
		t.Error(why)
	}
	if why := c.Drop("a"); why != api.OK {
		t.Error(why)
	}
	check(t, tree, one("a", ""), one("b", "a"), one("c", ""))
	check(t, c, one("b", "c"), one("c", ""), one("d", "b"))
	add(t, tree, one("e", "a"))
	if why := tree.Drop("c"); why != api.OK {
		t.Error(why)
	}
	check(t, tree, one("a", ""), one("b", "a"), one("e", "a"))
	check(t, c, one("b", "c"), one("c", ""), one("d", "b"))
}

func (m model) deepest(name string) int {
	deepest := 0
	for _, low := range m.under(name) {
		deepest = max(deepest, len(m.above(low)))
	}
	return deepest
}

func (m model) add(name, parent string) api.Errno {
	_, there := m[name]
	_, known := m[parent]
	switch {
	case there:
		return api.ErrTwice
	case parent != "" && !known:
		return api.ErrParent
	case len(m.above(parent)) == api.MaxDepth:
		return api.ErrDeep
	case len(m) == api.MaxTenants:
		return api.ErrFull
	}
	m[name] = parent
	return api.OK
}

// move moves, asks how deep all are then, and moves back if that is too deep.
func (m model) move(name, parent string) api.Errno {
	was, there := m[name]
	_, known := m[parent]
	switch {
	case !there:
		return api.ErrNone
	case parent != "" && !known:
		return api.ErrParent
	case slices.Contains(m.under(name), parent):
		return api.ErrCycle
	}
	m[name] = parent
	if m.deepest(name) > api.MaxDepth {
		m[name] = was
		return api.ErrDeep
	}
	return api.OK
}

func (m model) drop(name string) api.Errno {
	switch len(m.under(name)) {
	case 0:
		return api.ErrNone
	case 1:
		delete(m, name)
		return api.OK
	}
	return api.ErrUsed
}

// P9.1 to P9.5, along many changes.
func TestAlong(t *testing.T) {
	r := rand.New(rand.NewSource(1))
	seen := map[api.Errno]int{}
	for run := range 10 {
		tree, m := New(), model{}
		name := func() string { return "x" + strconv.Itoa(r.Intn(8+4*run)) }
		for range 200 {
			low, high := name(), name()
			if r.Intn(4) == 0 {
				high = ""
			}
			var why, want api.Errno
			switch r.Intn(8) {
			default:
				why, want = tree.Add(low, high), m.add(low, high)
			case 0, 1, 2:
				why, want = tree.Move(low, high), m.move(low, high)
			case 3:
				why, want = tree.Drop(low), m.drop(low)
			}
			if why != want {
				t.Fatal(low, high, why, want, m)
			}
			seen[why]++
			check(t, tree, m.all()...)
			checkOrder(t, tree)
		}
	}
	for _, why := range []api.Errno{api.OK, api.ErrTwice, api.ErrParent, api.ErrDeep, api.ErrFull, api.ErrNone, api.ErrCycle, api.ErrUsed} {
		if seen[why] == 0 {
			t.Error("never", why)
		}
	}
}

// checkOrder: P9.4, no tenant stands above itself, and none is too deep; P9.5, one is under another one just if that is above it.
func checkOrder(t *testing.T, tree *Tree) {
	t.Helper()
	all := tree.All()
	for _, x := range all {
		above, under := tree.Above(x.Name), tree.Under(x.Name)
		if len(above) > api.MaxDepth || above[0] != x.Name || slices.Contains(above[1:], x.Name) {
			t.Error(x, above)
		}
		for _, y := range all {
			if slices.Contains(under, y.Name) != slices.Contains(tree.Above(y.Name), x.Name) {
				t.Error("under", x, y)
			}
		}
	}
}

// P9, of nil: ErrNil, 0, none, false; Copy nil.
func TestNil(t *testing.T) {
	var tree *Tree
	for _, name := range append([]string{"a"}, noNames...) {
		if tree.Add(name, "") != api.ErrNil || tree.Add(name, "b") != api.ErrNil || tree.Move(name, "") != api.ErrNil || tree.Move(name, name) != api.ErrNil || tree.Drop(name) != api.ErrNil {
			t.Error("Add, Move, Drop", name)
		}
		if x, why := tree.Get(name); x != (api.Tenant{}) || why != api.ErrNil {
			t.Error("Get", x, why)
		}
		if tree.Has(name) || tree.Depth(name) != 0 || len(tree.Above(name)) != 0 || len(tree.Under(name)) != 0 {
			t.Error("Has, Depth, Above, Under", name)
		}
	}
	if len(tree.All()) != 0 || tree.Copy() != nil {
		t.Error("All, Copy")
	}
}

// Rule 4: no list that is answered is the tree's own, or that of another answer.
func TestNothingShared(t *testing.T) {
	l := []api.Tenant{one("a", ""), one("b", "a"), one("c", "b")}
	tree := with(t, l...)
	for range 2 {
		for _, get := range []func(string) []string{tree.Above, tree.Under} {
			got, again := get("b"), get("b")
			got[0], got[1] = "spoilt", "spoilt"
			_ = append(got[:1], "spoilt", "spoilt")
			if slices.Contains(again, "spoilt") {
				t.Error("answers share", again)
			}
		}
		all, again := tree.All(), tree.All()
		clear(all)
		_ = append(all[:0], one("spoilt", ""), one("spoilt", ""))
		if !slices.Equal(again, l) {
			t.Error("answers share", again)
		}
		check(t, tree, l...)
	}
}
