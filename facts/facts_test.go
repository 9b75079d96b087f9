package facts

import (
	"math/rand"
	"slices"
	"strconv"
	"strings"
	"testing"

	"verderer/api"
	"verderer/bag"
	"verderer/row"
	"verderer/schema"
	"verderer/store"
	"verderer/tenant"
	"verderer/value"
)

func object(kind, space, name string, cells ...api.Value) api.Object {
	return api.Object{Kind: kind, Space: space, Name: name, Cells: cells}
}

// texts is a row of texts.
func texts(l ...string) []api.Value {
	var out []api.Value
	for _, s := range l {
		out = append(out, value.Text(s))
	}
	return out
}

// pod is the row of a pod.
func pod(space, name string, cpu int64, node api.Value) []api.Value {
	return append(texts(space, name), value.Int(cpu), node)
}

func less(rel string, cells ...api.Value) Change { return Change{Rel: rel, Row: cells, Many: -1} }

func more(rel string, cells ...api.Value) Change { return Change{Rel: rel, Row: cells, Many: 1} }

func empty(t *testing.T) *store.Store {
	t.Helper()
	k, why := schema.New(
		api.Schema{Name: "pod", Cols: []api.Column{{Name: "cpu", Kind: api.Int}, {Name: "node", Kind: api.Text, Null: true}}},
		api.Schema{Name: "bare"},
	)
	if why != api.OK {
		t.Fatal(why)
	}
	s, why := store.New(k)
	if why != api.OK {
		t.Fatal(why)
	}
	return s
}

func insert(t *testing.T, s *store.Store, l ...api.Object) {
	t.Helper()
	for _, o := range l {
		if _, why := s.Insert(o); why != api.OK {
			t.Fatal(o, why)
		}
	}
}

func update(t *testing.T, s *store.Store, o api.Object) {
	t.Helper()
	was, _ := s.Get(o.Kind, o.Space, o.Name)
	o.Version = was.Version
	if _, why := s.Update(o); why != api.OK {
		t.Fatal(o, why)
	}
}

func tree(t *testing.T, l ...api.Tenant) *tenant.Tree {
	t.Helper()
	out := tenant.New()
	for _, x := range l {
		if why := out.Add(x.Name, x.Parent); why != api.OK {
			t.Fatal(x, why)
		}
	}
	return out
}

func ok(t *testing.T, why api.Errno) {
	t.Helper()
	if why != api.OK {
		t.Fatal(why)
	}
}

func sameRow(a, b []api.Value) bool { return slices.Equal(a, b) }

func sameChange(a, b Change) bool { return a.Rel == b.Rel && a.Many == b.Many && sameRow(a.Row, b.Row) }

func checkRows(t *testing.T, s *store.Store, tr *tenant.Tree, rel string, want ...[]api.Value) {
	t.Helper()
	if got := Rows(s, tr, rel); !slices.EqualFunc(got, want, sameRow) {
		t.Error("Rows", rel, got, want)
	}
}

func checkChanges(t *testing.T, got []Change, want ...Change) {
	t.Helper()
	if !slices.EqualFunc(got, want, sameChange) {
		t.Error("Diff", got, want)
	}
}

// P10.1
func TestObjectAndTenant(t *testing.T) {
	long := strings.Repeat("x", 1<<16)
	wrong := api.Value{Kind: 9, Flag: true, Int: -1, Text: "a"}
	for _, c := range []struct {
		o    api.Object
		want []api.Value
	}{
		{object("pod", "a", "x", value.Int(3), value.Null()), pod("a", "x", 3, value.Null())},
		{api.Object{Kind: "pod", Space: "a", Name: "x", Version: 7, Cells: texts("c")}, texts("a", "x", "c")},
		{object("bare", "b", "y"), texts("b", "y")},
		{api.Object{Cells: []api.Value{}}, texts("", "")},
		{api.Object{}, texts("", "")},
		{object("none", long, "\x00\xff", wrong, value.Bool(true)), append(texts(long, "\x00\xff"), wrong, value.Bool(true))},
		{object("pod", "a", "x", make([]api.Value, 1<<16)...), append(texts("a", "x"), make([]api.Value, 1<<16)...)},
	} {
		if got := Object(c.o); !sameRow(got, c.want) {
			t.Error("Object", c.o, got, c.want)
		}
	}
	for _, c := range []api.Tenant{{}, {Name: "a"}, {Name: "b", Parent: "a"}, {Parent: "a"}, {Name: long, Parent: "\x00\xff"}} {
		if got := Tenant(c); !sameRow(got, texts(c.Name, c.Parent)) {
			t.Error("Tenant", c, got)
		}
	}
}

// P10.1
func TestRows(t *testing.T) {
	s := empty(t)
	insert(t, s,
		object("pod", "b", "x", value.Int(1), value.Null()),
		object("bare", "b", "x"),
		object("pod", "ab", "x", value.Int(1), value.Text("n")),
		object("pod", "a", "y", value.Int(-5), value.Null()),
		object("bare", "a0", "z"),
		object("pod", "a", "x0", value.Int(2), value.Null()),
		object("pod", "a", "x", value.Int(9), value.Text("")),
		object("bare", "a", "z"),
	)
	tr := tree(t, api.Tenant{Name: "b"}, api.Tenant{Name: "z"}, api.Tenant{Name: "a", Parent: "z"}, api.Tenant{Name: "ab", Parent: "a"}, api.Tenant{Name: "a0", Parent: "b"})
	pods := [][]api.Value{pod("a", "x", 9, value.Text("")), pod("a", "x0", 2, value.Null()), pod("a", "y", -5, value.Null()), pod("ab", "x", 1, value.Text("n")), pod("b", "x", 1, value.Null())}
	bares := [][]api.Value{texts("a", "z"), texts("a0", "z"), texts("b", "x")}
	tenants := [][]api.Value{texts("a", "z"), texts("a0", "b"), texts("ab", "a"), texts("b", ""), texts("z", "")}
	for _, trees := range []*tenant.Tree{tr, nil, tenant.New(), new(tenant.Tree)} {
		checkRows(t, s, trees, "pod", pods...)
		checkRows(t, s, trees, "bare", bares...)
	}
	for _, stores := range []*store.Store{s, nil, empty(t), new(store.Store)} {
		checkRows(t, stores, tr, "tenant", tenants...)
	}
	for _, rel := range []string{"", "none", "Pod", "tenants", "po", "pod ", "\x00", "\xff", strings.Repeat("a", 1<<16)} {
		checkRows(t, s, tr, rel)
		checkRows(t, nil, nil, rel)
	}
	for _, rel := range []string{"pod", "bare", "tenant"} {
		checkRows(t, nil, nil, rel)
		checkRows(t, empty(t), tenant.New(), rel)
		checkRows(t, new(store.Store), new(tenant.Tree), rel)
	}
	checkRows(t, nil, tr, "pod")
	checkRows(t, s, nil, "tenant")
}

// P10.1: whatever order rows came in, they are told in their own.
func TestRowsInOrder(t *testing.T) {
	names := []string{"a", "a0", "a_", "aa", "ab", "b", "b0", "z"}
	r := rand.New(rand.NewSource(1))
	for range 20 {
		s, tr := empty(t), tenant.New()
		for _, i := range r.Perm(len(names) * len(names)) {
			insert(t, s, object("bare", names[i/len(names)], names[i%len(names)]))
		}
		for _, i := range r.Perm(len(names)) {
			ok(t, tr.Add(names[i], ""))
		}
		for rel, many := range map[string]int{"bare": s.Len(), "tenant": len(names)} {
			if l := Rows(s, tr, rel); !slices.IsSortedFunc(l, row.Compare) || len(l) != many {
				t.Error(rel, len(l), l)
			}
		}
	}
}

// P10.2
func TestDiff(t *testing.T) {
	s, tr := empty(t), tree(t, api.Tenant{Name: "a"}, api.Tenant{Name: "b"}, api.Tenant{Name: "c", Parent: "b"})
	insert(t, s, object("pod", "a", "x", value.Int(3), value.Null()), object("pod", "a", "y", value.Int(1), value.Null()), object("pod", "b", "x", value.Int(1), value.Text("n")), object("bare", "a", "x"))
	next, then := s.Copy(), tr.Copy()
	update(t, next, object("pod", "a", "x", value.Int(1), value.Null()))
	update(t, next, object("pod", "b", "x", value.Int(2), value.Text("n")))
	update(t, next, object("pod", "a", "y", value.Int(1), value.Null()))
	insert(t, next, object("pod", "a", "z", value.Int(0), value.Null()), object("bare", "a", "w"))
	ok(t, next.Delete("bare", "a", "x", 0))
	ok(t, then.Move("c", "a"))
	ok(t, then.Add("bb", "b"))
	ok(t, then.Move("a", "bb"))

	// In the rows' order: where a cell falls the new row is told ahead of the old one. The pod y has another version, but the same row.
	pods := []Change{more("pod", pod("a", "x", 1, value.Null())...), less("pod", pod("a", "x", 3, value.Null())...), more("pod", pod("a", "z", 0, value.Null())...), less("pod", pod("b", "x", 1, value.Text("n"))...), more("pod", pod("b", "x", 2, value.Text("n"))...)}
	bares := []Change{more("bare", texts("a", "w")...), less("bare", texts("a", "x")...)}
	tenants := []Change{less("tenant", texts("a", "")...), more("tenant", texts("a", "bb")...), more("tenant", texts("bb", "b")...), more("tenant", texts("c", "a")...), less("tenant", texts("c", "b")...)}
	for _, c := range []struct {
		rels []string
		want []Change
	}{
		{nil, nil},
		{[]string{"pod"}, pods},
		{[]string{"bare"}, bares},
		{[]string{"tenant"}, tenants},
		{[]string{"bare", "tenant", "pod"}, slices.Concat(bares, tenants, pods)},
		{[]string{"tenant", "pod", "bare"}, slices.Concat(tenants, pods, bares)},
		{[]string{"pod", "pod", "pod"}, pods},
		{[]string{"pod", "bare", "pod", "tenant", "bare", "tenant", "pod"}, slices.Concat(pods, bares, tenants)},
		{[]string{"none", "", "pod", "Pod", "none", "tenants", "\xff"}, pods},
	} {
		rels := slices.Clone(c.rels)
		checkChanges(t, Diff(s, tr, next, then, rels...), c.want...)
		if !slices.Equal(rels, c.rels) {
			t.Error("changed", rels, c.rels)
		}
		// The other way round each row goes the other way, in the same order.
		var back []Change
		for _, x := range c.want {
			back = append(back, Change{x.Rel, x.Row, -x.Many})
		}
		checkChanges(t, Diff(next, then, s, tr, rels...), back...)
		checkChanges(t, Diff(s, tr, s, tr, rels...))
		checkChanges(t, Diff(s, tr, s.Copy(), tr.Copy(), rels...))
	}
	if got := Diff(s, tr, next, tr, "tenant", "bare"); !slices.EqualFunc(got, bares, sameChange) {
		t.Error("of the same tenants", got)
	}
	if got := Diff(s, tr, s, then, "tenant", "bare"); !slices.EqualFunc(got, tenants, sameChange) {
		t.Error("of the same objects", got)
	}
}

// P10.2: a nil store, and a nil tree, have no rows.
func TestDiffOfNil(t *testing.T) {
	s, tr := empty(t), tree(t, api.Tenant{Name: "a"})
	insert(t, s, object("bare", "a", "y"), object("bare", "a", "x"), object("pod", "a", "x", value.Int(3), value.Null()))
	rels := []string{"tenant", "bare", "pod", "none"}
	all := []Change{more("tenant", texts("a", "")...), more("bare", texts("a", "x")...), more("bare", texts("a", "y")...), more("pod", pod("a", "x", 3, value.Null())...)}
	checkChanges(t, Diff(nil, nil, s, tr, rels...), all...)
	checkChanges(t, Diff(nil, tr, s, tr, rels...), all[1:]...)
	checkChanges(t, Diff(s, nil, s, tr, rels...), all[0])
	for i := range all {
		all[i].Many = -1
	}
	checkChanges(t, Diff(s, tr, nil, nil, rels...), all...)
	checkChanges(t, Diff(s, tr, nil, tr, rels...), all[1:]...)
	checkChanges(t, Diff(s, tr, s, nil, rels...), all[0])
	checkChanges(t, Diff(s, tr, new(store.Store), new(tenant.Tree), rels...), all...)
	checkChanges(t, Diff(nil, nil, nil, nil, rels...))
	checkChanges(t, Diff(nil, nil, nil, nil))
}

// P10.2: it ends soon, of however many relations.
func TestDiffOfMany(t *testing.T) {
	s := empty(t)
	insert(t, s, object("bare", "a", "x"))
	var rels []string
	for i := range 1 << 16 {
		rels = append(rels, "none"+strconv.Itoa(i), "bare")
	}
	checkChanges(t, Diff(nil, nil, s, nil, rels...), more("bare", texts("a", "x")...))
}

// change does anything to s and tr, or is refused.
func change(r *rand.Rand, s *store.Store, tr *tenant.Tree) {
	names := []string{"a", "b", "c", "d"}
	name := func() string { return names[r.Intn(len(names))] }
	o := object("pod", name(), name(), value.Int(r.Int63n(3)), value.Null())
	if r.Intn(3) == 0 {
		o = object("bare", name(), name())
	}
	was, _ := s.Get(o.Kind, o.Space, o.Name)
	o.Version = was.Version
	switch r.Intn(6) {
	case 0:
		s.Insert(o)
	case 1:
		s.Update(o)
	case 2:
		s.Delete(o.Kind, o.Space, o.Name, 0)
	case 3:
		tr.Add(name(), "")
	case 4:
		tr.Move(name(), name())
	case 5:
		tr.Drop(name())
	}
}

// P10.3: the rows ahead, with all changes, are those behind; and no change is there without need.
func TestAlong(t *testing.T) {
	r := rand.New(rand.NewSource(1))
	rels := []string{"tenant", "pod", "bare"}
	for range 30 {
		s, tr := empty(t), tenant.New()
		for range 40 {
			next, then := s.Copy(), tr.Copy()
			for range r.Intn(8) {
				change(r, next, then)
			}
			byRel := map[string][]Change{}
			last := 0
			for _, c := range Diff(s, tr, next, then, rels...) {
				at := slices.Index(rels, c.Rel)
				if at < last {
					t.Fatal("relations", c)
				}
				last = at
				byRel[c.Rel] = append(byRel[c.Rel], c)
			}
			for _, rel := range rels {
				checkAlong(t, Rows(s, tr, rel), byRel[rel], Rows(next, then, rel))
			}
			s, tr = next, then
		}
	}
}

func checkAlong(t *testing.T, was [][]api.Value, l []Change, now [][]api.Value) {
	t.Helper()
	b, want := bag.New(), bag.New()
	for _, r := range was {
		ok(t, b.Add(r, 1))
	}
	for _, r := range now {
		ok(t, want.Add(r, 1))
	}
	for i, c := range l {
		if c.Many != 1-2*b.Many(c.Row) || i > 0 && row.Compare(l[i-1].Row, c.Row) >= 0 {
			t.Error("change", i, l)
		}
		ok(t, b.Add(c.Row, c.Many))
	}
	if !bag.Same(b, want) {
		t.Error(was, l, now)
	}
}

// Rules 4 and 5: cells that are handed in are neither kept nor changed, and no row that is answered is the store's own, or that of another answer.
func TestNothingShared(t *testing.T) {
	cells := append(make([]api.Value, 0, 8), value.Int(3), value.Null())
	o := object("pod", "a", "x", cells...)
	o.Cells = cells
	want := pod("a", "x", 3, value.Null())
	got := Object(o)
	clear(got)
	_ = append(got[:2], value.Bool(true), value.Bool(true))
	if !sameRow(cells[:2], want[2:]) || !sameRow(cells[:4][2:], make([]api.Value, 2)) || !sameRow(Object(o), want) {
		t.Error("Object", cells, Object(o))
	}
	kept := Object(o)
	cells[0] = value.Int(9)
	if !sameRow(kept, want) {
		t.Error("kept", kept)
	}
	cells[0] = value.Int(3)

	s, tr := empty(t), tree(t, api.Tenant{Name: "a"}, api.Tenant{Name: "b", Parent: "a"})
	insert(t, s, o, object("pod", "a", "y", value.Int(3), value.Null()))
	for _, rel := range []string{"pod", "tenant"} {
		l, again := Rows(s, tr, rel), Rows(s, tr, rel)
		whole := slices.Clone(again[1])
		for i := range l {
			_ = append(l[i], value.Bool(true), value.Bool(true))
			clear(l[i])
		}
		if !sameRow(again[1], whole) || !sameRow(Rows(s, tr, rel)[1], whole) {
			t.Error("Rows share", rel)
		}
		d, others := Diff(nil, nil, s, tr, rel), Diff(nil, nil, s, tr, rel)
		_ = append(d[0].Row, value.Bool(true), value.Bool(true))
		clear(d[0].Row)
		d[0] = Change{}
		_ = append(d[:0], Change{})
		if !sameRow(d[1].Row, whole) || !sameRow(others[1].Row, whole) || others[0].Rel != rel || others[0].Row[0] != value.Text("a") {
			t.Error("Diff shares", rel)
		}
	}
	checkRows(t, s, tr, "pod", want, pod("a", "y", 3, value.Null()))
	checkRows(t, s, tr, "tenant", texts("a", ""), texts("b", "a"))
}
