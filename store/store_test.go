package store

import (
	"cmp"
	"maps"
	"math"
	"math/rand"
	"reflect"
	"slices"
	"strconv"
	"strings"
	"testing"

	"verderer/api"
	"verderer/schema"
	"verderer/value"
)

var noNames = []string{"", "0", "_", "A", "a b", "a-b", "a\x00", "é", "\xff", strings.Repeat("a", api.MaxName+1), strings.Repeat("a", 1<<16)}

func num(i int64) []api.Value { return []api.Value{value.Int(i)} }

func object(kind, space, name string, cells ...api.Value) api.Object {
	return api.Object{Kind: kind, Space: space, Name: name, Cells: cells}
}

func at(o api.Object, version int64) api.Object {
	o.Version = version
	return o
}

func kinds(t *testing.T) *schema.Set {
	t.Helper()
	s, why := schema.New(
		api.Schema{Name: "pod", Cols: []api.Column{{Name: "cpu", Kind: api.Int}, {Name: "node", Kind: api.Text, Null: true}}},
		api.Schema{Name: "bare"},
		api.Schema{Name: "app", Cols: []api.Column{{Name: "n", Kind: api.Int}}},
	)
	if why != api.OK {
		t.Fatal(why)
	}
	return s
}

func empty(t *testing.T) *Store {
	t.Helper()
	s, why := New(kinds(t))
	if s == nil || why != api.OK {
		t.Fatal("New", why)
	}
	return s
}

// insert puts objects in that are not refused.
func insert(t *testing.T, s *Store, l ...api.Object) {
	t.Helper()
	for _, o := range l {
		want := s.Last() + 1
		if v, why := s.Insert(o); v != want || why != api.OK {
			t.Fatal("Insert", o, v, why)
		}
	}
}

func same(a, b api.Object) bool {
	return a.Kind == b.Kind && a.Space == b.Space && a.Name == b.Name && a.Version == b.Version && slices.Equal(a.Cells, b.Cells)
}

func inOrder(a, b api.Object) int {
	return cmp.Or(strings.Compare(a.Kind, b.Kind), strings.Compare(a.Space, b.Space), strings.Compare(a.Name, b.Name))
}

// check holds all that a store answers against the objects that are to be there.
func check(t *testing.T, s *Store, last int64, want ...api.Object) {
	t.Helper()
	want = slices.SortedFunc(slices.Values(want), inOrder)
	if s.Len() != len(want) || s.Last() != last {
		t.Error("Len, Last", s.Len(), s.Last(), len(want), last)
	}
	of := map[string]int{"": 0, "a": 0, "b": 0, "none": 0}
	byKind := map[string][]api.Object{"": nil, "app": nil, "bare": nil, "pod": nil, "tenant": nil, "none": nil}
	for _, o := range want {
		of[o.Space]++
		byKind[o.Kind] = append(byKind[o.Kind], o)
		if got, why := s.Get(o.Kind, o.Space, o.Name); why != api.OK || !same(got, o) {
			t.Error("Get", o, got, why)
		}
	}
	for space, n := range of {
		if s.Of(space) != n {
			t.Error("Of", space, s.Of(space), n)
		}
	}
	for kind, l := range byKind {
		if got := s.All(kind); !slices.EqualFunc(got, l, same) {
			t.Error("All", kind, got, l)
		}
	}
}

// P8.1
func TestNew(t *testing.T) {
	if s, why := New(nil); s != nil || why != api.ErrNil {
		t.Error("of nil", s, why)
	}
	check(t, empty(t), 0)
	s, why := New(new(schema.Set))
	if why != api.OK {
		t.Error("of no kinds", why)
	}
	for _, s := range []*Store{s, new(Store), new(Store).Copy()} {
		if v, why := s.Insert(object("pod", "a", "x")); v != 0 || why != api.ErrKind {
			t.Error("of no kinds", v, why)
		}
		if v, why := s.Update(object("pod", "a", "x")); v != 0 || why != api.ErrKind {
			t.Error("of no kinds", v, why)
		}
		if why := s.Delete("pod", "a", "x", 0); why != api.ErrKind {
			t.Error("of no kinds", why)
		}
		check(t, s, 0)
	}
}

// P8.1
func TestInsert(t *testing.T) {
	s := empty(t)
	long := strings.Repeat("z", api.MaxName)
	l := []api.Object{
		object("pod", "a", "x", value.Int(3), value.Text("n1")),
		object("pod", "a", "y", value.Int(math.MinInt64), value.Null()),
		object("pod", "b", "x", value.Int(3), value.Text("n1")),
		object("app", "a", "x", value.Int(0)),
		object("bare", "a", "x"),
		object("bare", "tenant", "pod"),
		object("bare", long, long),
		at(object("bare", "a", "y"), 77),
		at(object("bare", "a", "z"), -1),
		at(object("bare", "a", "w"), math.MaxInt64),
	}
	for i, o := range l {
		if v, why := s.Insert(o); v != int64(i+1) || why != api.OK {
			t.Error(o, v, why)
		}
		l[i].Version = int64(i + 1)
		check(t, s, int64(i+1), l[:i+1]...)
	}
}

// refused has objects that can not be here, whichever are there.
func refused() map[api.Errno][]api.Object {
	good := []api.Value{value.Int(1), value.Null()}
	out := map[api.Errno][]api.Object{
		api.ErrKind: {
			{}, object("", "a", "x"), object("tenant", "a", "x"), object("tenant", "a", "x", value.Text("a"), value.Text("")), object("Pod", "a", "x", good...), object("none", "", "", good...), object("none", "a", "x", api.Value{Kind: 9}),
		},
		api.ErrLong: {
			object("pod", "a", "x"), object("pod", "a", "new", value.Int(1)), object("pod", "a", "x", value.Int(1), value.Null(), value.Null()), object("pod", "a", "x", api.Value{Kind: 9}), object("bare", "a", "x", value.Null()), object("pod", "a", "x", make([]api.Value, 1<<16)...),
		},
		api.ErrType: {
			object("pod", "a", "x", value.Null(), value.Null()), object("pod", "a", "x", value.Text("a"), value.Null()), object("pod", "a", "new", value.Int(1), value.Int(1)), object("pod", "a", "x", value.Int(1), value.Text(strings.Repeat("x", api.MaxText+1))),
			object("pod", "a", "x", value.Int(1), api.Value{Int: 1}), object("pod", "a", "x", api.Value{Kind: 9}, value.Null()), object("pod", "a", "x", api.Value{Kind: api.Int, Flag: true}, value.Null()),
		},
	}
	for _, s := range noNames {
		out[api.ErrName] = append(out[api.ErrName], object("pod", s, "x", good...), object("pod", "a", s, good...), object("pod", s, s), object("pod", "a", s, value.Int(1)), object("pod", s, "x", value.Null(), value.Null()), object("bare", s, "x"))
	}
	return out
}

// P8.1: each error, and of several the one that is named first.
func TestRefused(t *testing.T) {
	s := empty(t)
	x := at(object("pod", "a", "x", value.Int(1), value.Text("n")), 1)
	insert(t, s, x)
	for why, l := range refused() {
		for _, o := range l {
			for _, o := range []api.Object{o, at(o, 1), at(o, 2)} {
				if v, got := s.Insert(o); v != 0 || got != why {
					t.Error("Insert", o, v, got, why)
				}
				if v, got := s.Update(o); v != 0 || got != why {
					t.Error("Update", o, v, got, why)
				}
			}
			check(t, s, 1, x)
		}
	}
	for _, o := range []api.Object{x, at(x, 0), at(x, 2), object("pod", "a", "x", value.Int(5), value.Null())} {
		if v, why := s.Insert(o); v != 0 || why != api.ErrTwice {
			t.Error("twice", v, why)
		}
	}
	check(t, s, 1, x)
}

// P8.1: at MaxObjects, and beyond it.
func TestFull(t *testing.T) {
	s := empty(t)
	var all []api.Object
	for i := range api.MaxObjects {
		o := at(object([]string{"bare", "app"}[i%2], "a", "x"+strconv.Itoa(i), num(int64(i))[:i%2]...), int64(i+1))
		insert(t, s, o)
		all = append(all, o)
	}
	check(t, s, api.MaxObjects, all...)
	for why, o := range map[api.Errno]api.Object{
		api.ErrFull: object("bare", "a", "new"), api.ErrTwice: object("bare", "a", "x0"), api.ErrKind: object("none", "a", "new"), api.ErrName: object("bare", "a", ""), api.ErrLong: object("app", "a", "new"), api.ErrType: object("app", "a", "new", value.Null()),
	} {
		if v, got := s.Insert(o); v != 0 || got != why {
			t.Error(o, v, got, why)
		}
	}
	check(t, s, api.MaxObjects, all...)
	if v, why := s.Update(at(object("app", "a", "x1", value.Int(-1)), 2)); v != api.MaxObjects+1 || why != api.OK {
		t.Error("Update of a full one", v, why)
	}
	if why := s.Delete("bare", "a", "x0", 1); why != api.OK {
		t.Error(why)
	}
	insert(t, s, object("bare", "b", "new"))
	if v, why := s.Insert(object("bare", "b", "newer")); v != 0 || why != api.ErrFull || s.Len() != api.MaxObjects || s.Last() != api.MaxObjects+2 {
		t.Error("full again", v, why, s.Len(), s.Last())
	}
}

// P8.1
func TestUpdate(t *testing.T) {
	s := empty(t)
	x, y, bare := at(object("app", "a", "x", num(1)...), 1), at(object("app", "a", "y", num(1)...), 2), at(object("bare", "a", "x"), 3)
	insert(t, s, x, y, bare)
	for _, c := range []struct {
		v   int64
		why api.Errno
		o   api.Object
	}{
		{4, api.OK, at(object("app", "a", "x", num(5)...), 1)},
		{0, api.ErrStale, at(object("app", "a", "x", num(6)...), 1)},
		{0, api.ErrStale, at(object("app", "a", "x", num(6)...), 0)},
		{0, api.ErrStale, at(object("app", "a", "x", num(6)...), 5)},
		{0, api.ErrStale, at(object("app", "a", "x", num(6)...), -4)},
		{0, api.ErrStale, at(object("app", "a", "x", num(6)...), math.MinInt64)},
		{0, api.ErrStale, at(object("app", "a", "y", num(6)...), 4)},
		{0, api.ErrNone, at(object("app", "b", "x", num(6)...), 4)},
		{0, api.ErrNone, at(object("app", "a", "z", num(6)...), 0)},
		{0, api.ErrNone, at(object("bare", "a", "y"), 2)},
		{5, api.OK, at(object("app", "a", "x", num(5)...), 4)},
		{6, api.OK, at(object("bare", "a", "x"), 3)},
		{7, api.OK, at(object("app", "a", "x", num(1)...), 5)},
	} {
		if v, why := s.Update(c.o); v != c.v || why != c.why {
			t.Error(c.o, v, why, c.v, c.why)
		}
	}
	check(t, s, 7, at(x, 7), y, at(bare, 6))
}

// P8.2
func TestDelete(t *testing.T) {
	s := empty(t)
	x, y, bare := at(object("app", "a", "x", num(1)...), 1), at(object("app", "a", "y", num(1)...), 2), at(object("bare", "a", "x"), 3)
	insert(t, s, x, y, bare)
	for _, c := range []struct {
		why               api.Errno
		kind, space, name string
		version           int64
	}{
		{api.ErrKind, "", "a", "x", 0},
		{api.ErrKind, "tenant", "a", "x", 1},
		{api.ErrKind, "none", "", "", 9},
		{api.ErrNone, "app", "b", "x", 1},
		{api.ErrNone, "app", "a", "z", 0},
		{api.ErrNone, "bare", "a", "y", 2},
		{api.ErrNone, "app", "", "", 9},
		{api.ErrNone, "app", "A", strings.Repeat("a", 1<<16), 0},
		{api.ErrNone, "app", "a\x00x", "", 0},
		{api.ErrStale, "app", "a", "x", 2},
		{api.ErrStale, "app", "a", "x", -1},
		{api.ErrStale, "app", "a", "x", math.MaxInt64},
		{api.ErrStale, "bare", "a", "x", 1},
	} {
		if why := s.Delete(c.kind, c.space, c.name, c.version); why != c.why {
			t.Error(c, why)
		}
		if o, why := s.Get(c.kind, c.space, c.name); c.why != api.ErrStale && (why != c.why || !reflect.ValueOf(o).IsZero()) {
			t.Error("Get", c, o, why)
		}
		check(t, s, 3, x, y, bare)
	}
	for i, version := range []int64{1, 0} {
		if why := s.Delete("app", "a", []string{"x", "y"}[i], version); why != api.OK {
			t.Error(why)
		}
		check(t, s, 3, []api.Object{y, bare}[i:]...)
	}
	for _, version := range []int64{0, 1, 9} {
		if why := s.Delete("app", "a", "x", version); why != api.ErrNone {
			t.Error("gone", why)
		}
	}
	// A version that was given once is not given again, though its object is gone.
	if why := s.Delete("bare", "a", "x", 3); why != api.OK {
		t.Error(why)
	}
	insert(t, s, x)
	check(t, s, 4, at(x, 4))
	if why := s.Delete("app", "a", "x", 1); why != api.ErrStale {
		t.Error("the old version", why)
	}
}

// P8.2: in order byte by byte, whichever came first.
func TestAll(t *testing.T) {
	names := []string{"a", "a0", "a_", "aa", "ab", "b", "b0a", "ba", "z"}
	r := rand.New(rand.NewSource(1))
	for range 20 {
		s := empty(t)
		var want []api.Object
		for _, i := range r.Perm(len(names) * len(names)) {
			o := object("bare", names[i/len(names)], names[i%len(names)])
			insert(t, s, o)
			want = append(want, at(o, s.Last()))
		}
		check(t, s, int64(len(want)), want...)
	}
}

// P8.2
func TestCopy(t *testing.T) {
	s := empty(t)
	x, y := at(object("app", "a", "x", num(1)...), 1), at(object("bare", "a", "x"), 2)
	insert(t, s, x, y)
	c := s.Copy()
	check(t, c, 2, x, y)
	insert(t, c, object("pod", "b", "z", value.Int(1), value.Null()))
	if v, why := c.Update(at(object("app", "a", "x", num(2)...), 1)); v != 4 || why != api.OK {
		t.Error(v, why)
	}
	check(t, s, 2, x, y)
	if why := s.Delete("bare", "a", "x", 0); why != api.OK {
		t.Error(why)
	}
	if v, why := s.Update(at(object("app", "a", "x", num(9)...), 1)); v != 3 || why != api.OK {
		t.Error(v, why)
	}
	check(t, s, 3, at(object("app", "a", "x", num(9)...), 3))
	check(t, c, 4, at(object("app", "a", "x", num(2)...), 4), y, at(object("pod", "b", "z", value.Int(1), value.Null()), 3))
	for _, o := range []api.Object{object("none", "a", "x"), object("app", "a", "y", value.Null())} {
		v, why := s.Insert(o)
		if got, wrong := c.Insert(o); got != v || wrong != why {
			t.Error("other kinds", o, got, wrong, why)
		}
	}
}

// model is objects, all of which can be, and the last version.
type model struct {
	there map[place]api.Object
	last  int64
}

func (m *model) put(o api.Object) (int64, api.Errno) {
	m.last++
	m.there[placeOf(o)] = at(o, m.last)
	return m.last, api.OK
}

func (m *model) insert(o api.Object) (int64, api.Errno) {
	if _, known := m.there[placeOf(o)]; known {
		return 0, api.ErrTwice
	}
	return m.put(o)
}

func (m *model) update(o api.Object) (int64, api.Errno) {
	was, known := m.there[placeOf(o)]
	switch {
	case !known:
		return 0, api.ErrNone
	case was.Version != o.Version:
		return 0, api.ErrStale
	}
	return m.put(o)
}

func (m *model) remove(o api.Object) api.Errno {
	was, known := m.there[placeOf(o)]
	switch {
	case !known:
		return api.ErrNone
	case o.Version != 0 && o.Version != was.Version:
		return api.ErrStale
	}
	delete(m.there, placeOf(o))
	return api.OK
}

// P8.1 to P8.3, along many changes: no version is given twice, and what is done to one object changes no other one.
func TestAlong(t *testing.T) {
	r := rand.New(rand.NewSource(1))
	words := []string{"a", "b", "c"}
	for range 20 {
		s, m := empty(t), &model{there: map[place]api.Object{}}
		for range 300 {
			o := at(object("app", words[r.Intn(3)], words[r.Intn(3)], num(r.Int63n(4))...), r.Int63n(m.last+2))
			if r.Intn(4) == 0 {
				o.Kind, o.Cells = "bare", nil
			}
			if r.Intn(2) == 0 {
				o.Version = m.there[placeOf(o)].Version
			}
			var v, want int64
			var why, wrong api.Errno
			switch r.Intn(3) {
			case 0:
				v, why = s.Insert(o)
				want, wrong = m.insert(o)
			case 1:
				v, why = s.Update(o)
				want, wrong = m.update(o)
			case 2:
				why, wrong = s.Delete(o.Kind, o.Space, o.Name, o.Version), m.remove(o)
			}
			if v != want || why != wrong {
				t.Fatal(o, v, why, want, wrong)
			}
			check(t, s, m.last, slices.Collect(maps.Values(m.there))...)
		}
	}
}

// P8, of nil: ErrNil, 0, none; Copy nil.
func TestNil(t *testing.T) {
	var s *Store
	for _, o := range []api.Object{{}, at(object("pod", "a", "x", value.Int(1), value.Null()), 1), object("none", "", "")} {
		if v, why := s.Insert(o); v != 0 || why != api.ErrNil {
			t.Error("Insert", v, why)
		}
		if v, why := s.Update(o); v != 0 || why != api.ErrNil {
			t.Error("Update", v, why)
		}
		if why := s.Delete(o.Kind, o.Space, o.Name, o.Version); why != api.ErrNil {
			t.Error("Delete", why)
		}
		if got, why := s.Get(o.Kind, o.Space, o.Name); why != api.ErrNil || !reflect.ValueOf(got).IsZero() {
			t.Error("Get", got, why)
		}
		if s.All(o.Kind) != nil || s.Of(o.Space) != 0 {
			t.Error("All, Of")
		}
	}
	if s.Len() != 0 || s.Last() != 0 || s.Copy() != nil {
		t.Error("Len, Last, Copy")
	}
}

// Rules 4 and 5: cells that are handed in are neither kept nor changed, and no list that is answered is the store's own, or that of a copy.
func TestNothingShared(t *testing.T) {
	s := empty(t)
	cells := []api.Value{value.Int(1), value.Text("n")}
	insert(t, s, api.Object{Kind: "pod", Space: "a", Name: "x", Cells: cells}, object("app", "a", "x", num(7)...))
	if !slices.Equal(cells, []api.Value{value.Int(1), value.Text("n")}) {
		t.Error("changed")
	}
	cells[0] = value.Int(9)
	want := []api.Object{at(object("pod", "a", "x", value.Int(1), value.Text("n")), 1), at(object("app", "a", "x", num(7)...), 2)}
	check(t, s, 2, want...)
	c := s.Copy()
	spoil := func(o api.Object) {
		for i := range o.Cells {
			o.Cells[i] = value.Int(8)
		}
		_ = append(o.Cells[:1], value.Int(6), value.Int(6))
	}
	for _, s := range []*Store{s, c} {
		o, _ := s.Get("pod", "a", "x")
		again, _ := s.Get("pod", "a", "x")
		spoil(o)
		if !same(again, want[0]) {
			t.Error("answers share", again)
		}
		l := s.All("pod")
		spoil(l[0])
		_ = append(l[:0], api.Object{})
		check(t, s, 2, want...)
	}
	cells = num(5)
	if v, why := s.Update(api.Object{Kind: "app", Space: "a", Name: "x", Version: 2, Cells: cells}); v != 3 || why != api.OK {
		t.Error(v, why)
	}
	cells[0] = value.Text("spoilt")
	check(t, s, 3, want[0], at(object("app", "a", "x", num(5)...), 3))
	check(t, c, 2, want...)
}

// The kinds are those that were handed in, whatever becomes of the set.
func TestKindsKept(t *testing.T) {
	k := kinds(t)
	s, _ := New(k)
	*k = schema.Set{}
	insert(t, s, object("bare", "a", "x"))
	check(t, s, 1, at(object("bare", "a", "x"), 1))
}
