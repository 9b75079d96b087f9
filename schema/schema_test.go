package schema

import (
	"math"
	"math/rand"
	"reflect"
	"slices"
	"strings"
	"testing"

	"verderer/api"
	"verderer/value"
)

const longest = "abcdefghijklmn_0"

func kind(name string, cols ...api.Column) api.Schema { return api.Schema{Name: name, Cols: cols} }

func column(name string, kind int) api.Column { return api.Column{Name: name, Kind: kind} }

func orNull(name string, kind int) api.Column {
	return api.Column{Name: name, Kind: kind, Null: true}
}

// columns has so many columns that can be together.
func columns(many int) []api.Column {
	var out []api.Column
	for i := range many {
		out = append(out, api.Column{Name: "c" + string(rune('a'+i)), Kind: api.Bool + i%3, Null: i%2 == 1})
	}
	return out
}

func names() []string {
	return []string{"a", "z", "m", "a0", "a9", "a_", "a__", "z_z", "pod", "tenant", "kind", "name", "null", longest, strings.Repeat("z", api.MaxName)}
}

func noNames() []string {
	return []string{
		"", "0", "9a", "_", "_a", "A", "aB", "Pod", "a b", " a", "a ", "a-b", "a.b", "a:b", "a?", "a\n", "a\x00", "\x00", "a\xff", "\xff", "é", "aé", "ａ", "٣", "a٣",
		"`", "{", "a`", "a{", "a/", "a^", "a@", "a[", longest + "a", strings.Repeat("z", api.MaxName+1), strings.Repeat("z", 1<<16),
	}
}

// set makes kinds that are not refused.
func set(t *testing.T, l ...api.Schema) *Set {
	t.Helper()
	s, why := New(l...)
	if s == nil || why != api.OK {
		t.Fatal("New", l, why)
	}
	return s
}

func sameKind(a, b api.Schema) bool { return a.Name == b.Name && slices.Equal(a.Cols, b.Cols) }

// check holds the kinds of a set against those that are to be in it.
func check(t *testing.T, s *Set, want ...api.Schema) {
	t.Helper()
	if got := s.Kinds(); !slices.EqualFunc(got, want, sameKind) {
		t.Error("Kinds", got, want)
	}
	for _, x := range want {
		if got, why := s.Find(x.Name); why != api.OK || !sameKind(got, x) {
			t.Error("Find", got, why, x)
		}
	}
}

func pod() api.Schema {
	return kind("pod", column("image", api.Text), orNull("cpu", api.Int), column("up", api.Bool))
}

// P7.1
func TestName(t *testing.T) {
	for _, s := range names() {
		if !Name(s) {
			t.Errorf("no name: %q", s)
		}
	}
	for _, s := range noNames() {
		if Name(s) {
			t.Errorf("a name: %q", s)
		}
	}
	for c := range 256 {
		letter := c >= 'a' && c <= 'z'
		if s := string([]byte{byte(c)}); Name(s) != letter {
			t.Errorf("alone: %q", s)
		}
		if s := string([]byte{'a', byte(c)}); Name(s) != (letter || c >= '0' && c <= '9' || c == '_') {
			t.Errorf("behind: %q", s)
		}
	}
}

// P7.1
func TestNew(t *testing.T) {
	var most []api.Schema
	for i := range api.MaxKinds {
		most = append(most, kind("k"+string(rune('a'+i)), columns(min(i, api.MaxCols))...))
	}
	for _, l := range [][]api.Schema{
		nil,
		{},
		{pod()},
		{kind("a")},
		{kind("z"), kind("a"), kind("m")},
		{kind("a", column("a", api.Int)), kind("b", column("a", api.Text))},
		{kind(longest, column(longest, api.Bool))},
		{kind("tenants"), kind("tenan"), kind("space"), kind("name")},
		{kind("a", column("space", api.Int), column("name", api.Bool), column("tenant", api.Text), orNull("parent", api.Text))},
		{kind("full", columns(api.MaxCols)...)},
		most,
	} {
		check(t, set(t, l...), l...)
	}
	check(t, new(Set))
	check(t, set(t, pod()), pod())
}

// P7.1: each error, and of several the one that is named first.
func TestNewRefuses(t *testing.T) {
	tooMany := make([]api.Schema, api.MaxKinds+1)
	full := columns(api.MaxCols)
	wide := make([]api.Column, api.MaxCols+1)
	for _, c := range []struct {
		why api.Errno
		l   []api.Schema
	}{
		{api.ErrLong, tooMany},
		{api.ErrLong, make([]api.Schema, 1<<16)},
		{api.ErrName, make([]api.Schema, api.MaxKinds)},
		{api.ErrName, []api.Schema{{}}},
		{api.ErrName, []api.Schema{kind("tenant")}},
		{api.ErrName, []api.Schema{kind("a"), kind("tenant"), kind("a")}},
		{api.ErrName, []api.Schema{kind("A", wide...)}},
		{api.ErrName, []api.Schema{kind("tenant", wide...)}},
		{api.ErrTwice, []api.Schema{kind("a"), kind("a")}},
		{api.ErrTwice, []api.Schema{kind("a"), kind("b"), kind("a", column("x", api.Int))}},
		{api.ErrTwice, []api.Schema{kind("a"), kind("a", wide...)}},
		{api.ErrTwice, []api.Schema{kind("a"), kind("a"), kind("A")}},
		{api.ErrLong, []api.Schema{kind("a", wide...)}},
		{api.ErrLong, []api.Schema{kind("a", append(full, column("more", api.Int))...)}},
		{api.ErrLong, []api.Schema{kind("a"), kind("b", wide...), kind("a")}},
		{api.ErrLong, []api.Schema{kind("a", make([]api.Column, 1<<16)...)}},
		{api.ErrName, []api.Schema{kind("a", api.Column{})}},
		{api.ErrName, []api.Schema{kind("a", column("", 9))}},
		{api.ErrName, []api.Schema{kind("a", column("b", api.Int), column("B", api.Int), column("b", api.Int))}},
		{api.ErrName, []api.Schema{kind("a", column("B", api.Int)), kind("a")}},
		{api.ErrType, []api.Schema{kind("a", column("b", api.Null))}},
		{api.ErrType, []api.Schema{kind("a", orNull("b", api.Null))}},
		{api.ErrType, []api.Schema{kind("a", column("b", 4))}},
		{api.ErrType, []api.Schema{kind("a", column("b", -1))}},
		{api.ErrType, []api.Schema{kind("a", column("b", math.MaxInt64))}},
		{api.ErrType, []api.Schema{kind("a", column("b", math.MinInt64))}},
		{api.ErrType, []api.Schema{kind("a", column("b", api.Int), column("b", api.Null))}},
		{api.ErrType, []api.Schema{kind("a", column("b", 9), column("C", api.Int))}},
		{api.ErrTwice, []api.Schema{kind("a", column("b", api.Int), column("b", api.Int))}},
		{api.ErrTwice, []api.Schema{kind("a", column("b", api.Int), column("c", api.Int), orNull("b", api.Text), column("d", 9))}},
		{api.ErrTwice, []api.Schema{kind("a", append(full[:5:5], full[0])...)}},
		{api.ErrTwice, []api.Schema{kind("x"), kind("a", column("b", api.Int), column("b", api.Int)), kind("x")}},
	} {
		if s, why := New(c.l...); s != nil || why != c.why {
			t.Error(c.l, s, why, c.why)
		}
	}
	for _, s := range noNames() {
		if got, why := New(kind(s)); got != nil || why != api.ErrName {
			t.Errorf("kind %q: %v", s, why)
		}
		if got, why := New(kind("a", column(s, api.Int))); got != nil || why != api.ErrName {
			t.Errorf("column %q: %v", s, why)
		}
	}
}

// P7.1
func TestFind(t *testing.T) {
	s := set(t, kind("a"), pod())
	for _, name := range append(noNames(), "tenant", "b", "po", "pods", "pod ", "image", "space") {
		if x, why := s.Find(name); why != api.ErrKind || !reflect.ValueOf(x).IsZero() {
			t.Errorf("%q: %v %v", name, x, why)
		}
	}
}

// P7.2
func TestFits(t *testing.T) {
	s := set(t, kind("none"), pod(), kind("one", orNull("x", api.Text)))
	long := strings.Repeat("x", api.MaxText)
	text, num, yes, null := value.Text("a"), value.Int(-5), value.Bool(true), value.Null()
	for _, c := range []struct {
		why   api.Errno
		kind  string
		cells []api.Value
	}{
		{api.OK, "none", nil},
		{api.OK, "none", []api.Value{}},
		{api.OK, "pod", []api.Value{text, num, yes}},
		{api.OK, "pod", []api.Value{text, null, value.Bool(false)}},
		{api.OK, "pod", []api.Value{value.Text(""), value.Int(math.MinInt64), yes}},
		{api.OK, "pod", []api.Value{value.Text(long), value.Int(math.MaxInt64), yes}},
		{api.OK, "pod", []api.Value{value.Text("\x00\xff"), num, yes}},
		{api.OK, "one", []api.Value{null}},
		{api.OK, "one", []api.Value{text}},
		{api.ErrKind, "", nil},
		{api.ErrKind, "tenant", nil},
		{api.ErrKind, "tenant", []api.Value{text, text}},
		{api.ErrKind, "Pod", []api.Value{text, num, yes}},
		{api.ErrKind, "two", []api.Value{{Kind: 9}}},
		{api.ErrLong, "none", []api.Value{null}},
		{api.ErrLong, "none", []api.Value{{Kind: 9}}},
		{api.ErrLong, "pod", nil},
		{api.ErrLong, "pod", []api.Value{text, num}},
		{api.ErrLong, "pod", []api.Value{text, num, yes, yes}},
		{api.ErrLong, "pod", []api.Value{{Kind: 9}, num}},
		{api.ErrLong, "pod", []api.Value{text, text, text, text, text}},
		{api.ErrLong, "one", []api.Value{text, text}},
		{api.ErrLong, "one", make([]api.Value, 1<<16)},
		{api.ErrType, "pod", []api.Value{null, num, yes}},
		{api.ErrType, "pod", []api.Value{text, num, null}},
		{api.ErrType, "pod", []api.Value{num, text, yes}},
		{api.ErrType, "pod", []api.Value{text, yes, yes}},
		{api.ErrType, "pod", []api.Value{text, num, num}},
		{api.ErrType, "one", []api.Value{num}},
		{api.ErrType, "one", []api.Value{yes}},
		{api.ErrType, "one", []api.Value{value.Text(long + "x")}},
		{api.ErrType, "one", []api.Value{{Kind: api.Text, Text: "a", Int: 1}}},
		{api.ErrType, "one", []api.Value{{Kind: api.Text, Flag: true}}},
		{api.ErrType, "one", []api.Value{{Int: 1}}},
		{api.ErrType, "one", []api.Value{{Text: "a"}}},
		{api.ErrType, "one", []api.Value{{Kind: 4}}},
		{api.ErrType, "one", []api.Value{{Kind: -1}}},
	} {
		if why := s.Fits(c.kind, c.cells); why != c.why {
			t.Error(c, why)
		}
	}
}

// P7.2
func TestColumns(t *testing.T) {
	ahead := []api.Column{column("space", api.Text), column("name", api.Text)}
	s := set(t, kind("none"), pod(), kind("name", orNull("space", api.Int)), kind("full", columns(api.MaxCols)...))
	for _, x := range s.Kinds() {
		if got, why := s.Columns(x.Name); why != api.OK || !slices.Equal(got, append(slices.Clone(ahead), x.Cols...)) {
			t.Error(x, got, why)
		}
	}
	for _, s := range []*Set{s, set(t), new(Set)} {
		got, why := s.Columns("tenant")
		if why != api.OK || !slices.Equal(got, []api.Column{column("name", api.Text), column("parent", api.Text)}) {
			t.Error("tenant", got, why)
		}
		for _, name := range append(noNames(), "space", "tenan", "pods") {
			if got, why := s.Columns(name); why != api.ErrKind || len(got) != 0 {
				t.Errorf("%q: %v %v", name, got, why)
			}
		}
	}
}

// lines has kinds, and what their lines are.
func lines() map[string]api.Schema {
	return map[string]api.Schema{
		"kind pod image:text cpu:int node:text?":                            kind("pod", column("image", api.Text), column("cpu", api.Int), orNull("node", api.Text)),
		"kind a":                                                            kind("a"),
		"kind kind kind:bool":                                               kind("kind", column("kind", api.Bool)),
		"kind int int:int? text:bool? bool:text?":                           kind("int", orNull("int", api.Int), orNull("text", api.Bool), orNull("bool", api.Text)),
		"kind " + longest + " " + longest + ":bool?":                        kind(longest, orNull(longest, api.Bool)),
		"kind a_0 ca:bool cb:int? cc:text cd:bool? ce:int cf:text?":         kind("a_0", columns(api.MaxCols)...),
		"kind space space:text name:text tenant:text":                       kind("space", column("space", api.Text), column("name", api.Text), column("tenant", api.Text)),
		"kind z b:int a:int c:int z:int":                                    kind("z", column("b", api.Int), column("a", api.Int), column("c", api.Int), column("z", api.Int)),
		"kind tenants " + strings.Repeat("z", api.MaxName) + ":text? a:int": kind("tenants", orNull(strings.Repeat("z", api.MaxName), api.Text), column("a", api.Int)),
	}
}

// P7.3, P7.4
func TestLines(t *testing.T) {
	for line, x := range lines() {
		if got := Line(x); got != line {
			t.Errorf("Line %v: %q, %q", x, got, line)
		}
		if got, why := Read(line); why != api.OK || !sameKind(got, x) {
			t.Errorf("Read %q: %v %v", line, got, why)
		}
	}
	for _, x := range []api.Schema{
		{}, kind("tenant"), kind("Pod"), kind("a", make([]api.Column, api.MaxCols+1)...), kind("a", columns(api.MaxCols+1)...), kind("a", api.Column{}), kind("a", column("b", api.Null)),
		kind("a", column("b", 4)), kind("a", column("b", -1)), kind("a", column("b", math.MinInt64)), kind("a", column("b", api.Int), orNull("b", api.Text)),
		kind("a", column("b:int c", api.Int)), kind("a b:int"), kind("", column("b", api.Int)), kind(longest + "a"), kind("a", column(longest+"a", api.Int)),
	} {
		if got := Line(x); got != "" {
			t.Errorf("Line %v: %q", x, got)
		}
	}
	for _, s := range noNames() {
		if got := Line(kind(s)) + Line(kind("a", column(s, api.Int))); got != "" {
			t.Errorf("Line of %q: %q", s, got)
		}
	}
}

// P7.3
func TestReadRefuses(t *testing.T) {
	wrong := []string{
		"", " ", "kind", "kind ", "kind  ", "pod", "Kind pod", "KIND pod", "kinds pod", " kind pod", "kind  pod", "kind pod ", "kind\tpod", "kind pod\n", "\nkind pod", "kind Pod", "kind tenant", "kind tenant a:int", "kind 0", "kind _a", "kind a\x00", "kind é",
		"kind pod a", "kind pod a:", "kind pod :int", "kind pod a:int:", "kind pod a::int", "kind pod a:Int", "kind pod a:null", "kind pod a:null?", "kind pod a:any", "kind pod a:?", "kind pod a?:int", "kind pod a:int??", "kind pod a:int ?", "kind pod a:int ?b:int",
		"kind pod a :int", "kind pod a: int", "kind pod  a:int", "kind pod a:int  b:int", "kind pod a:int ", "kind pod a:int?\n", "kind pod a:int,b:int", "kind pod A:int", "kind pod 0:int", "kind pod a:intb:int", "kind pod a:int a:text", "kind pod a:int b:text a:int?",
		"kind a a:int b:int c:int d:int e:int f:int g:int", "kind a a:int b:int c:int d:int e:int f:int ", "kind a a:int b:int c:int d:int e:int f:int  ", "kind a a:int b:int c:int d:int e:int f:int g", "kind a a:int b:int c:int d:int e:int f g:int",
		"kind " + longest + "a", "kind a " + longest + "a:int", "kind" + strings.Repeat(" a:int", 1<<12), "kind a" + strings.Repeat(" ", 1<<16), strings.Repeat("kind a ", 1<<12), "kind a " + strings.Repeat("a", 1<<16) + ":int",
	}
	for line := range lines() {
		wrong = append(wrong, " "+line, line+" ", line+"\n", line+"??", strings.ToUpper(line), line+" x:integer", line[1:])
	}
	for _, line := range wrong {
		if x, why := Read(line); why != api.ErrForm || !reflect.ValueOf(x).IsZero() {
			t.Errorf("%q: %v %v", line, x, why)
		}
	}
}

// P7.4, of many kinds: what can be has a line of which it is read, and what can not has none.
func TestLinesOfMany(t *testing.T) {
	r := rand.New(rand.NewSource(1))
	some := []string{"a", "b", "c", "d", "e_1", "tenant", "space", longest}
	for range 4000 {
		x := kind(some[r.Intn(len(some))])
		for range r.Intn(api.MaxCols + 1) {
			x.Cols = append(x.Cols, api.Column{Name: some[r.Intn(len(some))], Kind: r.Intn(30) % 4, Null: r.Intn(2) == 0})
		}
		line := Line(x)
		_, why := New(x)
		if (line != "") != (why == api.OK) {
			t.Fatal("Line", x, line, why)
		}
		got, wrong := Read(line)
		if why == api.OK && (wrong != api.OK || !sameKind(got, x)) || why != api.OK && wrong != api.ErrForm {
			t.Fatal("Read", line, got, wrong)
		}
	}
}

// P7.3, P7.4: a text is read just if it is the line of what is read.
func FuzzRead(f *testing.F) {
	for line := range lines() {
		f.Add(line)
	}
	f.Add("kind a a:int b:int c:int d:int e:int f:int g:int")
	f.Fuzz(func(t *testing.T, line string) {
		x, why := Read(line)
		if why == api.OK && (line == "" || Line(x) != line) || why != api.OK && (why != api.ErrForm || !reflect.ValueOf(x).IsZero()) {
			t.Errorf("%q: %v %v", line, x, why)
		}
	})
}

// P7, of nil: ErrNil, none.
func TestNil(t *testing.T) {
	var s *Set
	if s.Kinds() != nil {
		t.Error("Kinds")
	}
	for _, name := range []string{"", "a", "tenant", strings.Repeat("x", 1<<16)} {
		if x, why := s.Find(name); why != api.ErrNil || !reflect.ValueOf(x).IsZero() {
			t.Error("Find", x, why)
		}
		if l, why := s.Columns(name); why != api.ErrNil || l != nil {
			t.Error("Columns", l, why)
		}
		for _, cells := range [][]api.Value{nil, {{Kind: 9}}} {
			if why := s.Fits(name, cells); why != api.ErrNil {
				t.Error("Fits", why)
			}
		}
	}
}

// Rules 4 and 5: kinds and cells that are handed in are neither kept nor changed, and no list that is answered is the set's own.
func TestNothingShared(t *testing.T) {
	l := []api.Schema{pod(), kind("b", orNull("x", api.Int))}
	cells := []api.Value{{Kind: api.Int, Int: 3}}
	s := set(t, l...)
	line := Line(l[0])
	s.Fits("b", cells)
	if !sameKind(l[0], pod()) || !sameKind(l[1], kind("b", orNull("x", api.Int))) || cells[0] != value.Int(3) || line != "kind pod image:text cpu:int? up:bool" {
		t.Error("changed")
	}
	want := []api.Schema{pod(), kind("b", orNull("x", api.Int))}
	l[0].Name, l[0].Cols[0], l[1].Cols[0] = "x", api.Column{}, api.Column{}
	check(t, s, want...)
	kinds, again := s.Kinds(), s.Kinds()
	kinds[0].Cols[0], kinds[1].Name = api.Column{}, "x"
	_ = append(kinds[:1], api.Schema{})
	_ = append(kinds[1].Cols, api.Column{})
	check(t, s, want...)
	if !slices.EqualFunc(again, want, sameKind) {
		t.Error("answers share", again)
	}
	x, _ := s.Find("pod")
	x.Cols[0] = api.Column{}
	_ = append(x.Cols[:1], api.Column{})
	check(t, s, want...)
	for _, rel := range []string{"tenant", "pod", "b"} {
		cols, _ := s.Columns(rel)
		was := slices.Clone(cols)
		_ = append(cols, api.Column{Name: "y"})
		for i := range cols {
			cols[i] = api.Column{}
		}
		if got, _ := s.Columns(rel); !slices.Equal(got, was) {
			t.Error(rel, got)
		}
	}
	check(t, s, want...)
	read, _ := Read("kind a b:int")
	read.Cols[0].Name = "c"
	if got, _ := Read("kind a b:int"); !sameKind(got, kind("a", column("b", api.Int))) {
		t.Error("Read", got)
	}
}
