package types

import (
	"fmt"
	"math"
	"math/rand"
	"reflect"
	"slices"
	"strings"
	"testing"

	"verderer/api"
	"verderer/parse"
	"verderer/schema"
	"verderer/value"
)

func col(name string, kind int, null bool) api.Column {
	return api.Column{Name: name, Kind: kind, Null: null}
}

// kinds: pod(space, name, image:text, cpu:int?, up:bool), h(space, name, x:int, y:int?, z:text?).
func kinds(t testing.TB) *schema.Set {
	t.Helper()
	s, why := schema.New(
		api.Schema{Name: "pod", Cols: []api.Column{col("image", api.Text, false), col("cpu", api.Int, true), col("up", api.Bool, false)}},
		api.Schema{Name: "h", Cols: []api.Column{col("x", api.Int, false), col("y", api.Int, true), col("z", api.Text, true)}},
	)
	if why != api.OK {
		t.Fatal(why)
	}
	return s
}

func read(t testing.TB, text string) api.Rule {
	t.Helper()
	x, at, why := parse.Rule(text)
	if why != api.OK {
		t.Fatal(text, at, why)
	}
	return x
}

func alike(a, b []api.Column) bool { return len(a) == 0 && len(b) == 0 || reflect.DeepEqual(a, b) }

// said is what a call answers.
type said struct {
	cols []api.Column
	at   int
	why  api.Errno
}

func say(cols []api.Column, at int, why api.Errno) said { return said{cols, at, why} }

func (a said) is(b said) bool { return a.at == b.at && a.why == b.why && alike(a.cols, b.cols) }

func check(t *testing.T, what any, got, want said) {
	t.Helper()
	if !got.is(want) {
		t.Errorf("%v: %v, not %v", what, got, want)
	}
}

func checkVars(t *testing.T, text string, want ...api.Column) {
	t.Helper()
	check(t, text, say(Vars(read(t, text), kinds(t))), said{cols: want})
}

// checkFault asks for a fault at a literal, which Vars and Head both tell.
func checkFault(t *testing.T, body string, at int, why api.Errno, views ...api.Schema) {
	t.Helper()
	// What else is wrong with the head is told behind what is wrong with the literals.
	x := read(t, "view v(nowhere, sum never) if "+body)
	for _, kind := range []int{api.Deny, api.View, api.Quota, 0} {
		x.Kind = kind
		check(t, body, say(Vars(x, kinds(t), views...)), said{at: at, why: why})
		check(t, body, say(Head(x, kinds(t), views...)), said{at: at, why: why})
	}
}

// P14.1
func TestVars(t *testing.T) {
	checkVars(t, "deny big(s, n) if pod(s, n, _, c, _), c > 100", col("s", api.Text, false), col("n", api.Text, false), col("c", api.Int, true))
	checkVars(t, "deny d(a) if tenant(a, b)", col("a", api.Text, false), col("b", api.Text, false))
	checkVars(t, "deny d(a) if tenant(_, _), 1 < 2, not tenant(x, y)")
	checkVars(t, `view v(count) if pod("s", "", "x", null, true)`)
	checkVars(t, `view v(count) if pod(_, _, _, -3, false), h(_, _, 0, 9, null)`)
	// In the order in which they are bound, not in that of the head, nor in that of the names.
	checkVars(t, "deny d(a, z) if h(_, z, y, _, x), pod(a, z, _, _, b)",
		col("z", api.Text, false), col("y", api.Int, false), col("x", api.Text, true), col("a", api.Text, false), col("b", api.Bool, false))
	checkVars(t, "deny d(a) if b < c, not pod(d, e, _, _, _), tenant(f, a), tenant(b, g)",
		col("f", api.Text, false), col("a", api.Text, false), col("b", api.Text, false), col("g", api.Text, false))
}

// P14.1: a column may be null if all may at which the variable stands in atoms that are not negated.
func TestNull(t *testing.T) {
	c, z := col("c", api.Int, true), col("z", api.Text, true)
	checkVars(t, "deny d(c) if pod(_, _, _, c, _), h(_, _, _, c, z)", c, z)
	checkVars(t, "deny d(c) if pod(_, _, _, c, _), h(_, _, c, _, z), h(_, _, _, c, _)", col("c", api.Int, false), z)
	checkVars(t, "deny d(c) if h(_, _, c, c, z)", col("c", api.Int, false), z)
	checkVars(t, "deny d(z) if h(_, z, _, c, z)", col("z", api.Text, false), c)
	checkVars(t, "deny d(z) if h(_, _, _, c, z), tenant(_, z)", c, col("z", api.Text, false))
	// Neither negated atoms nor comparisons tell of it.
	checkVars(t, "deny d(c) if pod(_, _, _, c, _), not h(_, _, c, _, _), c != null, c == 3", c)
	checkVars(t, "deny d(z) if not tenant(z, z), z > \"\", h(_, _, _, _, z)", z)
}

// P14.1: what can not be at an atom.
func TestFaultsOfAtoms(t *testing.T) {
	for _, not := range []string{"", "not "} {
		for body, why := range map[string]api.Errno{
			"pods(s, n)":                api.ErrKind,
			"pod_(s, n, _, _, _)":       api.ErrKind,
			"v(a)":                      api.ErrKind,
			"z()":                       api.ErrKind,
			"pod()":                     api.ErrLong,
			"pod(s, n, _, _)":           api.ErrLong,
			"pod(s, n, _, _, _, _)":     api.ErrLong,
			"pod(3, 3, 3)":              api.ErrLong,
			"tenant(a)":                 api.ErrLong,
			"tenant(a, b, c)":           api.ErrLong,
			"tenant(3, b)":              api.ErrType,
			"tenant(a, null)":           api.ErrType,
			"tenant(null, b)":           api.ErrType,
			"tenant(a, true)":           api.ErrType,
			"pod(_, _, null, _, _)":     api.ErrType,
			"pod(_, _, 3, _, _)":        api.ErrType,
			`pod(_, _, _, "3", _)`:      api.ErrType,
			"pod(_, _, _, true, _)":     api.ErrType,
			"pod(_, _, _, null, null)":  api.ErrType,
			"pod(_, _, _, _, 0)":        api.ErrType,
			"h(_, _, null, null, null)": api.ErrType,
			"h(_, _, _, _, 3)":          api.ErrType,
		} {
			checkFault(t, not+body, 0, why)
			checkFault(t, "1 < 2, "+not+body, 1, why)
			checkFault(t, "tenant(_, _), not tenant(_, _), "+not+body+", 1 < 2, tenant(_, _)", 2, why)
		}
		checkVars(t, "deny d(a) if tenant(a, _), "+not+"pod(_, _, _, null, _)", col("a", api.Text, false))
		checkVars(t, "deny d(a) if tenant(a, _), "+not+"h(_, a, -1, null, null)", col("a", api.Text, false))
	}
}

// P14.1: variables at columns of other kinds.
func TestKinds(t *testing.T) {
	checkFault(t, "pod(s, n, _, c, _), tenant(c, _)", 1, api.ErrType)
	checkFault(t, "tenant(c, _), pod(s, n, _, c, _)", 1, api.ErrType)
	checkFault(t, "pod(s, s, s, s, _)", 0, api.ErrType)
	checkFault(t, "pod(_, _, _, b, b)", 0, api.ErrType)
	checkFault(t, "h(_, _, x, x, x)", 0, api.ErrType)
	checkFault(t, "tenant(a, _), h(_, _, x, _, _), h(_, _, a, x, _)", 2, api.ErrType)
	// Negated ones ask for what others bind, wherever those stand.
	checkFault(t, "pod(_, _, _, c, _), not tenant(c, _)", 1, api.ErrType)
	checkFault(t, "not tenant(c, _), pod(_, _, _, c, _)", 0, api.ErrType)
	checkFault(t, "not h(_, _, _, _, u), pod(_, _, _, _, u)", 0, api.ErrType)
	checkVars(t, "deny d(c) if not h(_, _, c, c, _), pod(_, _, _, c, _)", col("c", api.Int, true))
	// What no atom binds is of no kind: negated ones do not bind.
	checkVars(t, "deny d(a) if tenant(a, _), not pod(x, _, _, x, x), not tenant(x, x), not h(_, _, x, x, x), x < 3, x == a, x != true", col("a", api.Text, false))
}

// P14.1
func TestComparisons(t *testing.T) {
	atoms := "pod(s, _, _, c, u), h(_, _, x, y, z)"
	for _, c := range []string{
		"c == 3", "c < x", "y >= c", "3 <= 4", "s != z", `s > "x"`, `"x" == "y"`, "u == true", "u < u", "false < true", "true != u",
		"c == null", "null == s", "null < null", "u > null", "w == c", "c == w", "w == s", "w == 3", `"x" == w`, "w == v", "null != w", "w == w", "3 == null",
	} {
		for _, text := range []string{atoms + ", " + c, c + ", " + atoms, atoms + ", not tenant(w, v), " + c} {
			checkVars(t, "deny d(s) if "+text, col("s", api.Text, false), col("c", api.Int, true), col("u", api.Bool, false), col("x", api.Int, false), col("y", api.Int, true), col("z", api.Text, true))
		}
	}
	for _, c := range []string{`c == "x"`, "c != s", "s < 3", "z >= y", "u == c", "u == 0", "true > 1", `"true" == true`, `3 == "3"`, "u == s", "s <= u", "x > true"} {
		checkFault(t, atoms+", "+c, 2, api.ErrType)
		checkFault(t, c+", "+atoms, 0, api.ErrType)
		checkFault(t, "w == v, "+atoms+", not tenant(w, v), "+c+", 1 < 2", 4, api.ErrType)
	}
	checkFault(t, `pod(s, n, _, c, _), c == "x"`, 1, api.ErrType)
}

// P14.1: comparisons of another form than rules' texts have, and literals that are none.
func TestForms(t *testing.T) {
	s := kinds(t)
	args := []api.Term{{Var: "a"}, {Val: value.Int(3)}, {Any: true}}
	for _, op := range []int{api.Eq, api.Ge, 7, -1, math.MaxInt, math.MinInt} {
		for _, not := range []bool{false, true} {
			for n := range 4 {
				x := api.Rule{Body: []api.Literal{{Name: "tenant", Args: args[:n], Op: op, Not: not}}}
				want := said{why: api.ErrLong}
				if n == 2 {
					want = said{}
				}
				check(t, x, say(Vars(x, s)), want)
			}
			// A comparison binds nothing, whatever its name is.
			x := api.Rule{Body: []api.Literal{{Name: "tenant", Args: []api.Term{{Var: "a"}, {Var: "b"}}, Op: op, Not: not}}}
			check(t, x, say(Vars(x, s)), said{})
			x.Body = append(x.Body, api.Literal{Name: "pod", Args: []api.Term{{Any: true}, {Var: "a"}, {Any: true}, {Var: "b"}, {Any: true}}})
			check(t, x, say(Vars(x, s)), said{why: api.ErrType})
		}
	}
	for _, c := range []struct {
		term api.Term
		why  [2]api.Errno // at a text that may not be null, and at an int that may
	}{
		{api.Term{Any: true, Var: "a", Val: value.Bool(true)}, [2]api.Errno{}},
		{api.Term{Var: "a", Val: value.Bool(true)}, [2]api.Errno{}},
		{api.Term{Val: value.Int(3)}, [2]api.Errno{0: api.ErrType}},
		{api.Term{Val: api.Value{Kind: api.Text, Int: 3}}, [2]api.Errno{1: api.ErrType}},
		{api.Term{Val: api.Value{Int: 3, Text: "x"}}, [2]api.Errno{0: api.ErrType}},
		{api.Term{Val: api.Value{Kind: 4}}, [2]api.Errno{api.ErrType, api.ErrType}},
		{api.Term{Val: api.Value{Kind: -1}}, [2]api.Errno{api.ErrType, api.ErrType}},
		{api.Term{Val: value.Text(strings.Repeat("x", 1<<20))}, [2]api.Errno{1: api.ErrType}},
	} {
		for i, why := range c.why {
			l := api.Literal{Name: "pod", Args: slices.Repeat([]api.Term{{Any: true}}, 5)}
			l.Args[2+i] = c.term
			var cols []api.Column
			if why == api.OK && !c.term.Any && c.term.Var != "" {
				cols = []api.Column{{Name: "a", Kind: []int{api.Text, api.Int}[i], Null: i == 1}}
			}
			x := api.Rule{Body: []api.Literal{l}}
			check(t, x, say(Vars(x, s)), said{cols: cols, why: why})
		}
	}
}

// P14.1: which of several is told: atoms that are not negated go ahead, and of those, and of the others, the first one.
func TestOrderOfFaults(t *testing.T) {
	checkFault(t, "3 == \"x\", not z(), z(), tenant(3, 3)", 2, api.ErrKind)
	checkFault(t, "3 == \"x\", not z(), tenant(3, 3), z()", 2, api.ErrType)
	checkFault(t, "3 == \"x\", not z(), tenant(3), z()", 2, api.ErrLong)
	checkFault(t, "not z(), 3 == \"x\", tenant(a, b)", 0, api.ErrKind)
	checkFault(t, "3 == \"x\", not z(), tenant(a, b)", 0, api.ErrType)
	checkFault(t, "3 == 3, not z(), tenant(a, b), not tenant(3)", 1, api.ErrKind)
	checkFault(t, "3 == a, not z(), tenant(a, b), not tenant(3)", 0, api.ErrType)
	checkFault(t, "tenant(a, b), 1 == 1, not tenant(3), 1 == true", 2, api.ErrLong)
}

// P14.1: views beside the relations of the Set.
func TestViews(t *testing.T) {
	v := api.Schema{Name: "v", Cols: []api.Column{col("a", api.Int, true), col("b", api.Text, false)}}
	other := api.Schema{Name: "v", Cols: []api.Column{col("a", api.Bool, false)}}
	none := api.Schema{Name: "none"}
	s := kinds(t)
	for _, c := range []struct {
		text  string
		views []api.Schema
		want  said
	}{
		{"deny d(x) if v(x, y)", []api.Schema{v}, said{cols: []api.Column{col("x", api.Int, true), col("y", api.Text, false)}}},
		{"deny d(x) if v(x, y)", []api.Schema{none, v, other}, said{cols: []api.Column{col("x", api.Int, true), col("y", api.Text, false)}}},
		{"deny d(x) if v(x, y)", []api.Schema{other, v}, said{why: api.ErrLong}},
		{"deny d(x) if v(x)", []api.Schema{other, none, v}, said{cols: []api.Column{col("x", api.Bool, false)}}},
		{"deny d(x) if v(x)", []api.Schema{v, other}, said{why: api.ErrLong}},
		{"deny d(x) if v(x, y)", []api.Schema{none}, said{why: api.ErrKind}},
		{"deny d(x) if none()", []api.Schema{none}, said{}},
		{"deny d(x) if none(x)", []api.Schema{none}, said{why: api.ErrLong}},
		{"deny d(x) if v(null, _), not v(_, null)", []api.Schema{v}, said{at: 1, why: api.ErrType}},
		{"deny d(x) if v(x, x)", []api.Schema{v}, said{why: api.ErrType}},
		// Those of the Set are asked, not views of their names.
		{"deny d(x) if tenant(x, _)", []api.Schema{{Name: "tenant", Cols: v.Cols}}, said{cols: []api.Column{col("x", api.Text, false)}}},
		{"deny d(x) if pod(x, _)", []api.Schema{{Name: "pod", Cols: v.Cols}}, said{why: api.ErrLong}},
		{"deny d(x) if tenant(x)", []api.Schema{{Name: "tenant", Cols: other.Cols}}, said{why: api.ErrLong}},
	} {
		check(t, c.text, say(Vars(read(t, c.text), s, c.views...)), c.want)
	}
	checkFault(t, "v(x, y), y == x", 1, api.ErrType, v)
	checkFault(t, "tenant(x, _), v(x, y)", 1, api.ErrType, v)
	// A view of no name, and one of the Set that has no kinds.
	x := api.Rule{Body: []api.Literal{{Args: []api.Term{{Var: "a"}}}}}
	check(t, x, say(Vars(x, s)), said{why: api.ErrKind})
	check(t, x, say(Vars(x, &schema.Set{}, api.Schema{Cols: other.Cols})), said{cols: []api.Column{col("a", api.Bool, false)}})
}

// P14.1: columns of views may be of any kind.
func TestOddColumns(t *testing.T) {
	odd := api.Schema{Name: "odd", Cols: []api.Column{col("a", api.Null, false), col("b", 9, true), col("c", -1, false)}}
	term := func(kind int) api.Term { return api.Term{Val: api.Value{Kind: kind}} }
	for _, c := range []struct {
		args []api.Term
		want said
	}{
		{[]api.Term{{Var: "a"}, {Var: "b"}, {Var: "c"}}, said{cols: []api.Column{col("a", api.Null, false), col("b", 9, true), col("c", -1, false)}}},
		{[]api.Term{term(0), term(9), term(-1)}, said{}},
		{[]api.Term{term(0), term(0), term(-1)}, said{}},
		{[]api.Term{term(0), term(0), term(0)}, said{why: api.ErrType}},
		{[]api.Term{term(api.Int), term(9), term(-1)}, said{why: api.ErrType}},
		{[]api.Term{{Var: "a"}, {Var: "a"}, {Any: true}}, said{why: api.ErrType}},
	} {
		x := api.Rule{Body: []api.Literal{{Name: "odd", Args: c.args}}}
		check(t, c.args, say(Vars(x, kinds(t), odd)), c.want)
	}
}

// P14.2
func TestHead(t *testing.T) {
	s := kinds(t)
	body := " if pod(s, n, _, c, u), h(_, _, x, y, z)"
	text := func(name string) api.Column { return col(name, api.Text, false) }
	number := func(name string) api.Column { return col(name, api.Int, false) }
	for head, want := range map[string][]api.Column{
		"deny d(s)":                  {text("s")},
		"deny d(x, s, z, c, u)":      {number("x"), text("s"), col("z", api.Text, true), col("c", api.Int, true), col("u", api.Bool, false)},
		"view v(s, s, n, s)":         {text("s"), text("s"), text("n"), text("s")},
		"view v(count)":              {number("count")},
		"view v(c, count)":           {col("c", api.Int, true), number("count")},
		"view v(sum x)":              {number("x")},
		"view v(x, s, sum x)":        {number("x"), text("s"), number("x")},
		"view v(z, least x)":         {col("z", api.Text, true), number("x")},
		"view v(y, most x)":          {col("y", api.Int, true), number("x")},
		"quota q(s, count) limit 3":  {text("s"), number("count")},
		"quota q(n, sum x) limit -3": {text("n"), number("x")},
	} {
		check(t, head, say(Head(read(t, head+body), s)), said{cols: want})
	}
	for head, why := range map[string]api.Errno{
		"deny d(a)":                 api.ErrSafe,
		"deny d(s, n, a)":           api.ErrSafe,
		"view v(a, count)":          api.ErrSafe,
		"view v(sum a)":             api.ErrSafe,
		"view v(s, most a)":         api.ErrSafe,
		"view v(a, sum c)":          api.ErrSafe,
		"view v(sum c)":             api.ErrType,
		"view v(s, least y)":        api.ErrType,
		"view v(most s)":            api.ErrType,
		"view v(most z)":            api.ErrType,
		"view v(s, sum u)":          api.ErrType,
		"quota q(a, count) limit 3": api.ErrSafe,
		"quota q(x, sum a) limit 3": api.ErrSafe,
		"quota q(a, sum c) limit 3": api.ErrSafe,
		"quota q(s, sum c) limit 3": api.ErrType,
		"quota q(x, count) limit 3": api.ErrType,
		"quota q(u, count) limit 3": api.ErrType,
		"quota q(z, count) limit 3": api.ErrType,
		"quota q(z, sum x) limit 3": api.ErrType,
		"quota q(c, sum x) limit 3": api.ErrType,
	} {
		check(t, head, say(Head(read(t, head+body), s)), said{at: -1, why: why})
		// What only a negated atom or a comparison has is not bound.
		check(t, head, say(Head(read(t, head+body+", not tenant(a, a), a == 3"), s)), said{at: -1, why: why})
	}
	// A column that may be null in some atom is one that may not, if it may not in another.
	both := "quota q(z, sum y) limit 3 if h(_, _, _, y, z), tenant(z, _), h(_, _, y, _, _)"
	check(t, both, say(Head(read(t, both), s)), said{cols: []api.Column{text("z"), number("y")}})
}

// P14.2: rules of another form than texts have.
func TestHeadForms(t *testing.T) {
	s := kinds(t)
	body := read(t, "deny d(s) if pod(s, n, _, c, u), h(_, _, x, y, z)").Body
	x, c := col("x", api.Int, false), col("s", api.Text, false)
	for _, try := range []struct {
		rule api.Rule
		want said
	}{
		{api.Rule{}, said{}},
		{api.Rule{Kind: api.Quota}, said{}},
		{api.Rule{Kind: api.Quota, Agg: api.Sum, Of: "x"}, said{cols: []api.Column{x}}},
		{api.Rule{Kind: api.Quota, Head: []string{"s", "u"}}, said{cols: []api.Column{c, col("u", api.Bool, false)}}},
		{api.Rule{Kind: api.Quota, Head: []string{"u", "s"}}, said{at: -1, why: api.ErrType}},
		{api.Rule{Kind: api.Quota, Head: []string{"u", "a"}}, said{at: -1, why: api.ErrSafe}},
		{api.Rule{Kind: 4, Head: []string{"u"}}, said{cols: []api.Column{col("u", api.Bool, false)}}},
		{api.Rule{Kind: api.Deny, Head: []string{""}}, said{at: -1, why: api.ErrSafe}},
		{api.Rule{Kind: api.Deny, Agg: api.Count, Of: "a"}, said{cols: []api.Column{col("count", api.Int, false)}}},
		{api.Rule{Kind: api.Deny, Of: "a"}, said{}},
		{api.Rule{Agg: -1, Of: "a"}, said{}},
		{api.Rule{Agg: math.MinInt, Of: "u", Head: []string{"s"}}, said{cols: []api.Column{c}}},
		{api.Rule{Agg: 5, Of: "x"}, said{cols: []api.Column{x}}},
		{api.Rule{Agg: math.MaxInt, Of: "x", Head: []string{"s"}}, said{cols: []api.Column{c, x}}},
		{api.Rule{Agg: 5, Of: "y"}, said{at: -1, why: api.ErrType}},
		{api.Rule{Agg: 5, Of: "a"}, said{at: -1, why: api.ErrSafe}},
		{api.Rule{Agg: api.Sum}, said{at: -1, why: api.ErrSafe}},
	} {
		try.rule.Body = body
		check(t, try.rule, say(Head(try.rule, s)), try.want)
	}
}

// P14.1, P14.2: without a Set.
func TestNil(t *testing.T) {
	v := api.Schema{Name: "v"}
	for _, x := range []api.Rule{{}, read(t, "deny d(a) if tenant(a, _)"), read(t, "deny d(a) if z(a), tenant(3, _)"), {Head: []string{"a"}}} {
		check(t, x, say(Vars(x, nil, v)), said{why: api.ErrNil})
		check(t, x, say(Head(x, nil, v)), said{why: api.ErrNil})
		check(t, x, say(Head(x, nil)), said{why: api.ErrNil})
	}
	check(t, "nothing", say(Vars(api.Rule{}, kinds(t))), said{})
	check(t, "nothing", say(Head(api.Rule{}, &schema.Set{})), said{})
	check(t, "nothing", say(Head(api.Rule{Head: []string{"a"}}, &schema.Set{})), said{at: -1, why: api.ErrSafe})
}

// world is what a rule is held against: relations by their names, the Set's and views.
type world struct {
	set   *schema.Set
	kinds []api.Schema
	views []api.Schema
}

// columns looks for a relation as the chapter's words do.
func (w world) columns(name string) []api.Column {
	texts := func(a, b string) []api.Column { return []api.Column{{Name: a, Kind: 3}, {Name: b, Kind: 3}} }
	if name == "tenant" {
		return texts("name", "parent")
	}
	for _, k := range w.kinds {
		if k.Name == name {
			return append(texts("space", "name"), k.Cols...)
		}
	}
	for _, v := range w.views {
		if v.Name == name {
			return append([]api.Column{}, v.Cols...)
		}
	}
	return nil
}

// seen is that a variable stands at a column of an atom that is not negated.
type seen struct {
	name string
	col  api.Column
}

// column answers a variable's from all places at which it stands; whether there is one.
func column(all []seen, name string) (api.Column, bool) {
	var out api.Column
	n, null := 0, 0
	for _, s := range all {
		if s.name != name {
			continue
		}
		if n++; n == 1 {
			out = api.Column{Name: name, Kind: s.col.Kind}
		}
		if s.col.Null {
			null++
		}
	}
	out.Null = n > 0 && null == n
	return out, n > 0
}

// wanted answers what Vars does, by P14.1.
func (w world) wanted(body []api.Literal) ([]seen, said) {
	var all []seen
	for i, l := range body {
		if l.Op == 0 && !l.Not {
			if why := w.atom(&all, l); why != 0 {
				return nil, said{at: i, why: why}
			}
		}
	}
	for i, l := range body {
		why := api.OK
		switch {
		case l.Op != 0:
			why = compared(all, l.Args)
		case l.Not:
			why = w.atom(&all, l)
		}
		if why != 0 {
			return nil, said{at: i, why: why}
		}
	}
	var out said
	for _, s := range all {
		c, _ := column(all, s.name)
		if !slices.ContainsFunc(out.cols, func(d api.Column) bool { return d.Name == s.name }) {
			out.cols = append(out.cols, c)
		}
	}
	return all, out
}

func (w world) atom(all *[]seen, l api.Literal) api.Errno {
	cols := w.columns(l.Name)
	if cols == nil {
		return api.ErrKind
	}
	if len(cols) != len(l.Args) {
		return api.ErrLong
	}
	for i, a := range l.Args {
		if a.Any {
			continue
		}
		if a.Var == "" {
			if a.Val.Kind != cols[i].Kind && !(a.Val.Kind == 0 && cols[i].Null) {
				return api.ErrType
			}
			continue
		}
		if c, there := column(*all, a.Var); there && c.Kind != cols[i].Kind {
			return api.ErrType
		}
		if !l.Not {
			*all = append(*all, seen{a.Var, cols[i]})
		}
	}
	return 0
}

func compared(all []seen, args []api.Term) api.Errno {
	if len(args) != 2 {
		return api.ErrLong
	}
	var of []int
	for _, a := range args {
		c, there := column(all, a.Var)
		switch {
		case a.Any:
		case a.Var != "" && there:
			of = append(of, c.Kind)
		case a.Var == "" && a.Val.Kind != 0:
			of = append(of, a.Val.Kind)
		}
	}
	if len(of) == 2 && of[0] != of[1] {
		return api.ErrType
	}
	return 0
}

// wantedHead answers what Head does, by P14.2.
func (w world) wantedHead(x api.Rule) said {
	all, vars := w.wanted(x.Body)
	if vars.why != 0 {
		return vars
	}
	var out said
	ask := append([]string{}, x.Head...)
	if x.Agg >= 2 {
		ask = append(ask, x.Of)
	}
	for _, name := range ask {
		c, there := column(all, name)
		if !there {
			return said{at: -1, why: api.ErrSafe}
		}
		out.cols = append(out.cols, c)
	}
	if x.Agg >= 2 {
		if out.cols[len(x.Head)] != col(x.Of, api.Int, false) {
			return said{at: -1, why: api.ErrType}
		}
	} else if x.Agg == 1 {
		out.cols = append(out.cols, col("count", api.Int, false))
	}
	if x.Kind == 3 && len(x.Head) > 0 && (out.cols[0].Kind != 3 || out.cols[0].Null) {
		return said{at: -1, why: api.ErrType}
	}
	return out
}

func one[T any](r *rand.Rand, some ...T) T { return some[r.Intn(len(some))] }

func randomColumns(r *rand.Rand, n int) []api.Column {
	var out []api.Column
	for i := range n {
		out = append(out, col(string(rune('a'+i)), 1+r.Intn(3), r.Intn(2) == 0))
	}
	return out
}

func randomWorld(t *testing.T, r *rand.Rand) world {
	t.Helper()
	var w world
	for _, name := range []string{"k", "l"} {
		w.kinds = append(w.kinds, api.Schema{Name: name, Cols: randomColumns(r, r.Intn(4))})
	}
	s, why := schema.New(w.kinds...)
	if why != api.OK {
		t.Fatal(why)
	}
	w.set = s
	for range r.Intn(5) {
		w.views = append(w.views, api.Schema{Name: one(r, "v", "w", "k", "tenant"), Cols: randomColumns(r, 1+r.Intn(4))})
	}
	return w
}

// randomRule answers one of w's relations; of so many that are tried one term is as it falls.
func (w world) randomRule(r *rand.Rand, astray int) api.Rule {
	x := api.Rule{Kind: 1 + r.Intn(3), Name: "x", Agg: max(0, r.Intn(10)-4), Of: variable(r, one(r, 2, 2, 2, 1, 3))}
	for range one(r, 1, 1, 1, 2, 3, 0) {
		x.Head = append(x.Head, variable(r, one(r, 3, 3, 3, 1, 2)))
	}
	for range r.Intn(8) {
		x.Body = append(x.Body, w.randomLiteral(r, astray))
	}
	return x
}

// variable answers one that most often stands for that kind of values.
func variable(r *rand.Rand, kind int) string {
	return string("xyz"[kind-1]) + one(r, "", "1")
}

func randomTerm(r *rand.Rand, kind, astray int) api.Term {
	if r.Intn(astray) == 0 {
		kind = 1 + r.Intn(3)
	}
	switch r.Intn(5) {
	case 0:
		return api.Term{Any: true}
	case 1:
		return api.Term{Val: []api.Value{value.Bool(true), value.Int(3), value.Text("x")}[kind-1]}
	case 2:
		if r.Intn(4) == 0 {
			return api.Term{}
		}
	}
	return api.Term{Var: variable(r, kind)}
}

func (w world) randomLiteral(r *rand.Rand, astray int) api.Literal {
	var l api.Literal
	if r.Intn(3) == 0 {
		l.Op = 1 + r.Intn(6)
		kind := 1 + r.Intn(3)
		l.Args = []api.Term{randomTerm(r, kind, astray), randomTerm(r, kind, astray)}
	} else {
		l.Not, l.Name = r.Intn(3) == 0, one(r, "k", "k", "l", "l", "tenant", "v", "w")
		for _, c := range w.columns(l.Name) {
			l.Args = append(l.Args, randomTerm(r, c.Kind, astray))
		}
	}
	switch r.Intn(astray * 3) {
	case 0:
		l.Args = append(l.Args, api.Term{Any: true})
	case 1:
		l.Args = l.Args[:len(l.Args)/2]
	case 2:
		l.Name = "u"
	}
	return l
}

// P14.1, P14.2
func TestByDefinition(t *testing.T) {
	r := rand.New(rand.NewSource(1))
	told := map[string]int{}
	for n := range 30000 {
		w := randomWorld(t, r)
		x := w.randomRule(r, one(r, 5, 30, 300))
		_, want := w.wanted(x.Body)
		got := say(Vars(x, w.set, w.views...))
		if !got.is(want) {
			t.Fatalf("%d: Vars(%v, %v, %v): %v, not %v", n, x, w.kinds, w.views, got, want)
		}
		want = w.wantedHead(x)
		got = say(Head(x, w.set, w.views...))
		if !got.is(want) {
			t.Fatalf("%d: Head(%v, %v, %v): %v, not %v", n, x, w.kinds, w.views, got, want)
		}
		told[fmt.Sprint(min(want.at, 0), want.why)]++
	}
	for _, sort := range []string{"0 0", "0 9", "0 11", "0 20", "-1 11", "-1 12"} {
		if told[sort] < 300 {
			t.Error(sort, told)
		}
	}
}

// P14.3: the literals that are not atoms in another order, and at other places among the atoms.
func TestOrder(t *testing.T) {
	r := rand.New(rand.NewSource(1))
	for range 10000 {
		w := randomWorld(t, r)
		x := w.randomRule(r, 300)
		was, wasHead := say(Vars(x, w.set, w.views...)), say(Head(x, w.set, w.views...))
		y := x
		y.Body = moved(r, x.Body)
		now, nowHead := say(Vars(y, w.set, w.views...)), say(Head(y, w.set, w.views...))
		if (was.why == api.OK) != (now.why == api.OK) || (wasHead.why == api.OK) != (nowHead.why == api.OK) {
			t.Fatalf("%v: %v; %v: %v", x, was, y, now)
		}
		if was.why == api.OK && !now.is(was) || wasHead.why == api.OK && !nowHead.is(wasHead) {
			t.Fatalf("%v: %v; %v: %v", x, was, y, now)
		}
	}
}

// moved answers a body whose comparisons, and negated atoms, stand elsewhere.
func moved(r *rand.Rand, body []api.Literal) []api.Literal {
	var atoms, others []api.Literal
	for _, l := range body {
		if l.Op == 0 && !l.Not {
			atoms = append(atoms, l)
		} else {
			others = append(others, l)
		}
	}
	for _, l := range others {
		atoms = slices.Insert(atoms, r.Intn(len(atoms)+1), l)
	}
	return atoms
}

// Rules 4 and 5.
func TestNothingShared(t *testing.T) {
	s := kinds(t)
	views := []api.Schema{{Name: "v", Cols: []api.Column{col("a", api.Int, true)}}}
	x := read(t, "view w(s, x, sum c) if v(x), h(s, _, c, x, _), not v(x), c < 3")
	x.Head = append(make([]string, 0, 8), x.Head...)
	was := fmt.Sprint(x, x.Head[:8], views, s.Kinds())
	for _, call := range []func() said{
		func() said { return say(Vars(x, s, views...)) },
		func() said { return say(Head(x, s, views...)) },
	} {
		first := call()
		if first.why != api.OK || len(first.cols) != 3 {
			t.Fatal(first)
		}
		kept := slices.Clone(first.cols)
		for i := range first.cols {
			first.cols[i] = api.Column{Name: "other"}
		}
		_ = append(first.cols, api.Column{Name: "more"})
		check(t, "again", call(), said{cols: kept})
	}
	if now := fmt.Sprint(x, x.Head[:8], views, s.Kinds()); now != was {
		t.Error(was, now)
	}
	// What was answered hangs on nothing that is changed later.
	out, _, _ := Vars(x, s, views...)
	views[0].Cols[0], x.Body[0].Args[0].Var, x.Head[0] = api.Column{}, "zz", "zz"
	if !alike(out, []api.Column{col("x", api.Int, true), col("s", api.Text, false), col("c", api.Int, false)}) {
		t.Error(out)
	}
}

// P6: lists of any length, and any bytes.
func TestEnds(t *testing.T) {
	s := kinds(t)
	n := 1 << 16
	atom := api.Literal{Name: "tenant", Args: []api.Term{{Var: "a"}, {Var: "b"}}}
	check(t, "many atoms", say(Vars(api.Rule{Body: slices.Repeat([]api.Literal{atom}, n)}, s)), said{cols: []api.Column{col("a", api.Text, false), col("b", api.Text, false)}})
	check(t, "many literals", say(Vars(api.Rule{Body: make([]api.Literal, n)}, s)), said{why: api.ErrKind})
	check(t, "many args", say(Vars(api.Rule{Body: []api.Literal{{Name: "tenant", Args: make([]api.Term, 1<<20)}}}, s)), said{why: api.ErrLong})
	wide := api.Schema{Name: "v", Cols: make([]api.Column, n)}
	vars := api.Literal{Name: "v", Args: make([]api.Term, n)}
	want := make([]api.Column, n)
	head := make([]string, n)
	for i := range n {
		name := fmt.Sprint("v", i)
		head[n-1-i] = name
		vars.Args[i].Var = name
		want[i] = api.Column{Name: name}
	}
	x := api.Rule{Kind: api.View, Head: head, Body: []api.Literal{vars}}
	check(t, "wide", say(Vars(x, s, wide)), said{cols: want})
	slices.Reverse(want)
	check(t, "wide head", say(Head(x, s, wide)), said{cols: want})
	views := make([]api.Schema, n)
	body := make([]api.Literal, n)
	for i := range n {
		views[i].Name = head[i]
		body[n-1-i].Name = head[i]
	}
	check(t, "many views", say(Vars(api.Rule{Body: body}, s, views...)), said{})
	check(t, "wide without atoms", say(Head(api.Rule{Head: head}, s)), said{at: -1, why: api.ErrSafe})
	r := rand.New(rand.NewSource(1))
	for range 20000 {
		w := randomWorld(t, r)
		x := w.randomRule(r, 3)
		spoil(r, &x)
		_, want := w.wanted(x.Body)
		check(t, x, say(Vars(x, w.set, w.views...)), want)
		check(t, x, say(Head(x, w.set, w.views...)), w.wantedHead(x))
	}
}

func spoil(r *rand.Rand, x *api.Rule) {
	b := make([]byte, r.Intn(20))
	r.Read(b)
	x.Kind, x.Agg = one(r, x.Kind, int(r.Uint64())), one(r, x.Agg, int(r.Uint64()))
	x.Head = append(x.Head, one(r, "x", string(b)))
	x.Body = append(x.Body, api.Literal{
		Not: r.Intn(2) == 0, Name: one(r, "k", "tenant", string(b)), Op: one(r, 0, 0, int(r.Uint64())),
		Args: []api.Term{{Any: r.Intn(2) == 0, Var: string(b)}, {Val: api.Value{Kind: int(r.Uint64()), Text: string(b)}}},
	})
}
