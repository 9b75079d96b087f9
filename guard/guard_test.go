package guard

import (
	"fmt"
	"math"
	"math/rand"
	"slices"
	"strings"
	"testing"

	"verderer/api"
	"verderer/parse"
	"verderer/value"
)

func read(t testing.TB, text string) api.Rule {
	t.Helper()
	x, at, why := parse.Rule(text)
	if why != api.OK {
		t.Fatal(text, at, why)
	}
	return x
}

// free is what Free answers.
type free struct {
	name string
	at   int
	ok   bool
}

func freeOf(x api.Rule) free {
	name, at, ok := Free(x)
	return free{name, at, ok}
}

// said is what Check answers.
type said struct {
	at  int
	why api.Errno
}

func say(x api.Rule) said {
	at, why := Check(x)
	return said{at, why}
}

func checkBound(t *testing.T, x api.Rule, want ...string) {
	t.Helper()
	if got := Bound(x); !slices.Equal(got, want) {
		t.Errorf("Bound(%v): %q, not %q", x, got, want)
	}
}

func checkFree(t *testing.T, x api.Rule, want free) {
	t.Helper()
	if got := freeOf(x); got != want {
		t.Errorf("Free(%v): %v, not %v", x, got, want)
	}
}

func checkSaid(t *testing.T, x api.Rule, want said) {
	t.Helper()
	if got := say(x); got != want {
		t.Errorf("Check(%v): %v, not %v", x, got, want)
	}
}

// checkBoth asks Free, and Check, of a rule that has an atom that is not negated.
func checkBoth(t *testing.T, x api.Rule, want free) {
	t.Helper()
	checkFree(t, x, want)
	if want.ok {
		checkSaid(t, x, said{want.at, api.ErrSafe})
	} else {
		checkSaid(t, x, said{0, api.OK})
	}
}

// P15.1
func TestBound(t *testing.T) {
	for text, want := range map[string][]string{
		"deny big(s, n) if pod(s, n, _, c, _), c > 100":       {"s", "n", "c"},
		"deny d(a) if h(b)":                                   {"b"},
		"deny d(a) if h()":                                    nil,
		`deny d(a) if h(_, 3, "b", null, true, _)`:            nil,
		"deny d(a, b) if h(c, b, a), h(d, b)":                 {"c", "b", "a", "d"},
		"deny d(a) if h(z, z, y, z), k(y, x, z), k(x)":        {"z", "y", "x"},
		"deny d(a) if h(_, b, 1, c), not k(d), k(e, _, b)":    {"b", "c", "e"},
		"deny d(a) if not h(a, b), c == d, 1 < e, k(d, a)":    {"d", "a"},
		"deny d(a) if not h(a), not k(a, b), a == b":          nil,
		"deny d(a) if a == b, b == c":                         nil,
		"view v(x, sum y) if h(_, w)":                         {"w"},
		"quota q(s, count) limit 3 if h(_, u), k(u, s), h(s)": {"u", "s"},
	} {
		checkBound(t, read(t, text), want...)
	}
}

// P15.1: Head, and then Of.
func TestFreeOfHead(t *testing.T) {
	for text, name := range map[string]string{
		"deny d(a) if h(b)":                                   "a",
		"deny d(a) if h()":                                    "a",
		"deny d(a, b, c) if h(a, c)":                          "b",
		"deny d(c, b, a) if h(a, x)":                          "c",
		"deny d(a, a, b) if h(b)":                             "a",
		"deny d(b, a, a) if h(b)":                             "a",
		"view v(a, b) if h(b), z == y":                        "a",
		"view v(a, count) if h(b)":                            "a",
		"quota q(s, count) limit 3 if h(t)":                   "s",
		"view v(sum b) if h(a)":                               "b",
		"view v(least b) if h(a), not k(z)":                   "b",
		"view v(a, most b) if z < 3, h(a)":                    "b",
		"view v(c, sum b) if h(a)":                            "c",
		"view v(a, c, sum b) if h(a, b)":                      "c",
		"quota q(s, sum c) limit 3 if h(s, d), not h(e)":      "c",
		"quota q(s, sum c) limit 3 if h(c, d), not h(e)":      "s",
		"view v(most b) if not k(b), h(a), b == 3, b == null": "b",
		// What stands in negated atoms and comparisons alone is not bound.
		"deny d(a) if h(x), not h(a)": "a",
		"deny d(a) if not h(a), h(x)": "a",
		"deny d(a) if h(x), a == x":   "a",
		"deny d(a) if a == a, h(_)":   "a",
	} {
		checkBoth(t, read(t, text), free{name, -1, true})
	}
}

// P15.1: literal by literal, each from its first arg on.
func TestFreeOfLiterals(t *testing.T) {
	for text, want := range map[string]free{
		"deny d(a) if h(a), not k(b)":                        {"b", 1, true},
		"deny d(a) if not k(b), h(a)":                        {"b", 0, true},
		"deny d(a) if not k(a, b, c), h(a)":                  {"b", 0, true},
		"deny d(a) if not k(_, 1, c, b), h(a)":               {"c", 0, true},
		"deny d(a) if h(a), b == 3":                          {"b", 1, true},
		"deny d(a) if h(a), 3 == b":                          {"b", 1, true},
		"deny d(a) if h(a), a < b":                           {"b", 1, true},
		"deny d(a) if h(a), c < b":                           {"c", 1, true},
		"deny d(a) if h(a), b != b":                          {"b", 1, true},
		"deny d(a) if h(a), b < a, not k(c)":                 {"b", 1, true},
		"deny d(a) if h(a), not k(c), b < a":                 {"c", 1, true},
		"deny d(a) if h(a), 1 < 2, not k(), not k(_), b < a": {"b", 4, true},
		"deny d(a) if x == x, h(a), not k(b), c == b":        {"x", 0, true},
		"view v(count) if h(_), not k(b)":                    {"b", 1, true},
		"view v(a, sum b) if h(a, b), not k(b), not k(c)":    {"c", 2, true},
		"quota q(s, count) limit 3 if not k(c), h(_, s)":     {"c", 0, true},
		"deny d(a) if not k(b), not h(b), h(a, c)":           {"b", 0, true},
		"deny d(a) if not k(b), b == c, h(a, b)":             {"c", 1, true},
	} {
		checkBoth(t, read(t, text), want)
	}
}

// P15.1: all that is asked is bound, some of it by atoms that come later.
func TestNoneFree(t *testing.T) {
	for _, text := range []string{
		"deny d(a) if h(a)",
		"deny big(s, n) if pod(s, n, _, c, _), c > 100",
		"deny d(a, b, a) if h(b), k(a)",
		"view v(count) if h()",
		"view v(a, sum b) if h(b, a), k(c)",
		"view v(a, least a) if h(a)",
		"view v(most b) if h(a), h(b)",
		"quota q(s, sum c) limit 3 if not k(c), h(c, s)",
		"deny d(a) if not k(b), h(a, b)",
		"deny d(a) if not k(b, a), b < c, h(a), h(_, b), k(c)",
		"deny d(a) if not k(b), c < b, not k(c), h(a), h(c), h(b)",
		"deny d(a) if b == c, h(c), h(b), h(a)",
		`deny d(a) if h(a), 1 == 2, "x" != null, not k("b", true, _)`,
	} {
		checkBoth(t, read(t, text), free{})
	}
}

// P15.1: Of is asked of Sum, Least and Most alone.
func TestOf(t *testing.T) {
	body := read(t, "deny d(a) if h(a), not k(z)").Body
	for _, kind := range []int{api.Deny, api.View, api.Quota, 0, 9} {
		for _, agg := range []int{api.Plain, api.Count, -1, 5, math.MaxInt, math.MinInt} {
			checkBoth(t, api.Rule{Kind: kind, Head: []string{"a"}, Agg: agg, Of: "b", Body: body}, free{"z", 1, true})
			checkBoth(t, api.Rule{Kind: kind, Head: []string{"a"}, Agg: agg, Of: "b", Body: body[:1]}, free{})
		}
		for _, agg := range []int{api.Sum, api.Least, api.Most} {
			checkBoth(t, api.Rule{Kind: kind, Head: []string{"a"}, Agg: agg, Of: "b", Body: body}, free{"b", -1, true})
			checkBoth(t, api.Rule{Kind: kind, Agg: agg, Of: "b", Body: body}, free{"b", -1, true})
			checkBoth(t, api.Rule{Kind: kind, Head: []string{"c"}, Agg: agg, Of: "b", Body: body}, free{"c", -1, true})
			checkBoth(t, api.Rule{Kind: kind, Head: []string{"a"}, Agg: agg, Of: "a", Body: body}, free{"z", 1, true})
			checkBoth(t, api.Rule{Kind: kind, Agg: agg, Body: body}, free{"", -1, true})
		}
	}
}

// P15.1: literals and terms of another form than rules' texts have.
func TestForms(t *testing.T) {
	h := api.Literal{Name: "h", Args: []api.Term{{Var: "a"}}}
	// Any is no variable, whatever its name is; nor is a value, whatever its kind is.
	odd := []api.Term{{Any: true, Var: "b"}, {Any: true, Var: "c", Val: value.Int(3)}, {}, {Val: value.Text("b")}, {Val: api.Value{Kind: 9, Text: "c"}}, {Var: "d", Val: value.Int(3)}}
	checkBound(t, api.Rule{Body: []api.Literal{{Name: "k", Args: odd}, h}}, "d", "a")
	checkBoth(t, api.Rule{Body: []api.Literal{h, {Not: true, Name: "k", Args: odd}}}, free{"d", 1, true})
	checkBoth(t, api.Rule{Body: []api.Literal{h, {Op: api.Eq, Args: odd[:5]}}}, free{})
	checkBoth(t, api.Rule{Head: []string{"b"}, Body: []api.Literal{h, {Name: "k", Args: odd}}}, free{"b", -1, true})
	checkBoth(t, api.Rule{Head: []string{""}, Body: []api.Literal{h, {Name: "k", Args: odd}}}, free{"", -1, true})
	// What has an Op is a comparison, of any Op, of so many args, of any name, negated or not: it binds nothing.
	for _, op := range []int{api.Eq, api.Ge, 7, -1, math.MaxInt, math.MinInt} {
		for _, not := range []bool{false, true} {
			for n := range 4 {
				l := api.Literal{Op: op, Not: not, Name: "h", Args: []api.Term{{Var: "a"}, {Var: "a"}, {Var: "b"}}[:n]}
				x := api.Rule{Body: []api.Literal{l}}
				checkBound(t, x)
				checkSaid(t, x, said{-1, api.ErrSafe})
				want := free{"a", 0, true}
				if n == 0 {
					want = free{}
				}
				checkFree(t, x, want)
				x.Body = []api.Literal{l, h}
				want = free{"b", 0, true}
				if n < 3 {
					want = free{}
				}
				checkBound(t, x, "a")
				checkBoth(t, x, want)
			}
		}
	}
	// An atom needs no name.
	checkBoth(t, api.Rule{Head: []string{"b"}, Body: []api.Literal{{Args: []api.Term{{Var: "b"}}}}}, free{})
	checkBoth(t, api.Rule{Body: []api.Literal{{}}}, free{})
	checkBoth(t, api.Rule{Head: []string{"if", "A b", "\xff"}, Body: []api.Literal{{Args: []api.Term{{Var: "\xff"}, {Var: "if"}, {Var: "A b"}}}}}, free{})
	checkBoth(t, api.Rule{Head: []string{"\xff"}, Body: []api.Literal{{Args: []api.Term{{Var: "\xfe"}, {Var: "\uFFFD"}}}}}, free{"\xff", -1, true})
}

// P15.2: without an atom that is not negated, whatever is free, or if nothing is.
func TestNoAtom(t *testing.T) {
	for _, text := range []string{
		"view v(count) if 1 == 1",
		"view v(count) if not h()",
		"view v(count) if not h(_, 3), 1 < 2",
		"view v(count) if not h(b)",
		"view v(count) if 1 == 1, b == 3",
		"deny d(a) if not h(a)",
		"deny d(a) if not k(), a == 3",
		"deny d(a) if a == b",
		"view v(sum b) if not h(b)",
	} {
		checkSaid(t, read(t, text), said{-1, api.ErrSafe})
	}
	checkFree(t, read(t, "view v(count) if not h(_, 3), 1 < 2"), free{})
	checkFree(t, read(t, "view v(count) if 1 == 1, not h(b)"), free{"b", 1, true})
	for _, x := range []api.Rule{{}, {Body: []api.Literal{}}, {Kind: api.Quota, Limit: 3}} {
		checkBound(t, x)
		checkFree(t, x, free{})
		checkSaid(t, x, said{-1, api.ErrSafe})
	}
	checkFree(t, api.Rule{Head: []string{"a"}}, free{"a", -1, true})
}

// stands tells that a variable stands somewhere in a rule, and whether what stands there binds it.
type stands struct {
	name  string
	at    int
	binds bool
}

// all answers where the variables of a rule stand, by the chapter's words: what the head and the aggregate ask, then the literals.
func all(x api.Rule) []stands {
	var out []stands
	for _, name := range x.Head {
		out = append(out, stands{name, -1, false})
	}
	if x.Agg == 2 || x.Agg == 3 || x.Agg == 4 {
		out = append(out, stands{x.Of, -1, false})
	}
	for i, l := range x.Body {
		for _, a := range l.Args {
			if a.Var != "" && !a.Any {
				out = append(out, stands{a.Var, i, l.Op == 0 && !l.Not})
			}
		}
	}
	return out
}

func boundIn(all []stands, name string) bool {
	return slices.ContainsFunc(all, func(s stands) bool { return s.binds && s.name == name })
}

// wanted answers what Bound, Free and Check do, by P15.1 and P15.2.
func wanted(x api.Rule) ([]string, free, said) {
	var bound []string
	places := all(x)
	for _, s := range places {
		if s.binds && !slices.Contains(bound, s.name) {
			bound = append(bound, s.name)
		}
	}
	var first free
	for _, s := range slices.Backward(places) {
		if !boundIn(places, s.name) {
			first = free{s.name, s.at, true}
		}
	}
	atoms := 0
	for _, l := range x.Body {
		if l.Op == 0 && !l.Not {
			atoms++
		}
	}
	switch {
	case atoms == 0:
		return bound, first, said{-1, api.ErrSafe}
	case first.ok:
		return bound, first, said{first.at, api.ErrSafe}
	}
	return bound, first, said{}
}

func one[T any](r *rand.Rand, some ...T) T { return some[r.Intn(len(some))] }

func randomTerm(r *rand.Rand) api.Term {
	switch r.Intn(8) {
	case 0:
		return api.Term{Any: true, Var: one(r, "", "", "a")}
	case 1:
		return api.Term{Val: one(r, value.Null(), value.Int(3), value.Text("a"), value.Bool(true))}
	}
	return api.Term{Var: one(r, "a", "b", "c", "d", "e")}
}

func randomRule(r *rand.Rand) api.Rule {
	x := api.Rule{Kind: 1 + r.Intn(3), Name: "x", Agg: r.Intn(7) - 1, Of: one(r, "a", "b", "c")}
	for range r.Intn(3) {
		x.Head = append(x.Head, one(r, "a", "b", "c", "d"))
	}
	for range r.Intn(7) {
		l := api.Literal{Name: one(r, "h", "k"), Not: r.Intn(4) == 0}
		if r.Intn(4) == 0 {
			l.Op = 1 + r.Intn(6)
		}
		for range r.Intn(4) {
			l.Args = append(l.Args, randomTerm(r))
		}
		x.Body = append(x.Body, l)
	}
	return x
}

func checkWanted(t *testing.T, x api.Rule) said {
	t.Helper()
	bound, first, so := wanted(x)
	checkBound(t, x, bound...)
	checkFree(t, x, first)
	checkSaid(t, x, so)
	return so
}

// P15.1, P15.2
func TestByDefinition(t *testing.T) {
	r := rand.New(rand.NewSource(1))
	told := map[string]int{}
	for range 30000 {
		so := checkWanted(t, randomRule(r))
		told[fmt.Sprint(so.why, min(so.at, 2))]++
		if t.Failed() {
			return
		}
	}
	for _, sort := range []string{"0 0", "12 -1", "12 0", "12 1", "12 2"} {
		if told[sort] < 300 {
			t.Error(sort, told)
		}
	}
}

// P15.3: with an atom of all its variables, at any place, each rule is so; and what is so has nothing free.
func TestOneAtomMore(t *testing.T) {
	r := rand.New(rand.NewSource(1))
	for range 10000 {
		x := randomRule(r)
		more := api.Literal{Name: "more"}
		for _, name := range append([]string{x.Of}, x.Head...) {
			more.Args = append(more.Args, api.Term{Var: name})
		}
		for _, l := range x.Body {
			more.Args = append(more.Args, l.Args...)
		}
		x.Body = slices.Insert(x.Body, r.Intn(len(x.Body)+1), more)
		checkBoth(t, x, free{})
		if t.Failed() {
			return
		}
	}
}

// P15.3: each rule, of those that texts are, that is so, and each that is not.
func TestOneAtomMoreOfTexts(t *testing.T) {
	for _, text := range []string{
		"deny d(a) if h(b)",
		"deny d(a) if not k(b), a == c",
		"view v(a, most b) if h(c), not k(d)",
		"quota q(s, sum c) limit 3 if 1 == 2",
	} {
		if at, why := Check(read(t, text)); why != api.ErrSafe || at != -1 {
			t.Error(text, at, why)
		}
		checkBoth(t, read(t, text+", more(a, b, c, d, s)"), free{})
	}
}

// Rules 4, 5 and 6.
func TestNothingShared(t *testing.T) {
	x := read(t, "view w(s, sum c) if not v(x), v(x), h(s, _, c, x, _), c < y")
	// What stands behind the head in its memory is the caller's.
	x.Head = append(make([]string, 0, 8), x.Head...)
	was := fmt.Sprint(x, x.Head[:8])
	want := []string{"x", "s", "c"}
	for range 2 {
		got := Bound(x)
		if !slices.Equal(got, want) {
			t.Fatal(got)
		}
		for i := range got {
			got[i] = "other"
		}
		_ = append(got, "more")
		checkBoth(t, x, free{"y", 3, true})
	}
	if now := fmt.Sprint(x, x.Head[:8]); now != was {
		t.Error(was, now)
	}
	// What was answered hangs on nothing that is changed later.
	got := Bound(x)
	x.Body[1].Args[0].Var, x.Head[0] = "zz", "zz"
	if !slices.Equal(got, want) {
		t.Error(got)
	}
	checkBound(t, x, "zz", "s", "c", "x")
}

// P6: lists of any length, and any bytes.
func TestEnds(t *testing.T) {
	n := 1 << 16
	names := make([]string, n)
	atoms := make([]api.Literal, n)
	wide := api.Literal{Name: "h", Args: make([]api.Term, n)}
	for i := range n {
		names[i] = fmt.Sprint("v", i)
		wide.Args[i].Var = names[i]
		atoms[n-1-i] = api.Literal{Name: "h", Args: wide.Args[i : i+1]}
	}
	x := api.Rule{Head: names, Body: []api.Literal{wide}}
	checkBound(t, x, names...)
	checkBoth(t, x, free{})
	x.Body = atoms
	checkBoth(t, x, free{})
	x.Body[3].Not = true
	checkFree(t, x, free{names[n-4], -1, true})
	x.Head = nil
	checkFree(t, x, free{names[n-4], 3, true})
	x.Body[n-1].Args = []api.Term{{Var: strings.Repeat("x", 1<<20)}}
	checkSaid(t, x, said{3, api.ErrSafe})
	checkBoth(t, api.Rule{Body: make([]api.Literal, n)}, free{})
	checkBoth(t, api.Rule{Body: []api.Literal{{Args: make([]api.Term, n)}}}, free{})
	r := rand.New(rand.NewSource(1))
	for range 10000 {
		x := randomRule(r)
		spoil(r, &x)
		checkWanted(t, x)
	}
}

func spoil(r *rand.Rand, x *api.Rule) {
	b := make([]byte, r.Intn(20))
	r.Read(b)
	x.Kind, x.Agg, x.Of = int(r.Uint64()), one(r, x.Agg, int(r.Uint64())), one(r, x.Of, string(b))
	x.Head = append(x.Head, one(r, "a", "", string(b)))
	x.Body = append(x.Body, api.Literal{
		Not: r.Intn(2) == 0, Name: string(b), Op: one(r, 0, 0, int(r.Uint64())),
		Args: []api.Term{{Any: r.Intn(2) == 0, Var: string(b)}, {Val: api.Value{Kind: int(r.Uint64()), Text: string(b)}}},
	})
}
