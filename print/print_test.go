package print

import (
	"fmt"
	"math"
	"math/rand"
	"reflect"
	"strings"
	"testing"

	"verderer/api"
	"verderer/lex"
	"verderer/parse"
	"verderer/value"
)

func vr(name string) api.Term { return api.Term{Var: name} }

func num(n int64) api.Term { return api.Term{Val: value.Int(n)} }

func quoted(s string) api.Term { return api.Term{Val: value.Text(s)} }

var (
	anyone = api.Term{Any: true}
	null   = api.Term{}
)

func atom(name string, args ...api.Term) api.Literal { return api.Literal{Name: name, Args: args} }

func not(name string, args ...api.Term) api.Literal {
	return api.Literal{Not: true, Name: name, Args: args}
}

func test(left api.Term, op int, right api.Term) api.Literal {
	return api.Literal{Args: []api.Term{left, right}, Op: op}
}

// longest is a text whose word is the longest one.
var longest = strings.Repeat("\xff", api.MaxText)

// bad has values that can not be.
var bad = []api.Value{
	{Kind: 4}, {Kind: -1}, {Kind: math.MaxInt}, {Kind: math.MinInt, Int: 3}, {Flag: true}, {Int: 1}, {Text: "a"},
	{Kind: api.Bool, Int: 1}, {Kind: api.Int, Text: "3"}, {Kind: api.Text, Flag: true}, value.Text(longest + "x"), value.Text(strings.Repeat("a", 1<<20)),
}

// P13.1
func TestTerm(t *testing.T) {
	for want, x := range map[string]api.Term{
		"_":                    anyone,
		"a":                    vr("a"),
		"not":                  vr("not"),
		"a, b":                 vr("a, b"),
		"null":                 null,
		"true":                 {Val: value.Bool(true)},
		"false":                {Val: value.Bool(false)},
		"0":                    num(0),
		"-9223372036854775808": num(math.MinInt64),
		"9223372036854775807":  num(math.MaxInt64),
		`""`:                   quoted(""),
		`"a\"\\\x0a\xff~ "`:    quoted("a\"\\\n\xff~ "),
		`"` + strings.Repeat(`\xff`, api.MaxText) + `"`: quoted(longest),
	} {
		if got := Term(x); got != want {
			t.Errorf("Term(%v): %q, not %q", x, got, want)
		}
	}
	// Of what is more than one of them, the one that is named first.
	for _, v := range append([]api.Value{value.Null(), value.Int(3), value.Text("x")}, bad...) {
		if got := Term(api.Term{Any: true, Var: "a", Val: v}); got != "_" {
			t.Errorf("%v: %q", v, got)
		}
		if got := Term(api.Term{Any: true, Val: v}); got != "_" {
			t.Errorf("%v: %q", v, got)
		}
		if got := Term(api.Term{Var: "a", Val: v}); got != "a" {
			t.Errorf("%v: %q", v, got)
		}
	}
	for _, v := range bad {
		if got := Term(api.Term{Val: v}); got != "" {
			t.Errorf("%v: %q", v, got)
		}
	}
}

func checkLiteral(t *testing.T, l api.Literal, want string) {
	t.Helper()
	if got := Literal(l); got != want {
		t.Errorf("Literal(%v): %q, not %q", l, got, want)
	}
}

// P13.1
func TestLiteral(t *testing.T) {
	checkLiteral(t, atom("p"), "p()")
	checkLiteral(t, not("p"), "not p()")
	checkLiteral(t, atom("p", vr("a")), "p(a)")
	checkLiteral(t, atom("pod", vr("s"), anyone, num(-3), quoted("x, y"), null), `pod(s, _, -3, "x, y", null)`)
	checkLiteral(t, not("pod", anyone, anyone), "not pod(_, _)")
	checkLiteral(t, api.Literal{}, "()")
	checkLiteral(t, api.Literal{Not: true}, "not ()")
	checkLiteral(t, atom("p q", vr("a)")), "p q(a))")
	for op, sign := range map[int]string{api.Eq: "==", api.Ne: "!=", api.Lt: "<", api.Le: "<=", api.Gt: ">", api.Ge: ">="} {
		checkLiteral(t, test(vr("a"), op, num(-3)), "a "+sign+" -3")
		checkLiteral(t, test(null, op, quoted("<")), "null "+sign+` "<"`)
		// Where any can not stand in a rule it has a text, too.
		checkLiteral(t, test(anyone, op, anyone), "_ "+sign+" _")
		// Of a comparison neither Not nor the Name is told.
		checkLiteral(t, api.Literal{Not: true, Name: "p", Args: []api.Term{vr("a"), vr("b")}, Op: op}, "a "+sign+" b")
		for _, n := range []int{0, 1, 3, 4, 1 << 16} {
			checkLiteral(t, api.Literal{Args: make([]api.Term, n), Op: op}, "")
		}
	}
	for _, op := range []int{-1, 7, 8, math.MaxInt, math.MinInt} {
		checkLiteral(t, test(vr("a"), op, vr("b")), "")
		checkLiteral(t, api.Literal{Not: true, Name: "p", Args: []api.Term{vr("a")}, Op: op}, "")
	}
}

// P13.1: of what can not be nothing stands there, but all else does.
func TestLiteralOfBadValues(t *testing.T) {
	for _, v := range bad {
		x := api.Term{Val: v}
		checkLiteral(t, atom("p", x), "p()")
		checkLiteral(t, not("p", vr("a"), x, num(3)), "not p(a, , 3)")
		checkLiteral(t, atom("p", x, x), "p(, )")
		checkLiteral(t, test(x, api.Lt, x), " < ")
		checkLiteral(t, test(vr("a"), api.Ne, x), "a != ")
		checkLiteral(t, test(x, api.Ge, null), " >= null")
	}
}

func checkRule(t *testing.T, x api.Rule, want string, how api.Errno) {
	t.Helper()
	if got, why := Rule(x); got != want || why != how {
		t.Errorf("Rule(%v): %q %v, not %q %v", x, got, why, want, how)
	}
}

// P13.2, P13.3
func TestRule(t *testing.T) {
	for text, want := range map[string]string{
		"deny d( a )if h( a ),a<3":                               "deny d(a) if h(a), a < 3",
		"deny d(a,b,a)if p()":                                    "deny d(a, b, a) if p()",
		"view v(a)if not p(_ ,null,true)":                        "view v(a) if not p(_, null, true)",
		"view\nv(count)if 3==a":                                  "view v(count) if 3 == a",
		"view v(most a)if p(a)":                                  "view v(most a) if p(a)",
		"view v(a,count)if p(a)":                                 "view v(a, count) if p(a)",
		"view v(a,b,sum c)if p(a,b,c)":                           "view v(a, b, sum c) if p(a, b, c)",
		"view v(a,least a)if p(a)":                               "view v(a, least a) if p(a)",
		"quota q(s,count)limit -3 if p(s)":                       "quota q(s, count) limit -3 if p(s)",
		"quota q(s,sum c)limit 0 if p(s,_,c)":                    "quota q(s, sum c) limit 0 if p(s, _, c)",
		`deny d(a)if a!="\"x\x0a"  ,  "" <= null`:                `deny d(a) if a != "\"x\x0a", "" <= null`,
		"quota tenant(s,count)limit 9223372036854775807 if p(s)": "quota tenant(s, count) limit 9223372036854775807 if p(s)",
	} {
		x, _, why := parse.Rule(text)
		if why != api.OK {
			t.Fatal(text, why)
		}
		checkRule(t, x, want, api.OK)
	}
	checkRule(t, api.Rule{Kind: api.Deny, Name: "big", Head: []string{"s", "n"}, Body: []api.Literal{atom("pod", vr("s"), vr("n"), anyone, vr("c"), anyone), test(vr("c"), api.Gt, num(100))}},
		"deny big(s, n) if pod(s, n, _, c, _), c > 100", api.OK)
	// A nil list is an empty one.
	checkRule(t, api.Rule{Kind: api.View, Name: "v", Head: []string{}, Agg: api.Count, Body: []api.Literal{atom("p", []api.Term{}...)}}, "view v(count) if p()", api.OK)
}

func plain() api.Rule {
	return api.Rule{Kind: api.Deny, Name: "d", Head: []string{"a"}, Body: []api.Literal{atom("p", vr("a"))}}
}

func quota() api.Rule {
	return api.Rule{Kind: api.Quota, Name: "q", Head: []string{"s"}, Agg: api.Sum, Of: "c", Limit: 20, Body: []api.Literal{atom("p", vr("s"), vr("c"))}}
}

// P13.2: what no text is.
func TestNoText(t *testing.T) {
	for what, change := range map[string]func(*api.Rule){
		"nothing":              func(x *api.Rule) { *x = api.Rule{} },
		"no kind":              func(x *api.Rule) { x.Kind = 0 },
		"a kind above":         func(x *api.Rule) { x.Kind = 4 },
		"a kind below":         func(x *api.Rule) { x.Kind = math.MinInt },
		"no name":              func(x *api.Rule) { x.Name = "" },
		"a reserved name":      func(x *api.Rule) { x.Name = "count" },
		"a long name":          func(x *api.Rule) { x.Name = strings.Repeat("a", api.MaxName+1) },
		"more than a name":     func(x *api.Rule) { x.Name = "d(b) if p(b), d" },
		"a blank":              func(x *api.Rule) { x.Name = "d " },
		"no head":              func(x *api.Rule) { x.Head = nil },
		"two in one":           func(x *api.Rule) { x.Head = []string{"a, b"} },
		"a value as head":      func(x *api.Rule) { x.Head = []string{"null"} },
		"a wide head":          func(x *api.Rule) { x.Head = strings.Split(strings.Repeat("a", api.MaxWide+1), "") },
		"an aggregate as head": func(x *api.Rule) { x.Kind, x.Head = api.View, []string{"a", "count"} },
		"a sum as head":        func(x *api.Rule) { x.Kind, x.Head = api.View, []string{"sum a"} },
		"of a deny rule":       func(x *api.Rule) { x.Agg = api.Count },
		"an aggregate above":   func(x *api.Rule) { x.Kind, x.Agg = api.View, 5 },
		"an aggregate below":   func(x *api.Rule) { x.Kind, x.Agg = api.View, -1 },
		"a least name":         func(x *api.Rule) { x.Kind, x.Agg, x.Of = api.View, 5, "least a" },
		"of nothing":           func(x *api.Rule) { x.Kind, x.Agg = api.View, api.Most },
		"a count of something": func(x *api.Rule) { x.Kind, x.Agg, x.Of = api.View, api.Count, "a" },
		"of without an agg":    func(x *api.Rule) { x.Of = "a" },
		"a limit":              func(x *api.Rule) { x.Limit = 1 },
		"a quota without agg":  func(x *api.Rule) { x.Kind = api.Quota },
		"no body":              func(x *api.Rule) { x.Body = nil },
		"no literal":           func(x *api.Rule) { x.Body = []api.Literal{{}} },
		"two literals in one":  func(x *api.Rule) { x.Body[0].Name = "p(), q" },
		"any, and a variable":  func(x *api.Rule) { x.Body[0].Args[0].Any = true },
		"a variable's value":   func(x *api.Rule) { x.Body[0].Args[0].Val = value.Int(3) },
		"any's value":          func(x *api.Rule) { x.Body[0].Args[0] = api.Term{Any: true, Val: value.Int(3)} },
		"a bad value":          func(x *api.Rule) { x.Body[0].Args[0] = api.Term{Val: api.Value{Kind: 4}} },
		"a null with an Int":   func(x *api.Rule) { x.Body[0].Args[0] = api.Term{Val: api.Value{Int: 3}} },
		"a variable's name":    func(x *api.Rule) { x.Body[0].Args[0].Var = "A" },
		"a value's word":       func(x *api.Rule) { x.Body[0].Args[0].Var = "3" },
		"any's word":           func(x *api.Rule) { x.Body[0].Args[0].Var = "_" },
		"a reserved variable":  func(x *api.Rule) { x.Body[0].Args[0].Var = "if" },
		"an op above":          func(x *api.Rule) { x.Body[0] = test(vr("a"), 7, vr("b")) },
		"an op below":          func(x *api.Rule) { x.Body[0] = test(vr("a"), -1, vr("b")) },
		"any compared":         func(x *api.Rule) { x.Body[0] = test(vr("a"), api.Eq, anyone) },
		"one compared":         func(x *api.Rule) { x.Body[0] = api.Literal{Args: []api.Term{vr("a")}, Op: api.Eq} },
		"three compared":       func(x *api.Rule) { x.Body[0] = api.Literal{Args: []api.Term{vr("a"), vr("b"), vr("c")}, Op: api.Eq} },
		"not compared":         func(x *api.Rule) { x.Body[0] = test(vr("a"), api.Eq, vr("b")); x.Body[0].Not = true },
		"a compared name":      func(x *api.Rule) { x.Body[0] = test(vr("a"), api.Eq, vr("b")); x.Body[0].Name = "p" },
		"a name not":           func(x *api.Rule) { x.Body[0].Name = "not p" },
		"wide args":            func(x *api.Rule) { x.Body[0].Args = manyOf(anyone, api.MaxWide+1) },
		"too many literals":    func(x *api.Rule) { x.Body = manyOf(test(vr("a"), api.Eq, num(3)), api.MaxLits+1) },
		"too many atoms":       func(x *api.Rule) { x.Body = manyOf(atom("p"), api.MaxAtoms+1) },
	} {
		x := plain()
		change(&x)
		if got, why := Rule(x); got != "" || why != api.ErrForm {
			t.Errorf("%s: %q %v", what, got, why)
		}
	}
	for what, change := range map[string]func(*api.Rule){
		"no head":        func(x *api.Rule) { x.Head = nil },
		"two of it":      func(x *api.Rule) { x.Head = []string{"s", "t"} },
		"least":          func(x *api.Rule) { x.Agg = api.Least },
		"most":           func(x *api.Rule) { x.Agg = api.Most },
		"of nothing":     func(x *api.Rule) { x.Of = "" },
		"a view's limit": func(x *api.Rule) { x.Kind = api.View },
	} {
		x := quota()
		change(&x)
		if got, why := Rule(x); got != "" || why != api.ErrForm {
			t.Errorf("%s: %q %v", what, got, why)
		}
	}
}

func manyOf[T any](x T, n int) []T {
	out := make([]T, n)
	for i := range out {
		out[i] = x
	}
	return out
}

// P13.2: the bytes of the text that there would be, whether it is a rule's or not.
func TestLong(t *testing.T) {
	x := plain()
	x.Body = nil
	whole := "deny d(a) if "
	for range 4 {
		x.Body = append(x.Body, test(quoted(strings.Repeat("x", api.MaxText)), api.Lt, num(1)))
		whole += `"` + strings.Repeat("x", api.MaxText) + `" < 1, `
	}
	whole = strings.TrimSuffix(whole, ", ")
	// A digit more is a byte more.
	for spare := api.MaxRule - len(whole); spare > 0; spare-- {
		x.Body[spare%2].Args[1].Val.Int *= 10
	}
	got, why := Rule(x)
	if why != api.OK || len(got) != api.MaxRule {
		t.Fatal(got, len(got), why)
	}
	x.Name = "dd"
	checkRule(t, x, "", api.ErrLong)
	x.Name = "D"
	checkRule(t, x, "", api.ErrForm)
	x.Name = "DD"
	checkRule(t, x, "", api.ErrLong)
	x = plain()
	x.Name = strings.Repeat("d", api.MaxRule)
	checkRule(t, x, "", api.ErrLong)
	x.Name = strings.Repeat("d", 1<<20)
	checkRule(t, x, "", api.ErrLong)
	for _, n := range []int{1 << 16, 1 << 20} {
		checkRule(t, api.Rule{Head: make([]string, n)}, "", api.ErrLong)
		checkRule(t, api.Rule{Body: make([]api.Literal, n)}, "", api.ErrLong)
		checkRule(t, api.Rule{Body: []api.Literal{{Args: make([]api.Term, n)}}}, "", api.ErrLong)
		// Of these no text is left.
		checkRule(t, api.Rule{Kind: api.Deny, Body: []api.Literal{{Args: make([]api.Term, n), Op: api.Eq}}}, "", api.ErrForm)
	}
	// What is too long for what is read at all is so, too.
	x = plain()
	x.Body = manyOf(atom("p", vr("a")), 60)
	checkRule(t, x, "", api.ErrLong)
}

// P13.2: which of the parts count as how many bytes, seen at the greatest text that is not too long; what is refused is refused as ErrForm up to there.
func TestBytesOfParts(t *testing.T) {
	for _, c := range []struct {
		x    api.Rule
		text string
	}{
		{api.Rule{}, " () if "},
		{api.Rule{Kind: api.Deny, Limit: 1000}, "deny () if "},
		{api.Rule{Kind: api.View, Of: "b"}, "view () if "},
		{api.Rule{Kind: api.Quota}, "quota () limit 0 if "},
		{api.Rule{Kind: api.Quota, Limit: -100}, "quota () limit -100 if "},
		{api.Rule{Kind: 4, Limit: 5}, " () if "},
		{api.Rule{Head: []string{"", ""}}, " (, ) if "},
		{api.Rule{Agg: api.Count, Of: "b"}, " (count) if "},
		{api.Rule{Agg: api.Sum, Of: "b"}, " (sum b) if "},
		{api.Rule{Agg: api.Least, Head: []string{"a"}}, " (a, least ) if "},
		{api.Rule{Agg: api.Most, Head: []string{"a"}, Of: "a"}, " (a, most a) if "},
		{api.Rule{Agg: 5, Head: []string{"a"}, Of: "a"}, " (a,  a) if "},
		{api.Rule{Agg: math.MaxInt, Of: "a"}, " ( a) if "},
		{api.Rule{Agg: -1, Of: "a"}, " () if "},
		{api.Rule{Agg: -1, Head: []string{"a"}, Of: "a"}, " (a, ) if "},
		{api.Rule{Body: []api.Literal{{}, {Not: true}}}, " () if (), not ()"},
		{api.Rule{Body: []api.Literal{{Op: 1}, {Op: 7}, {Op: -1}}}, " () if , , "},
	} {
		spare := api.MaxRule - len(c.text)
		c.x.Name = strings.Repeat("n", spare)
		checkRule(t, c.x, "", api.ErrForm)
		c.x.Name += "n"
		checkRule(t, c.x, "", api.ErrLong)
	}
}

// wanted is a rule's text by its definition.
func wanted(x api.Rule) string {
	head := append([]string{}, x.Head...)
	if x.Agg != 0 {
		agg := map[int]string{1: "count", 2: "sum", 3: "least", 4: "most"}[x.Agg]
		if x.Agg >= 2 {
			agg += " " + x.Of
		}
		head = append(head, agg)
	}
	limit := ""
	if x.Kind == api.Quota {
		limit = fmt.Sprintf(" limit %d", x.Limit)
	}
	var body []string
	for _, l := range x.Body {
		body = append(body, wantedLiteral(l))
	}
	kind := map[int]string{1: "deny", 2: "view", 3: "quota"}[x.Kind]
	return fmt.Sprintf("%s %s(%s)%s if %s", kind, x.Name, strings.Join(head, ", "), limit, strings.Join(body, ", "))
}

func wantedLiteral(l api.Literal) string {
	var args []string
	for _, a := range l.Args {
		args = append(args, wantedTerm(a))
	}
	sign := map[int]string{1: "==", 2: "!=", 3: "<", 4: "<=", 5: ">", 6: ">="}[l.Op]
	switch {
	case l.Op != 0 && (sign == "" || len(args) != 2):
		return ""
	case l.Op != 0:
		return fmt.Sprintf("%s %s %s", args[0], sign, args[1])
	case l.Not:
		return fmt.Sprintf("not %s(%s)", l.Name, strings.Join(args, ", "))
	}
	return fmt.Sprintf("%s(%s)", l.Name, strings.Join(args, ", "))
}

func wantedTerm(a api.Term) string {
	if a.Any {
		return "_"
	}
	if a.Var != "" {
		return a.Var
	}
	return value.Show(a.Val)
}

// one answers one of some.
func one[T any](r *rand.Rand, some ...T) T { return some[r.Intn(len(some))] }

// often answers what is right, or seldom another thing.
func often[T any](r *rand.Rand, right T, other ...T) T {
	if r.Intn(60) == 0 {
		return one(r, other...)
	}
	return right
}

func randomName(r *rand.Rand) string {
	return often(r, one(r, "a", "b", "c_1", "pod", strings.Repeat("z", api.MaxName)), "", "count", "if", "true", "A", "_", "3", "a ", "a, b", `"`, "p(a), q", strings.Repeat("z", api.MaxName+1))
}

func randomTerm(r *rand.Rand, anyToo bool) api.Term {
	switch n := r.Intn(9); {
	case n < 4:
		return api.Term{Var: randomName(r), Val: often(r, api.Value{}, value.Int(3), value.Text(""))}
	case n < 5 && (anyToo || r.Intn(20) == 0):
		return api.Term{Any: true, Var: often(r, "", "a"), Val: often(r, api.Value{}, value.Bool(true))}
	case n < 6:
		return api.Term{Val: often(r, value.Null(), bad...)}
	case n < 7:
		return api.Term{Val: value.Bool(r.Intn(2) == 0)}
	case n < 8:
		return api.Term{Val: value.Int(one[int64](r, 0, -1, 7, math.MaxInt64, math.MinInt64))}
	}
	return api.Term{Val: value.Text(one(r, "", "x", `a"b\`, "\x00\xff", ", ", "é"))}
}

func randomLiteral(r *rand.Rand) api.Literal {
	if r.Intn(2) == 0 {
		l := api.Literal{Not: often(r, false, true), Name: often(r, "", "p"), Op: often(r, 1+r.Intn(6), -1, 7)}
		for range often(r, 2, 0, 1, 3) {
			l.Args = append(l.Args, randomTerm(r, false))
		}
		return l
	}
	l := api.Literal{Not: r.Intn(3) == 0, Name: randomName(r)}
	for range r.Intn(5) {
		l.Args = append(l.Args, randomTerm(r, true))
	}
	return l
}

func randomRule(r *rand.Rand) api.Rule {
	x := api.Rule{Kind: often(r, 1+r.Intn(3), 0, 4, -1), Name: randomName(r)}
	aggs := []int{0}
	switch x.Kind {
	case api.View:
		aggs = []int{0, 1, 2, 3, 4}
	case api.Quota:
		aggs = []int{1, 2}
	}
	x.Agg = often(r, one(r, aggs...), -1, 0, 1, 2, 3, 4, 5)
	if x.Agg > 1 {
		x.Of = randomName(r)
	}
	if x.Kind == api.Quota {
		x.Limit = r.Int63n(100) - 50
	}
	x.Limit = often(r, x.Limit, 1, -1)
	heads := 1 + r.Intn(3)
	if x.Kind == api.Quota {
		heads = often(r, 1, 0, 2)
	}
	for range heads {
		x.Head = append(x.Head, randomName(r))
	}
	for range often(r, 1+r.Intn(8), 0, 11) {
		x.Body = append(x.Body, randomLiteral(r))
	}
	return x
}

// P13.1 to P13.3
func TestByDefinition(t *testing.T) {
	r := rand.New(rand.NewSource(1))
	told := map[api.Errno]int{}
	for range 15000 {
		x := randomRule(r)
		for _, l := range x.Body {
			checkLiteral(t, l, wantedLiteral(l))
		}
		text := wanted(x)
		again, _, why := parse.Rule(text)
		switch {
		case len(text) > api.MaxRule:
			text, why = "", api.ErrLong
		case why != api.OK || !parse.Same(again, x):
			text, why = "", api.ErrForm
		}
		told[why]++
		checkRule(t, x, text, why)
		if why == api.OK {
			checkThereAndBack(t, text)
		}
	}
	for _, why := range []api.Errno{api.OK, api.ErrForm, api.ErrLong} {
		if told[why] == 0 {
			t.Error(told)
		}
	}
}

// checkThereAndBack asks for P13.3 of a text that is a rule's.
func checkThereAndBack(t *testing.T, text string) {
	t.Helper()
	x, _, why := parse.Rule(text)
	if why != api.OK {
		t.Fatal(text, why)
	}
	printed, why := Rule(x)
	if why == api.ErrLong {
		return
	}
	y, at, how := parse.Rule(printed)
	if why != api.OK || how != api.OK || at != 0 || !parse.Same(x, y) {
		t.Fatalf("%q: %q %v %v", text, printed, why, how)
	}
	if twice, why := Rule(y); twice != printed || why != api.OK {
		t.Fatalf("%q: %q, then %q %v", text, printed, twice, why)
	}
}

// P13.3: whatever stands between a rule's tokens, what is printed is one text; a rule that fits in a text may be too long when it is printed.
func TestThereAndBack(t *testing.T) {
	r := rand.New(rand.NewSource(1))
	for n := 0; n < 2000; {
		text, why := Rule(randomRule(r))
		if why != api.OK {
			continue
		}
		n++
		checkThereAndBack(t, text)
		tokens, _, _ := lex.Read(text)
		spread := ""
		for _, x := range tokens {
			spread += x.Text + one(r, " ", "\n", " \n ")
		}
		if x, _, why := parse.Rule(spread); why == api.OK {
			checkRule(t, x, text, api.OK)
		}
	}
	tight := "deny d(a)if " + strings.TrimSuffix(strings.Repeat("p(a,_,_,_,_,_,_,_,_,_,_,_,_,_,_,_,_,_,_,_,_),", 6), ",")
	x, _, why := parse.Rule(tight)
	if why != api.OK {
		t.Fatal(tight, why)
	}
	checkRule(t, x, "", api.ErrLong)
}

// Rules 4 and 5: what is handed in is as it was, and so is the room behind it.
func TestNothingShared(t *testing.T) {
	x := quota()
	x.Head = append(make([]string, 0, 4), "s")
	x.Body = append(make([]api.Literal, 0, 4), x.Body...)
	before := fmt.Sprint(x, x.Head[:4], x.Body[:4])
	text, why := Rule(x)
	if why != api.OK || text != "quota q(s, sum c) limit 20 if p(s, c)" {
		t.Fatal(text, why)
	}
	Literal(x.Body[0])
	if after := fmt.Sprint(x, x.Head[:4], x.Body[:4]); after != before {
		t.Error(before, after)
	}
	y := quota()
	x.Head, x.Body = y.Head, y.Body
	if !reflect.DeepEqual(x, y) {
		t.Error(x)
	}
}

// P6: any bytes as names, variables and texts, any numbers.
func TestEnds(t *testing.T) {
	r := rand.New(rand.NewSource(1))
	for range 20000 {
		x := randomRule(r)
		spoil(r, &x)
		text := wanted(x)
		got, why := Rule(x)
		switch {
		case why == api.OK && got == text && len(text) <= api.MaxRule:
		case why == api.ErrLong && got == "" && len(text) > api.MaxRule:
		case why == api.ErrForm && got == "" && len(text) <= api.MaxRule:
		default:
			t.Fatalf("%v: %q %v", x, got, why)
		}
	}
}

func spoil(r *rand.Rand, x *api.Rule) {
	b := make([]byte, r.Intn(40))
	r.Read(b)
	switch r.Intn(6) {
	case 0:
		x.Name = string(b)
	case 1:
		x.Head = append(x.Head, string(b))
	case 2:
		x.Of = string(b)
	case 3:
		x.Kind, x.Agg, x.Limit = int(r.Uint64()), int(r.Uint64()), int64(r.Uint64())
	case 4:
		x.Body = append(x.Body, api.Literal{Name: string(b), Args: []api.Term{{Var: string(b)}, {Val: value.Text(string(b))}}, Op: one(r, 0, 1, int(r.Uint64()))})
	case 5:
		x.Body = append(x.Body, api.Literal{Not: true, Args: []api.Term{{Val: api.Value{Kind: int(r.Uint64()), Text: string(b)}}}})
	}
}

func FuzzRule(f *testing.F) {
	for _, s := range []string{"deny d( a )if h( a ),a<3", "view v(a, count) if p(a, _, null), not q(\"\\x0a\")", "quota q(s, sum c) limit 20 if p(s, c)"} {
		f.Add(s)
	}
	f.Fuzz(func(t *testing.T, text string) {
		if _, _, why := parse.Rule(text); why == api.OK {
			checkThereAndBack(t, text)
		}
	})
}
