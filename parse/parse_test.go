package parse

import (
	"math"
	"math/rand"
	"reflect"
	"strconv"
	"strings"
	"testing"

	"verderer/api"
	"verderer/lex"
	"verderer/value"
)

func vr(name string) api.Term { return api.Term{Var: name} }

func num(n int64) api.Term { return api.Term{Val: value.Int(n)} }

func text(s string) api.Term { return api.Term{Val: value.Text(s)} }

var (
	anyone = api.Term{Any: true}
	null   = api.Term{}
)

func atom(name string, args ...api.Term) api.Literal { return api.Literal{Name: name, Args: args} }

func not(name string, args ...api.Term) api.Literal {
	return api.Literal{Not: true, Name: name, Args: args}
}

func test(left api.Term, op int, right api.Term) api.Literal {
	return api.Literal{Args: []api.Term{left, right}, Op: op}
}

func checkRule(t *testing.T, text string, want api.Rule) {
	t.Helper()
	got, at, why := Rule(text)
	if at != 0 || why != api.OK || !alike(got, want) {
		t.Errorf("Rule(%q): %v %v %v, not %v", text, got, at, why, want)
	}
}

// alike holds two rules against each other by their words, in which a nil list is an empty one, and nothing of the package is asked.
func alike(a, b api.Rule) bool { return reflect.DeepEqual(full(a), full(b)) }

func full(x api.Rule) api.Rule {
	x.Head = append([]string{}, x.Head...)
	x.Body = append([]api.Literal{}, x.Body...)
	for i, l := range x.Body {
		x.Body[i].Args = append([]api.Term{}, l.Args...)
	}
	return x
}

func checkFault(t *testing.T, text string, where int, how api.Errno) {
	t.Helper()
	got, at, why := Rule(text)
	if at != where || why != how || !reflect.ValueOf(got).IsZero() {
		t.Errorf("Rule(%q): %v %v %v, not %v %v", text, got, at, why, where, how)
	}
}

// checkAt asks for a fault where a ^ stands, which is not part of the text.
func checkAt(t *testing.T, marked string, how api.Errno) {
	t.Helper()
	checkFault(t, strings.Replace(marked, "^", "", 1), strings.Index(marked, "^"), how)
}

// P12.1
func TestDeny(t *testing.T) {
	checkRule(t, "deny big(s, n) if pod(s, n, _, c, _), c > 100", api.Rule{
		Kind: api.Deny, Name: "big", Head: []string{"s", "n"},
		Body: []api.Literal{atom("pod", vr("s"), vr("n"), anyone, vr("c"), anyone), test(vr("c"), api.Gt, num(100))},
	})
	checkRule(t, "deny d(a)if p()", api.Rule{Kind: api.Deny, Name: "d", Head: []string{"a"}, Body: []api.Literal{atom("p")}})
	// Which variables there are, and whether relations are, is not asked here.
	checkRule(t, "deny tenant(a, a, b) if not tenant(a, \"x\", null), 1 < 2", api.Rule{
		Kind: api.Deny, Name: "tenant", Head: []string{"a", "a", "b"},
		Body: []api.Literal{not("tenant", vr("a"), text("x"), null), test(num(1), api.Lt, num(2))},
	})
}

// P12.1
func TestView(t *testing.T) {
	body := []api.Literal{atom("p", vr("a"), vr("b"))}
	for head, want := range map[string]api.Rule{
		"a":          {Head: []string{"a"}},
		"b, a":       {Head: []string{"b", "a"}},
		"count":      {Agg: api.Count},
		"sum a":      {Agg: api.Sum, Of: "a"},
		"least b":    {Agg: api.Least, Of: "b"},
		"most z":     {Agg: api.Most, Of: "z"},
		"a, count":   {Head: []string{"a"}, Agg: api.Count},
		"a, b,sum a": {Head: []string{"a", "b"}, Agg: api.Sum, Of: "a"},
		"a,least b":  {Head: []string{"a"}, Agg: api.Least, Of: "b"},
		"a , most b": {Head: []string{"a"}, Agg: api.Most, Of: "b"},
	} {
		want.Kind, want.Name, want.Body = api.View, "v_1", body
		checkRule(t, "view v_1("+head+") if p(a, b)", want)
	}
}

// P12.1
func TestQuota(t *testing.T) {
	body := []api.Literal{atom("p", vr("s"), vr("c"))}
	for _, n := range []int64{0, 20, -1, math.MaxInt64, math.MinInt64} {
		for agg, want := range map[string]api.Rule{"count": {Agg: api.Count}, "sum c": {Agg: api.Sum, Of: "c"}} {
			want.Kind, want.Name, want.Head, want.Limit, want.Body = api.Quota, "q", []string{"s"}, n, body
			checkRule(t, "quota q(s, "+agg+") limit "+strconv.FormatInt(n, 10)+" if p(s, c)", want)
		}
	}
}

// P12.1
func TestLiterals(t *testing.T) {
	longest := strings.Repeat("z", api.MaxName)
	for body, want := range map[string][]api.Literal{
		"p()":                     {atom("p")},
		"not p ( )":               {not("p")},
		"p(_)":                    {atom("p", anyone)},
		"p(_,_ ,a)":               {atom("p", anyone, anyone, vr("a"))},
		"not p(a, _)":             {not("p", vr("a"), anyone)},
		"p(null, true,false)":     {atom("p", null, api.Term{Val: value.Bool(true)}, api.Term{Val: value.Bool(false)})},
		`p(0, -7, "", "a\"\x0a")`: {atom("p", num(0), num(-7), text(""), text("a\"\n"))},
		"a == b":                  {test(vr("a"), api.Eq, vr("b"))},
		"a!=1":                    {test(vr("a"), api.Ne, num(1))},
		"1<a":                     {test(num(1), api.Lt, vr("a"))},
		"a<=-3":                   {test(vr("a"), api.Le, num(-3))},
		`"x" > null`:              {test(text("x"), api.Gt, null)},
		"null >= null":            {test(null, api.Ge, null)},
		"true == false":           {test(api.Term{Val: value.Bool(true)}, api.Eq, api.Term{Val: value.Bool(false)})},
		"p(p), p == p, not p(p)":  {atom("p", vr("p")), test(vr("p"), api.Eq, vr("p")), not("p", vr("p"))},
		"tenant(nulll), trues<a":  {atom("tenant", vr("nulll")), test(vr("trues"), api.Lt, vr("a"))},
		longest + "(" + longest + "), " + longest + " < 2": {atom(longest, vr(longest)), test(vr(longest), api.Lt, num(2))},
	} {
		checkRule(t, "deny d(a) if "+body, api.Rule{Kind: api.Deny, Name: "d", Head: []string{"a"}, Body: want})
	}
}

// P12.1: lex's error, and where, whatever else is wrong.
func TestFaultsOfTokens(t *testing.T) {
	for _, c := range []string{
		"^A", "deny d(a) if p(a)^.", "deny deny deny ^#", ") ^=", "view v(a) if p(a, ^01)", "view v(a) if p(a, ^1a)", `view v(a) if p(a, ^"x)`, "deny d(a) if a ^= b",
		"deny d(a) if p(a) ^-", "deny^\td(a) if p(a)", `deny d(a) if p(^"` + strings.Repeat("x", api.MaxText+1) + `")`, "quota q(s, count) limit ^9223372036854775808 if p(s)",
	} {
		checkAt(t, c, api.ErrForm)
	}
	whole := "deny d(a) if p(a)"
	checkRule(t, whole+strings.Repeat(" ", api.MaxRule-len(whole)), api.Rule{Kind: api.Deny, Name: "d", Head: []string{"a"}, Body: []api.Literal{atom("p", vr("a"))}})
	for _, c := range []string{whole + strings.Repeat(" ", api.MaxRule+1-len(whole)), strings.Repeat("A", api.MaxRule+1), strings.Repeat("(", 1<<20), strings.Repeat("deny d(a) if ", 1<<16)} {
		checkFault(t, c, 0, api.ErrLong)
	}
}

// P12.1: where the first token begins with which no rule's text goes on.
func TestFaults(t *testing.T) {
	for _, c := range []string{
		"^", " \n^", "^d", "^if", "^(", "^null", "^3", `^"deny"`, "^_", "^rule d(a) if p(a)", "^deny_ d(a) if p(a)",
		"deny ^", "deny  ^", "deny ^(a) if p(a)", "deny ^deny(a) if p(a)", "deny ^count(a) if p(a)", "deny ^null(a) if p(a)", `deny ^"d"(a) if p(a)`, "deny ^3", "deny ^_", "deny ^_a",
		"deny ^" + strings.Repeat("d", api.MaxName+1) + "(a) if p(a)",
		"deny d^", "deny d ^a", "deny d ^if p(a)", "deny d^, (", "deny d ^_", "deny d^)",
		"deny d(^", "deny d(^) if p(a)", "deny d(^,a) if p(a)", "deny d(^_) if p(a)", "deny d(^3) if p(a)", "deny d(^null) if p(a)", "deny d(^not) if p(a)", "deny d(^(a) if p(a)",
		"deny d(^count) if p(a)", "deny d(a, ^count) if p(a)", "deny d(a, ^sum a) if p(a)", "deny d(^" + strings.Repeat("a", api.MaxName+1) + ") if p(a)",
		"deny d(a^", "deny d(a ^b) if p(a)", "deny d(a,^", "deny d(a,^) if p(a)", "deny d(a,^,b) if p(a)", "deny d(a^(b) if p(a)", "deny d(a ^if p(a)", "deny d(a ^< 3) if p(a)",
		"deny d(a)^", "deny d(a) ^p(a)", "deny d(a)^, p(a)", "deny d(a) ^limit 3 if p(a)", "deny d(a) ^iff p(a)", "deny d(a)^)", "deny d(a) ^not p(a)", "deny d(a) ^deny",
		"view v(^)", "view v(^,count)", "view v(count^, a)", "view v(count ^a)", "view v(a, count^, b)", "view v(a, sum^)", "view v(a, sum ^3)", "view v(a, sum ^_)", "view v(a, sum ^count)", "view v(a, most ^null)",
		"view v(a, least b^, c)", "view v(a, least b ^c)", "view v(sum^, a)", "view v(a, ^not)", "view v(a ^count)", "view v(a, count) ^limit 3 if p(a)", "view v(a,^", "view v(a, count^", "view v(a, most a^", "view ^view(a)",
		"view v(a, sum ^" + strings.Repeat("a", api.MaxName+1) + ")",
		"quota q(^)", "quota q(^count) limit 3 if p(a)", "quota q(s^) limit 3 if p(s)", "quota q(s ^count)", "quota q(s,^)", "quota q(s, ^t, count)", "quota q(s, ^3)", "quota q(s, ^_)",
		"quota q(s, ^least c) limit 3 if p(s, c)", "quota q(s, ^most c) limit 3 if p(s, c)", "quota q(s, ^least 3)", "quota q(s, ^most)", "quota q(s, ^most", "quota q(s, sum^) limit 3", "quota q(s, sum ^sum)", "quota q(s, count ^c)", "quota q(s, count^, c)",
		"quota q(s, count) ^if p(s)", "quota q(s, count) ^3", "quota q(s, count)^", "quota q(s, count) limit^", "quota q(s, count) limit ^if p(s)", "quota q(s, count) limit ^s", "quota q(s, count) limit ^null", "quota q(s, count) limit ^true",
		`quota q(s, count) limit ^"3" if p(s)`, "quota q(s, count) limit ^limit", "quota q(s, count) limit ^(3)", "quota q(s, count) limit 3^", "quota q(s, count) limit 3^, if p(s)", "quota q(s, count) limit 3 ^4 if p(s)", "quota q(s, count) limit 3^-4 if p(s)", "quota q(s, count) limit 3 ^p(s)",
	} {
		checkAt(t, c, api.ErrForm)
	}
}

// P12.1: the same, in the literals.
func TestFaultsOfLiterals(t *testing.T) {
	for _, c := range []string{
		"^", " ^", "^,", "^(a)", "^)", "^_", "^_ < 3", "^==", "^< 3", "^if", "^if p(a)", "^count(a)", "^limit < 3", "^deny", "^" + strings.Repeat("p", api.MaxName+1) + "(a)", "^" + strings.Repeat("p", api.MaxName+1) + " < 3",
		"p^", "p ^a", "p^)", "p^,", "p ^_", "p ^3", "p ^not", "p ^if", `p^"x"`, "p^-3",
		"p(^", "p(^,a)", "p(^(a))", "p(^not a)", "p(^<)", "p(^count)", "p(^if)", "p(a^", "p(a ^b)", "p(a^-1)", "p(a^(b))", "p(a,^", "p(a,^)", "p(a,^,b)", "p(a ^< 3)", "p(a, ^not)", "p(_^_)", "p(_^a)", "p(_^(", "p(null ^null)", "p(3^", "p(_,^", "p(^" + strings.Repeat("a", api.MaxName+1) + ")",
		"p(a)^(b)", "p(a) ^p(b)", "p(a) ^if", "p(a) ^< 3", "p(a)^)", "p(a) ^not p(b)", "p(a) ^_", "p(a) ^3", "p(a),^", "p(a), ^", "p(a),^,p(b)", "p(a), ^)", "p(a), ^_", "p(a), ^if", "p(a), ^< 3", "p(),^",
		"not^", "not ^not p(a)", "not ^3", "not ^null", "not^(a)", "not ^_", "not ^if(a)", "not ^count(a)", "not p^", "not p^,", "not p ^< 3", "not p(^", "not p(a^", "not p(a)^(", "not a ^== b", "not p(a) ^p(a)", "not ^" + strings.Repeat("p", api.MaxName+1) + "(a)",
		"3^", "3^(a)", "null^(a)", "true ^3", "null ^a", `"x"^,`, "3^)", "3 ^_", "false ^if", "3^-3 == 3",
		"a <^", "a <^< 3", "a < ^_", "a == ^not", "a == ^if", "a == ^(b)", "a == ^)", "a ==^,", "a == ^count", "3 <^", "a < ^" + strings.Repeat("a", api.MaxName+1),
		"a < b^(c)", "a < b ^< c", "a < b ^c", "a < b^)", "a < 3 ^_", "a < b,^", "null == null ^null", "a < b ^not p(a)",
	} {
		checkAt(t, "deny d(a) if "+c, api.ErrForm)
		checkAt(t, "view v(a, most b) if p(a), not q(), "+c, api.ErrForm)
		checkAt(t, "quota q(a, count) limit -3 if null < 3, "+c, api.ErrForm)
	}
}

// times answers so many of s with a comma between.
func times(s string, many int) string {
	return strings.TrimSuffix(strings.Repeat(s+",", many), ",")
}

// P12.1
func TestTooManyOfHead(t *testing.T) {
	full := times("a", api.MaxWide)
	for _, c := range []string{"deny d(" + full + ") if p()", "view v(" + full + ") if p()", "view v(" + full + ", count) if p()", "view v(" + full + ", sum a) if p()"} {
		if x, at, why := Rule(c); why != api.OK || at != 0 || len(x.Head) != api.MaxWide {
			t.Errorf("Rule(%q): %v %v %v", c, x, at, why)
		}
	}
	for _, kind := range []string{"deny", "view"} {
		head := kind + " d(" + full
		for _, c := range []string{",^a) if p()", ", ^b, count) if p()", ",^a", ",^a,", ",^a, 3) if", ",^a,a,a,a) deny", ",^a ( ("} {
			checkAt(t, head+c, api.ErrLong)
		}
		for _, c := range []string{"^", ",^", ",^)", ",^3", ",^_", ",^if", ",^null", ",^" + strings.Repeat("a", api.MaxName+1), "^(", " ^a"} {
			checkAt(t, head+c, api.ErrForm)
		}
	}
	checkAt(t, "deny d("+full+",^count) if p()", api.ErrForm)
	checkAt(t, "view v("+full+",count^,a) if p()", api.ErrForm)
	checkAt(t, "deny d(^3, "+full+",a) if p()", api.ErrForm)
}

// P12.1
func TestTooManyArgs(t *testing.T) {
	for _, not := range []string{"", "not "} {
		head := "deny d(a) if p(), " + not + "p("
		for _, arg := range []string{"a", "_", "3"} {
			full := times(arg, api.MaxWide)
			if x, at, why := Rule(head + full + "), p(b)"); why != api.OK || at != 0 || len(x.Body[1].Args) != api.MaxWide {
				t.Error(arg, x, at, why)
			}
			for _, c := range []string{",^a)", ",^_)", ",^3)", ",^null", `,^""`, ",^a,", ",^_ if", ",^_(", ",^a,a,a,)"} {
				checkAt(t, head+full+c, api.ErrLong)
			}
			for _, c := range []string{"^", ",^", ",^)", ",^(", ",^not", ",^if", ",^,", ",^" + strings.Repeat("a", api.MaxName+1), " ^_"} {
				checkAt(t, head+full+c, api.ErrForm)
			}
		}
		checkAt(t, head+"^if,"+times("_", api.MaxWide+1)+")", api.ErrForm)
	}
}

// P12.1: a literal too many is told by its first token.
func TestTooManyLiterals(t *testing.T) {
	for _, one := range []string{"a<b", "not p(a)", "3==3"} {
		full := "view v(a) if " + times(one, api.MaxLits)
		if x, at, why := Rule(full); why != api.OK || at != 0 || len(x.Body) != api.MaxLits {
			t.Error(one, x, at, why)
		}
		for _, c := range []string{",^p(a)", ",^p", ",^a < b", ",^a < b, a < b", ",^not p(a)", ",^not", ",^not 3", ",^3 < 4", ",^3", ",^null", `,^""`, ",^p if", ",^a a", ",^p(,"} {
			checkAt(t, full+c, api.ErrLong)
		}
		for _, c := range []string{",^", ", ^", ",^if", ",^_", ",^(", ",^,", ",^)", ",^<", ",^count", "^(", " ^p", ",^" + strings.Repeat("p", api.MaxName+1)} {
			checkAt(t, full+c, api.ErrForm)
		}
	}
	checkAt(t, "view v(a) if a < b, a < ^_, "+times("a<b", api.MaxLits), api.ErrForm)
	// Atoms are literals, too.
	mixed := "deny d(a) if " + times("p(a)", api.MaxAtoms) + "," + times("not q(a)", api.MaxLits-api.MaxAtoms)
	if x, at, why := Rule(mixed); why != api.OK || at != 0 || len(x.Body) != api.MaxLits {
		t.Error(x, at, why)
	}
	checkAt(t, mixed+", ^p(a)", api.ErrLong)
	checkAt(t, mixed+", ^p", api.ErrLong)
}

// P12.1: an atom too many is told by its name, as soon as its left bracket is there.
func TestTooManyAtoms(t *testing.T) {
	full := "deny d(a) if " + times("p(a)", api.MaxAtoms)
	for _, c := range []string{"", ", a < b", ", not p(a)", ", not p(a), a < b, not q(), 3 < 4"} {
		head := full + c
		if x, at, why := Rule(head); why != api.OK || at != 0 || len(x.Body) < api.MaxAtoms {
			t.Error(head, x, at, why)
		}
		if strings.Count(c, ",") == api.MaxLits-api.MaxAtoms {
			continue
		}
		for _, c := range []string{", ^p(a)", ", ^q(", ", ^q ( ,", ", ^q()", ", ^q(a), q(a)", ", ^q(if"} {
			checkAt(t, head+c, api.ErrLong)
		}
		for _, c := range []string{", p^", ", p^)", ", p^,", ", p ^a", ", not p^", ", null^(a)", ", not p(^,"} {
			checkAt(t, head+c, api.ErrForm)
		}
		if _, _, why := Rule(head + ", p == 3"); why != api.OK {
			t.Error(head, why)
		}
	}
	apart := "deny d(a) if p(), a < b, p(), not p(), p(), p(), p(), p()"
	if _, _, why := Rule(apart); why != api.OK {
		t.Error(why)
	}
	checkAt(t, apart+", ^p()", api.ErrLong)
	checkAt(t, "deny d(a) if p(p^(a)), "+times("p(a)", api.MaxAtoms), api.ErrForm)
}

// whole has rules' texts, among them all forms.
func whole() []string {
	return []string{
		"deny big(s, n) if pod(s, n, _, c, _), c > 100",
		"deny d(a) if p()",
		`view v(a, b) if p(a, "x y", null, -5), not q(_), a != "\"", 3 <= b`,
		"view v(count) if p(_)",
		"view v(most a) if p(a)",
		"view v(a, count) if p(a), true == false",
		"view v(a, b, least c) if p(a, b, c)",
		"quota q(s, count) limit -3 if p(s)",
		"quota q(s, sum c) limit 20 if pod(s, _, c), not tenant(s, s)",
	}
}

// textsOf answers the texts of a text's tokens, but for the End's.
func textsOf(t *testing.T, text string) []string {
	t.Helper()
	l, _, why := lex.Read(text)
	if why != api.OK {
		t.Fatal(text, why)
	}
	var out []string
	for _, x := range l[:len(l)-1] {
		out = append(out, x.Text)
	}
	return out
}

// P12.1: a text that ends ahead of its rule's end, by a word or another token, is refused at its end.
func TestEarlyEnd(t *testing.T) {
	for _, text := range whole() {
		l := textsOf(t, text)
		for n := range l {
			part := strings.Join(l[:n], " ")
			// Behind a literal a rule may end.
			if _, _, why := Rule(part); why == api.OK && l[n] == "," {
				continue
			}
			checkFault(t, part, len(part), api.ErrForm)
			checkFault(t, part+" \n", len(part)+2, api.ErrForm)
			checkFault(t, part+" #", len(part)+1, api.ErrForm)
		}
	}
}

// goes says with which sorts of tokens a rule's text goes on, and where it stands then. A sort is a letter: d, v, q deny, view, quota; n a name; i an Int, k another constant; o a comparison; l limit; f if; x not; c count; s sum; m least or most; w a word too long; a sign itself; . the end.
var goes = map[string]map[string]string{
	"start":     {"d": "deny", "v": "view", "q": "quota"},
	"deny":      {"n": "deny("},
	"deny(":     {"(": "deny var"},
	"deny var":  {"n": "deny ,"},
	"deny ,":    {",": "deny var", ")": "if"},
	"view":      {"n": "view("},
	"view(":     {"(": "view var"},
	"view var":  {"n": "view ,", "c": ")if", "sm": "view of"},
	"view ,":    {",": "view var", ")": "if"},
	"view of":   {"n": ")if"},
	")if":       {")": "if"},
	"quota":     {"n": "quota("},
	"quota(":    {"(": "quota var"},
	"quota var": {"n": "quota ,"},
	"quota ,":   {",": "quota agg"},
	"quota agg": {"c": "quota )", "s": "quota of"},
	"quota of":  {"n": "quota )"},
	"quota )":   {")": "limit"},
	"limit":     {"l": "bound"},
	"bound":     {"i": "if"},
	"if":        {"f": "literal"},
	"literal":   {"n": "name", "ik": "term", "x": "not"},
	"not":       {"n": "not("},
	"not(":      {"(": "args"},
	"name":      {"(": "args", "o": "right"},
	"term":      {"o": "right"},
	"right":     {"nik": "behind"},
	"args":      {")": "behind", "nik_": "arg ,"},
	"arg":       {"nik_": "arg ,"},
	"arg ,":     {",": "arg", ")": "behind"},
	"behind":    {",": "literal", ".": "end"},
}

func next(at, sort string) string {
	for sorts, to := range goes[at] {
		if strings.Contains(sorts, sort) {
			return to
		}
	}
	return ""
}

var sorts = strings.Split("dvqniklfxcsmwo(),_", "")

// spelt answers a text of a sort of tokens.
func spelt(r *rand.Rand, sort string) string {
	some := map[string][]string{
		"d": {"deny"}, "v": {"view"}, "q": {"quota"}, "n": {"a", "b", "z_9"}, "i": {"0", "-12", "7"}, "k": {"null", "true", `"a"`}, "l": {"limit"}, "f": {"if"}, "x": {"not"},
		"c": {"count"}, "s": {"sum"}, "m": {"least", "most"}, "w": {strings.Repeat("w", api.MaxName+1)}, "o": {"==", "!=", "<", "<=", ">", ">="},
	}[sort]
	if len(some) == 0 {
		return sort
	}
	return some[r.Intn(len(some))]
}

// piece is a token of a text, and where it stands.
type piece struct {
	sort, text string
	at         int
}

// walk answers a text that goes on as goes says, but for one token of so many that are tried, and its pieces, the end among them; of so many brackets that are tried one closes.
func walk(r *rand.Rand, astray, closing int) (string, []piece) {
	var text string
	var out []piece
	ends := 30 + r.Intn(250)
	for at := "start"; len(text) < ends || at != "behind" && len(text) < 280; {
		sort := sorts[r.Intn(len(sorts))]
		to := next(at, sort)
		if to == "" && r.Intn(astray) != 0 || sort == ")" && r.Intn(closing) != 0 {
			continue
		}
		p := piece{sort, spelt(r, sort), len(text)}
		text += p.text + []string{" ", "\n"}[r.Intn(2)]
		out = append(out, p)
		if at = to; at == "" {
			at = "behind"
		}
	}
	return text, append(out, piece{".", "", len(text)})
}

// follow answers what goes, and the limits, say of a text's pieces.
func follow(l []piece) (int, api.Errno) {
	at, head, args, literals, atoms := "start", 0, 0, 0, 0
	for i, p := range l {
		to := next(at, p.sort)
		if to == "" {
			return p.at, api.ErrForm
		}
		switch at + to {
		case "deny vardeny ,", "view varview ,":
			head++
		case "literalname", "literalterm", "literalnot":
			args = 0
			literals++
		case "nameargs":
			atoms++
			if atoms > api.MaxAtoms {
				return l[i-1].at, api.ErrLong
			}
		case "argsarg ,", "argarg ,":
			args++
		}
		if head > api.MaxWide || args > api.MaxWide || literals > api.MaxLits {
			return p.at, api.ErrLong
		}
		at = to
	}
	return 0, api.OK
}

// P12.1: any tokens, against a table of which go on with which.
func TestByTable(t *testing.T) {
	r := rand.New(rand.NewSource(1))
	count := map[api.Errno]int{}
	for n := range 6000 {
		text, l := walk(r, []int{200, 2000, 1 << 30}[n%3], []int{1, 50}[n%2])
		where, how := follow(l)
		x, at, why := Rule(text)
		if at != where || why != how || why != api.OK && !reflect.ValueOf(x).IsZero() {
			t.Fatalf("Rule(%q): %v %v %v, not %v %v", text, x, at, why, where, how)
		}
		count[why]++
		if why == api.OK {
			checkSpelling(t, text, x)
		}
	}
	if count[api.OK] < 500 || count[api.ErrForm] < 500 || count[api.ErrLong] < 500 {
		t.Error("too few of a sort", count)
	}
}

// checkSpelling: x, written again word by word, is the text, blanks apart.
func checkSpelling(t *testing.T, text string, x api.Rule) {
	t.Helper()
	if got, want := strings.Join(spelling(x), " "), strings.Join(textsOf(t, text), " "); got != want {
		t.Fatalf("%q: %q", want, got)
	}
}

func spelling(x api.Rule) []string {
	out := []string{[]string{"", "deny", "view", "quota"}[x.Kind], x.Name, "("}
	head := strings.Split(strings.Join(x.Head, " , "), " ")
	if x.Agg != api.Plain {
		head = append(head, ",", []string{"", "count", "sum", "least", "most"}[x.Agg])
		if x.Of != "" {
			head = append(head, x.Of)
		}
	}
	if len(x.Head) == 0 {
		head = head[2:]
	}
	out = append(append(out, head...), ")")
	if x.Kind == api.Quota {
		out = append(out, "limit", strconv.FormatInt(x.Limit, 10))
	}
	for i, l := range x.Body {
		out = append(append(out, []string{"if", ","}[min(i, 1)]), literal(l)...)
	}
	return out
}

func literal(l api.Literal) []string {
	var out []string
	for i, x := range l.Args {
		if i > 0 {
			out = append(out, []string{",", "==", "!=", "<", "<=", ">", ">="}[l.Op])
		}
		switch {
		case x.Any:
			out = append(out, "_")
		case x.Var != "":
			out = append(out, x.Var)
		default:
			out = append(out, value.Show(x.Val))
		}
	}
	if l.Op != 0 {
		return out
	}
	out = append(append([]string{l.Name, "("}, out...), ")")
	if l.Not {
		return append([]string{"not"}, out...)
	}
	return out
}

// P12.2
func TestSame(t *testing.T) {
	base := func() api.Rule {
		return api.Rule{
			Kind: api.Quota, Name: "q", Head: []string{"s", "t"}, Agg: api.Sum, Of: "c", Limit: 20,
			Body: []api.Literal{atom("p", vr("s"), num(3)), not("q", anyone, null), test(vr("c"), api.Lt, text("x"))},
		}
	}
	l := []api.Rule{{}, base()}
	for _, change := range []func(*api.Rule){
		func(x *api.Rule) { x.Kind = api.View },
		func(x *api.Rule) { x.Kind = -1 },
		func(x *api.Rule) { x.Name = "Q" },
		func(x *api.Rule) { x.Head = nil },
		func(x *api.Rule) { x.Head[1] = "s" },
		func(x *api.Rule) { x.Head[0], x.Head[1] = x.Head[1], x.Head[0] },
		func(x *api.Rule) { x.Head = x.Head[:1] },
		func(x *api.Rule) { x.Head = append(x.Head, "") },
		func(x *api.Rule) { x.Agg = api.Most },
		func(x *api.Rule) { x.Of = "" },
		func(x *api.Rule) { x.Limit = -20 },
		func(x *api.Rule) { x.Body = nil },
		func(x *api.Rule) { x.Body = x.Body[:2] },
		func(x *api.Rule) { x.Body = append(x.Body, api.Literal{}) },
		func(x *api.Rule) { x.Body[0], x.Body[1] = x.Body[1], x.Body[0] },
		func(x *api.Rule) { x.Body[0].Not = true },
		func(x *api.Rule) { x.Body[1].Not = false },
		func(x *api.Rule) { x.Body[2].Not = true },
		func(x *api.Rule) { x.Body[0].Name = "" },
		func(x *api.Rule) { x.Body[2].Name = "p" },
		func(x *api.Rule) { x.Body[0].Op = 9 },
		func(x *api.Rule) { x.Body[2].Op = api.Le },
		func(x *api.Rule) { x.Body[0].Args = nil },
		func(x *api.Rule) { x.Body[0].Args = x.Body[0].Args[:1] },
		func(x *api.Rule) { x.Body[0].Args = append(x.Body[0].Args, null) },
		func(x *api.Rule) { x.Body[0].Args[0], x.Body[0].Args[1] = x.Body[0].Args[1], x.Body[0].Args[0] },
		func(x *api.Rule) { x.Body[0].Args[0].Var = "t" },
		func(x *api.Rule) { x.Body[0].Args[0].Any = true },
		func(x *api.Rule) { x.Body[0].Args[1].Val = value.Int(4) },
		func(x *api.Rule) { x.Body[0].Args[1].Val.Flag = true },
		func(x *api.Rule) { x.Body[0].Args[1].Val.Kind = 9 },
		func(x *api.Rule) { x.Body[1].Args[0].Any = false },
		func(x *api.Rule) { x.Body[2].Args[1].Val.Text = "" },
	} {
		x := base()
		change(&x)
		l = append(l, x)
	}
	for i, x := range l {
		for k, y := range l {
			if Same(x, y) != (i == k) {
				t.Error(i, k, x, y)
			}
		}
	}
	if !Same(base(), base()) || !Same(api.Rule{}, api.Rule{Head: []string{}, Body: []api.Literal{}}) || !Same(api.Rule{Body: make([]api.Literal, 1)}, api.Rule{Body: []api.Literal{{Args: []api.Term{}}}}) {
		t.Error("alike")
	}
	if x := base(); !Same(x, x) || !alike(x, base()) {
		t.Error("changed")
	}
}

// P12.2: what was read from two texts.
func TestSameOfTexts(t *testing.T) {
	l := append(whole(), "deny big(s, n) if pod(s, n, _, c, _), c >= 100", "deny big(s, n) if pod(s, n, d, c, _), c > 100", "view d(a) if p()", "quota q(s, count) limit 3 if p(s)", "deny d(a) if not p()", "deny d(a) if p(), p()")
	for i, a := range l {
		for k, b := range l {
			x, _, _ := Rule(a)
			y, _, _ := Rule(b)
			if Same(x, y) != (i == k) {
				t.Error(a, b)
			}
		}
	}
}

// laid answers the tokens' texts with blanks between by chance: at least where two would be one.
func laid(r *rand.Rand, l []string) string {
	out := strings.Repeat("\n", r.Intn(2))
	for i, s := range l {
		if i > 0 && joins(l[i-1], s) || r.Intn(4) == 0 {
			out += []string{" ", "\n", " \n "}[r.Intn(3)]
		}
		out += s
	}
	return out + strings.Repeat(" ", r.Intn(2))
}

func joins(a, b string) bool {
	l, _, why := lex.Read(a + b)
	return why != api.OK || len(l) != 3 || l[0].Text != a
}

// P12.3
func TestSameTokens(t *testing.T) {
	r := rand.New(rand.NewSource(1))
	for _, text := range whole() {
		x, _, why := Rule(text)
		if why != api.OK {
			t.Fatal(text, why)
		}
		for range 50 {
			again := laid(r, textsOf(t, text))
			y, at, why := Rule(again)
			if at != 0 || why != api.OK || !Same(x, y) || !alike(x, y) {
				t.Errorf("%q %q: %v %v %v %v", text, again, x, y, at, why)
			}
		}
	}
	for range 1000 {
		text, _ := walk(r, 1000, 1)
		again := laid(r, textsOf(t, text))
		x, _, why := Rule(text)
		y, _, wrong := Rule(again)
		if why != wrong || !Same(x, y) {
			t.Errorf("%q %q: %v %v %v %v", text, again, x, y, why, wrong)
		}
	}
}

// P6: whatever stands behind one another, it ends, and none panics; what is wrong is told within the text.
func TestAnyBytes(t *testing.T) {
	r := rand.New(rand.NewSource(2))
	for range 20000 {
		b := []byte(whole()[r.Intn(len(whole()))])
		for range 1 + r.Intn(3) {
			i := r.Intn(len(b))
			switch r.Intn(4) {
			case 0:
				b[i] = byte(r.Intn(256))
			case 1:
				b = append(b[:i], b[i+1:]...)
			case 2:
				b = append(b, b[i:]...)
			case 3:
				b[i] = b[r.Intn(len(b))]
			}
		}
		checkAny(t, string(b))
	}
}

func checkAny(t *testing.T, text string) {
	t.Helper()
	x, at, why := Rule(text)
	_, place, wrong := lex.Read(text)
	switch {
	case wrong != api.OK:
		checkFault(t, text, place, wrong)
	case why == api.OK:
		checkSpelling(t, text, x)
	case why != api.ErrForm && why != api.ErrLong || at < 0 || at > len(text) || !reflect.ValueOf(x).IsZero():
		t.Errorf("Rule(%q): %v %v %v", text, x, at, why)
	}
}

// Rules 4 and 5: what is written into an answer is seen by no later one, and no two of its lists share memory.
func TestNothingShared(t *testing.T) {
	const text = "deny d(a, b) if p(a, b), q(a, b), not p(a, _), a < b, 3 < a"
	want, _, _ := Rule(text)
	want = full(want)
	x, _, _ := Rule(text)
	y, _, _ := Rule(text)
	_ = append(x.Head, "x", "x")
	_ = append(x.Body[:1], api.Literal{Name: "x"})
	for i := range x.Body {
		l, _, _ := Rule(text)
		_ = append(l.Body[i].Args, vr("x"), vr("x"), vr("x"))
		clear(l.Body[i].Args)
		l.Body[i].Args = want.Body[i].Args
		if !alike(l, want) {
			t.Error("lists share", i, l)
		}
	}
	clear(x.Head)
	clear(x.Body)
	if !alike(y, want) {
		t.Error("answers share", y)
	}
	checkRule(t, text, want)
	if Same(y, want); !alike(y, want) {
		t.Error("changed", y)
	}
}

func FuzzRule(f *testing.F) {
	for _, text := range whole() {
		f.Add(text)
	}
	f.Fuzz(checkAny)
}
