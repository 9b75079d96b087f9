package strata

import (
	"cmp"
	"fmt"
	"math"
	"math/rand"
	"slices"
	"strings"
	"testing"

	"verderer/api"
	"verderer/parse"
)

func read(t testing.TB, text string) api.Rule {
	t.Helper()
	x, at, why := parse.Rule(text)
	if why != api.OK {
		t.Fatal(text, at, why)
	}
	return x
}

// rule answers one of that name that asks those names, one of them negated.
func rule(name string, asks ...string) api.Rule {
	x := api.Rule{Kind: api.View, Name: name}
	for i, a := range asks {
		x.Body = append(x.Body, api.Literal{Name: a, Not: i == 1})
	}
	return x
}

// some answers rules, each written as its name, and behind a colon the names that it asks.
func some(l ...string) []api.Rule {
	var out []api.Rule
	for _, s := range l {
		name, asks, _ := strings.Cut(s, ":")
		out = append(out, rule(name, strings.Fields(asks)...))
	}
	return out
}

// row answers so many rules, each of which asks the next one; the last one asks what is named.
func row(n int, last string) []api.Rule {
	var out []api.Rule
	for i := range n {
		next := fmt.Sprintf("r%02d", i+1)
		if i == n-1 {
			next = last
		}
		out = append(out, rule(fmt.Sprintf("r%02d", i), next))
	}
	return out
}

func checkList(t *testing.T, what any, got, want []string) {
	t.Helper()
	if !slices.Equal(got, want) {
		t.Errorf("%v: %q, not %q", what, got, want)
	}
}

func checkOrder(t *testing.T, l []api.Rule, why api.Errno, want ...string) {
	t.Helper()
	got, so := Order(l...)
	if !slices.Equal(got, want) || so != why {
		t.Errorf("Order(%v): %q, %d, not %q, %d", l, got, so, want, why)
	}
}

func checkDeep(t *testing.T, name string, l []api.Rule, want int) {
	t.Helper()
	if got := Deep(name, l...); got != want {
		t.Errorf("Deep(%q, %v): %d, not %d", name, l, got, want)
	}
}

// P16.1
func TestAsks(t *testing.T) {
	for text, want := range map[string][]string{
		"deny d(a) if h(b)":                                 {"h"},
		"deny d(a) if not h(b)":                             {"h"},
		"deny d(a) if k(a), not h(b), h(c)":                 {"h", "k"},
		"deny d(a) if z(), y(), not x(), z(), not y(), a()": {"a", "x", "y", "z"},
		"deny d(a) if a == b, 1 < 2":                        nil,
		"deny d(a) if d == h, not d(a)":                     {"d"},
		"deny d(h) if d(a), b == c":                         {"d"},
		"view v(k, sum h) if pod(m, n, _), tenant(n, m)":    {"pod", "tenant"},
		"quota q(s, count) limit 3 if b1(s), b_(s), ba(s)":  {"b1", "b_", "ba"},
		"deny d(a) if ba(a), b(a), bab(a), not bb(a)":       {"b", "ba", "bab", "bb"},
	} {
		checkList(t, text, Asks(read(t, text)), want)
	}
	// Of any bytes, rising byte by byte; what has an Op is a comparison, whatever its name is.
	checkList(t, "bytes", Asks(rule("x", "\xff", "b", "B", "", "é", "b", "\x00", "", "a")), []string{"", "\x00", "B", "a", "b", "é", "\xff"})
	checkList(t, "nothing", Asks(api.Rule{Name: "x", Head: []string{"h"}, Of: "h"}), nil)
	checkList(t, "no name", Asks(api.Rule{Body: make([]api.Literal, 3)}), []string{""})
	for _, op := range []int{api.Eq, api.Ge, 7, -1, math.MaxInt, math.MinInt} {
		for _, not := range []bool{false, true} {
			l := api.Literal{Op: op, Not: not, Name: "h", Args: []api.Term{{Var: "k"}}}
			checkList(t, l, Asks(api.Rule{Body: []api.Literal{l}}), nil)
			checkList(t, l, Users("h", api.Rule{Name: "x", Body: []api.Literal{l}}), nil)
			checkOrder(t, []api.Rule{{Name: "h", Body: []api.Literal{l}}}, api.OK, "h")
		}
	}
}

// P16.1
func TestUsers(t *testing.T) {
	l := some("d: h k", "b: k h", "c: k", "a: h", "h: x h", "z:")
	for name, want := range map[string][]string{
		"h": {"a", "b", "d", "h"},
		"k": {"b", "c", "d"},
		"x": {"h"},
		"d": nil, "z": nil, "": nil, "H": nil, "hh": nil, "\xff": nil,
	} {
		checkList(t, name, Users(name, l...), want)
	}
	checkList(t, "none", Users("h"), nil)
	checkList(t, "no name", Users("", some("b: x", "a: x")...), nil)
	checkList(t, "no name", Users("", rule("b", ""), rule("", "x", ""), rule("a", "x")), []string{"", "b"})
	// Each name once, if several have it, rising byte by byte; of more rules than there may be as well.
	checkList(t, "twice", Users("h", some("b: h", "a: k", "b: h h", "a: h", "b: k")...), []string{"a", "b"})
	checkList(t, "bytes", Users("h", some("b: h", "\xff: h", "B: h", "é: h", "a1: h", "a_: h", "aa: h")...), []string{"B", "a1", "a_", "aa", "b", "é", "\xff"})
	checkList(t, "many", Users("r14", row(20, "r14")...), []string{"r13", "r19"})
	// Of whatever kind a rule is.
	checkList(t, "kinds", Users("h", read(t, "quota q(s, count) limit 3 if h(s)"), read(t, "deny d(s) if k(s), not h(s)"), read(t, "view v(h) if k(h), h == 3")), []string{"d", "q"})
}

// P16.2
func TestOrder(t *testing.T) {
	for _, c := range []struct {
		rules []api.Rule
		want  []string
	}{
		{nil, nil},
		{some("a:"), []string{"a"}},
		{some("a: b", "b:"), []string{"b", "a"}},
		{some("b: a", "a:"), []string{"a", "b"}},
		{some("c:", "b:", "a:"), []string{"a", "b", "c"}},
		// What is not among the rules is not stood on.
		{some("b: z", "a: b x", "c: y z"), []string{"b", "a", "c"}},
		// The least one goes ahead as soon as it may.
		{some("a: z", "b:", "c:", "z:"), []string{"b", "c", "z", "a"}},
		{some("a: m", "b:", "m:", "z:"), []string{"b", "m", "a", "z"}},
		{some("a: b", "b: c", "c: d", "d:"), []string{"d", "c", "b", "a"}},
		{some("a: d", "b: d", "c: a", "d:", "e:"), []string{"d", "a", "b", "c", "e"}},
		{some("a: c y", "b: c", "c:", "x: a", "y: b"), []string{"c", "b", "y", "a", "x"}},
		// A negated atom is asked as others are; one that is asked twice is stood on once.
		{some("a: x z", "z: y y", "y:"), []string{"y", "z", "a"}},
		// Names rise byte by byte.
		{some("b:", "a1:", "a_:", "aa:", "B:", "\xff:", "é:", ":", "a:"), []string{"", "B", "a", "a1", "a_", "aa", "b", "é", "\xff"}},
		{[]api.Rule{rule("", "b"), rule("a", ""), rule("b")}, []string{"b", "", "a"}},
		{row(12, "none"), []string{"r11", "r10", "r09", "r08", "r07", "r06", "r05", "r04", "r03", "r02", "r01", "r00"}},
	} {
		checkOrder(t, c.rules, api.OK, c.want...)
	}
	// Of whatever kind they are.
	v, d, q := read(t, "view v(s) if not q(s, 3), d(s)"), read(t, "deny d(s) if q(s, _), pod(s)"), read(t, "quota q(s, count) limit 3 if pod(s), v == 3")
	checkOrder(t, []api.Rule{v, d, q}, api.OK, "q", "d", "v")
	checkOrder(t, []api.Rule{d, v}, api.OK, "d", "v")
	checkOrder(t, []api.Rule{v, q}, api.OK, "q", "v")
}

// P16.2
func TestCycles(t *testing.T) {
	for _, l := range [][]api.Rule{
		some("a: a"),
		some("a: x a"),
		some("a: b", "b: a"),
		some("a: b", "b: c", "c: a"),
		some("a: x b", "b: x c", "c: x a"),
		some("c: a", "b: c", "a: b"),
		some("a:", "b: a", "c: d", "d: e", "e: c"),
		some("a:", "b: a", "c: c", "d: a"),
		some("a: b c", "b: d", "c: d", "d: b"),
		row(12, "r00"), row(12, "r11"), row(12, "r05"),
		{rule("", "")},
		{read(t, "deny d(s) if h(s), not v(s)"), read(t, "view v(s) if h(s), q(s, _)"), read(t, "quota q(s, count) limit 3 if h(s), d(s)")},
	} {
		checkOrder(t, l, api.ErrCycle)
		for _, x := range l {
			checkDeep(t, x.Name, l, 0)
		}
	}
	// Not by one that is not there.
	l := row(12, "r00")
	checkOrder(t, l[:11], api.OK, "r10", "r09", "r08", "r07", "r06", "r05", "r04", "r03", "r02", "r01", "r00")
	checkOrder(t, l[1:], api.OK, "r11", "r10", "r09", "r08", "r07", "r06", "r05", "r04", "r03", "r02", "r01")
}

// P16.2: which error is told.
func TestFaults(t *testing.T) {
	twice := some("a: a", "b:", "a: c", "c: b")
	checkOrder(t, row(13, "none"), api.ErrLong)
	checkOrder(t, row(13, "r00"), api.ErrLong)
	checkOrder(t, slices.Repeat(some("a: a"), 13), api.ErrLong)
	checkOrder(t, slices.Repeat(some("a: a"), 12), api.ErrTwice)
	checkOrder(t, slices.Repeat(some("a:"), 2), api.ErrTwice)
	checkOrder(t, twice, api.ErrTwice)
	checkOrder(t, make([]api.Rule, 2), api.ErrTwice)
	checkOrder(t, make([]api.Rule, 1), api.OK, "")
	checkOrder(t, append(row(11, "none"), rule("r10")), api.ErrTwice)
	checkOrder(t, append(row(12, "none"), rule("r10")), api.ErrLong)
	checkDeep(t, "r12", row(13, "none"), 0)
	checkDeep(t, "b", twice, 0)
}

// P16.2
func TestDeep(t *testing.T) {
	for _, c := range []struct {
		rules []api.Rule
		want  map[string]int
	}{
		{nil, map[string]int{"a": 0, "": 0}},
		{some("a:"), map[string]int{"a": 1, "b": 0, "": 0, "A": 0}},
		{some("a: b", "b:"), map[string]int{"a": 2, "b": 1}},
		{some("a: x y", "b: pod"), map[string]int{"a": 1, "b": 1, "x": 0, "pod": 0}},
		{some("a: b c", "b: d", "c:", "d: x"), map[string]int{"a": 3, "b": 2, "c": 1, "d": 1, "x": 0}},
		{some("a: c b", "c: x", "b: d", "d: e", "e:", "f: a e"), map[string]int{"a": 4, "b": 3, "c": 1, "d": 2, "e": 1, "f": 5}},
		{some("a: b", "b: c d", "c: d e", "d: e", "e:"), map[string]int{"a": 5, "b": 4, "c": 3, "d": 2, "e": 1}},
		{some(":", "a: b"), map[string]int{"": 1, "a": 1}},
		{row(12, "none"), map[string]int{"r00": 12, "r01": 11, "r10": 2, "r11": 1, "none": 0}},
		// One apart from a cycle has no depth either.
		{some("a: b", "b: b", "c:"), map[string]int{"a": 0, "b": 0, "c": 0}},
	} {
		for name, want := range c.want {
			checkDeep(t, name, c.rules, want)
		}
	}
	// Of whatever kind they are.
	l := []api.Rule{read(t, "view v(s) if not q(s, 3), pod(s)"), read(t, "deny d(s) if pod(s), v(s)"), read(t, "quota q(s, count) limit 3 if pod(s)")}
	checkDeep(t, "d", l, 3)
	checkDeep(t, "v", l, 2)
	checkDeep(t, "q", l, 1)
	checkDeep(t, "pod", l, 0)
}

// ask answers, by the chapter's words, whether one rule asks a name.
func ask(x api.Rule, name string) bool {
	for _, l := range x.Body {
		if l.Op == 0 && l.Name == name {
			return true
		}
	}
	return false
}

// reach answers which of the rules stands on which, by others or at once.
func reach(l []api.Rule) [][]bool {
	out := make([][]bool, len(l))
	for i, x := range l {
		out[i] = make([]bool, len(l))
		for k, y := range l {
			out[i][k] = ask(x, y.Name)
		}
	}
	for m := range l {
		for i := range l {
			for k := range l {
				out[i][k] = out[i][k] || out[i][m] && out[m][k]
			}
		}
	}
	return out
}

// fault answers Order's error, by P16.2.
func fault(l []api.Rule) api.Errno {
	if len(l) > 12 {
		return api.ErrLong
	}
	for i := range l {
		for k := range i {
			if l[i].Name == l[k].Name {
				return api.ErrTwice
			}
		}
	}
	on := reach(l)
	for i := range l {
		if on[i][i] {
			return api.ErrCycle
		}
	}
	return api.OK
}

// least answers the names of rules without a fault in the least of all orders in which each stands behind all that it stands on: that is the one in which again and again the least one that may goes ahead.
func least(l []api.Rule, ahead []string) []string {
	var best []string
	if len(ahead) == len(l) {
		return slices.Clone(ahead)
	}
	for _, x := range l {
		if slices.Contains(ahead, x.Name) || slices.ContainsFunc(l, func(y api.Rule) bool { return ask(x, y.Name) && !slices.Contains(ahead, y.Name) }) {
			continue
		}
		if all := least(l, append(slices.Clone(ahead), x.Name)); best == nil || slices.Compare(all, best) < 0 {
			best = all
		}
	}
	return best
}

// deep answers Deep of rules without a fault: how many the longest row is in which each stands on the next one.
func deep(l []api.Rule, name string) int {
	on := reach(l)
	depth := make([]int, len(l))
	for range l {
		for i := range l {
			depth[i] = max(depth[i], 1)
			for k := range l {
				if on[i][k] {
					depth[i] = max(depth[i], depth[k]+1)
				}
			}
		}
	}
	i := slices.IndexFunc(l, func(x api.Rule) bool { return x.Name == name })
	if i < 0 {
		return 0
	}
	return depth[i]
}

func one[T any](r *rand.Rand, some ...T) T { return some[r.Intn(len(some))] }

// randomRules answers some; the greater astray is, the fewer of them ask one another round about, or have one name.
func randomRules(r *rand.Rand, most, astray int) []api.Rule {
	names := []string{"a", "b", "c", "d", "e", "f", "g", "h", "i", "k", "l", "m", "n", "o"}
	r.Shuffle(len(names), func(i, k int) { names[i], names[k] = names[k], names[i] })
	var out []api.Rule
	for i := range r.Intn(most + 1) {
		x := api.Rule{Kind: r.Intn(4), Name: names[i]}
		if r.Intn(astray) == 0 {
			x.Name = one(r, names...)
		}
		for range r.Intn(4) {
			l := api.Literal{Name: one(r, names[i+1:]...), Not: r.Intn(3) == 0}
			if r.Intn(astray) == 0 {
				l.Name = one(r, names...)
			}
			if r.Intn(8) == 0 {
				l.Op, l.Name = one(r, 1, 6, 9, -1), one(r, names...)
			}
			x.Body = append(x.Body, l)
		}
		out = append(out, x)
	}
	r.Shuffle(len(out), func(i, k int) { out[i], out[k] = out[k], out[i] })
	return out
}

// P16.2
func TestByDefinition(t *testing.T) {
	r := rand.New(rand.NewSource(1))
	told := map[api.Errno]int{}
	for range 10000 {
		l := randomRules(r, 6, one(r, 5, 20, 100))
		why := fault(l)
		told[why]++
		var want []string
		if why == api.OK {
			want = least(l, nil)
		}
		checkOrder(t, l, why, want...)
		for _, name := range []string{"a", "b", "c", "d", "e", "f"} {
			depth := 0
			if why == api.OK {
				depth = deep(l, name)
			}
			checkDeep(t, name, l, depth)
		}
		if t.Failed() {
			return
		}
	}
	for _, why := range []api.Errno{api.OK, api.ErrTwice, api.ErrCycle} {
		if told[why] < 300 {
			t.Error(why, told)
		}
	}
}

// P16.1
func TestAsksByDefinition(t *testing.T) {
	r := rand.New(rand.NewSource(1))
	for range 3000 {
		l := randomRules(r, 13, 5)
		for c := 'a'; c <= 'p'; c++ {
			name := string(c)
			var users []string
			for _, x := range l {
				if ask(x, name) != slices.Contains(Asks(x), name) {
					t.Fatal(x, name)
				}
				if ask(x, name) && !slices.Contains(users, x.Name) {
					users = append(users, x.Name)
				}
			}
			slices.Sort(users)
			checkList(t, name, Users(name, l...), users)
		}
		for _, x := range l {
			if got := Asks(x); !slices.IsSortedFunc(got, func(a, b string) int { return cmp.Or(cmp.Compare(a, b), 1) }) {
				t.Fatal(x, got)
			}
		}
	}
}

// P16.3
func TestWhatFollows(t *testing.T) {
	r := rand.New(rand.NewSource(1))
	for range 3000 {
		l := randomRules(r, 12, 60)
		got, why := Order(l...)
		if why != fault(l) {
			t.Fatal(l, why)
		}
		on := reach(l)
		for i, x := range l {
			for k, y := range l {
				if why == api.OK && on[i][k] && slices.Index(got, x.Name) < slices.Index(got, y.Name) {
					t.Fatal(l, got, x.Name, y.Name)
				}
			}
		}
		if why == api.OK && len(got) != len(l) {
			t.Fatal(l, got)
		}
		other := slices.Clone(l)
		r.Shuffle(len(other), func(i, k int) { other[i], other[k] = other[k], other[i] })
		checkOrder(t, other, why, got...)
		for _, x := range l {
			checkDeep(t, x.Name, other, Deep(x.Name, l...))
			checkList(t, x.Name, Users(x.Name, other...), Users(x.Name, l...))
		}
		if t.Failed() {
			return
		}
	}
}

// Rules 4, 5 and 6.
func TestNothingShared(t *testing.T) {
	l := some("d: c a b a", "c: b a", "a: x", "b: a x")
	was := fmt.Sprint(l)
	calls := map[string]func() []string{
		"Asks":  func() []string { return Asks(l[0]) },
		"Users": func() []string { return Users("a", l...) },
		"Order": func() []string { out, _ := Order(l...); return out },
	}
	want := map[string][]string{"Asks": {"a", "b", "c"}, "Users": {"b", "c", "d"}, "Order": {"a", "b", "c", "d"}}
	kept := map[string][]string{}
	for name, call := range calls {
		for range 2 {
			got := call()
			checkList(t, name, got, want[name])
			for i := range got {
				got[i] = "other"
			}
			_ = append(got, "more")
		}
		kept[name] = call()
	}
	if Deep("d", l...) != 4 || fmt.Sprint(l) != was {
		t.Error(was, l)
	}
	for i := range l {
		l[i].Name, l[i].Body[0].Name = "zz", "zz"
	}
	for name, got := range kept {
		checkList(t, name, got, want[name])
	}
}

// P6: lists of any length, and any bytes.
func TestEnds(t *testing.T) {
	n := 1 << 16
	names := make([]string, n)
	for i := range n {
		names[i] = fmt.Sprintf("v%06d", n-i)
	}
	all := make([]api.Rule, 12)
	for i := range all {
		// Each asks all behind it, and much else.
		all[i] = rule(fmt.Sprintf("r%02d", i), names...)
		for k := i + 1; k < len(all); k++ {
			all[i].Body = append(all[i].Body, api.Literal{Name: fmt.Sprintf("r%02d", k)})
		}
	}
	checkList(t, "Asks", Asks(all[11]), sorted(names))
	checkDeep(t, "r00", all, 12)
	checkOrder(t, all, api.OK, "r11", "r10", "r09", "r08", "r07", "r06", "r05", "r04", "r03", "r02", "r01", "r00")
	many := make([]api.Rule, n)
	for i := range many {
		many[i] = rule(names[i], "h")
	}
	checkList(t, "Users", Users("h", many...), sorted(names))
	checkOrder(t, many, api.ErrLong)
	checkDeep(t, names[0], many, 0)
	checkList(t, "long", Asks(rule("x", strings.Repeat("x", 1<<20))), []string{strings.Repeat("x", 1<<20)})
	r := rand.New(rand.NewSource(1))
	for range 5000 {
		l := randomRules(r, 13, 9)
		for i := range l {
			spoil(r, &l[i])
		}
		if _, why := Order(l...); why != fault(l) {
			t.Fatal(l, why)
		}
		for _, x := range l {
			Asks(x)
			Users(x.Name, l...)
			if got := Deep(x.Name, l...); got == 0 != (fault(l) != api.OK) || got > len(l) {
				t.Fatal(l, x.Name, got)
			}
		}
	}
}

func sorted(l []string) []string { return slices.Sorted(slices.Values(l)) }

func spoil(r *rand.Rand, x *api.Rule) {
	b := make([]byte, r.Intn(3))
	r.Read(b)
	x.Kind, x.Agg = int(r.Uint64()), int(r.Uint64())
	x.Name = one(r, x.Name, x.Name, x.Name, string(b))
	x.Body = append(x.Body, api.Literal{Not: r.Intn(2) == 0, Name: string(b), Op: one(r, 0, int(r.Uint64())), Args: make([]api.Term, r.Intn(5))})
}
