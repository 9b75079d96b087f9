package rules

import (
	"fmt"
	"slices"
	"strings"
	"testing"

	"verderer/api"
	"verderer/parse"
	"verderer/schema"
	"verderer/shape"
)

// kinds has pod, with a number that may be null, and one that may not.
func kinds(t *testing.T) *schema.Set {
	t.Helper()
	pod, why := schema.Read("kind pod image:text cpu:int? size:int")
	if why != api.OK {
		t.Fatal("kind", why)
	}
	s, why := schema.New(pod)
	if why != api.OK {
		t.Fatal("kinds", why)
	}
	return s
}

func setOf(t *testing.T, texts ...string) *Set {
	t.Helper()
	r, why := New(kinds(t))
	if r == nil || why != api.OK {
		t.Fatal("New", why)
	}
	add(t, r, texts...)
	return r
}

func add(t *testing.T, r *Set, texts ...string) {
	t.Helper()
	for _, text := range texts {
		if at, why := r.Add(text); at != 0 || why != api.OK {
			t.Fatal("Add", text, at, why)
		}
	}
}

func replace(t *testing.T, r *Set, text string) {
	t.Helper()
	if at, why := r.Replace(text); at != 0 || why != api.OK {
		t.Fatal("Replace", text, at, why)
	}
}

func remove(t *testing.T, r *Set, names ...string) {
	t.Helper()
	for _, name := range names {
		if why := r.Remove(name); why != api.OK {
			t.Fatal("Remove", name, why)
		}
	}
}

// told is a rule's text, and its plan's key.
type told struct{ text, key string }

// checkSet holds all that a set answers against the rules that are to be there, by rising names.
func checkSet(t *testing.T, r *Set, want ...told) {
	t.Helper()
	list, plans := r.List(), r.Plans()
	if len(list) != len(want) || len(plans) != len(want) {
		t.Fatal("List, Plans", len(list), len(plans), len(want))
	}
	for i, x := range want {
		rule, at, why := parse.Rule(x.text)
		if why != api.OK {
			t.Fatal("no rule", x.text, at)
		}
		got, why := r.Get(rule.Name)
		if why != api.OK || !parse.Same(got, rule) || !parse.Same(list[i], rule) {
			t.Errorf("Get, List: %v, %v, %v, not %s", got, why, list[i], x.text)
		}
		if key, other := shape.Key(r.Plan(rule.Name)), shape.Key(plans[i]); key != x.key || other != x.key {
			t.Errorf("Plan(%s): %q, Plans: %q, not %q", rule.Name, key, other, x.key)
		}
	}
}

// toldOf is all that there is, to be held against what there is later.
func toldOf(t *testing.T, r *Set) []string {
	t.Helper()
	var out []string
	for _, x := range r.List() {
		out = append(out, fmt.Sprint(x, " ", shape.Key(r.Plan(x.Name))))
	}
	for _, n := range r.Plans() {
		out = append(out, shape.Key(n))
	}
	return out
}

func checkSame(t *testing.T, what any, r *Set, was []string) {
	t.Helper()
	if now := toldOf(t, r); !slices.Equal(now, was) {
		t.Errorf("%v: %q, not %q", what, now, was)
	}
}

const (
	scanPod    = "scan pod 5"
	scanTenant = "scan tenant 2"
)

// The example of chapter 26.
func TestExample(t *testing.T) {
	r := setOf(t, "view v(s) if pod(s, _, _, _, _)", "deny d(s) if v(s)")
	if why := r.Remove("v"); why != api.ErrUsed {
		t.Error(why)
	}
	checkSet(t, r, told{"deny d(s) if v(s)", "once take 1 0 once take 1 0 " + scanPod}, told{"view v(s) if pod(s, _, _, _, _)", "once take 1 0 " + scanPod})
}

// P26.1
func TestNew(t *testing.T) {
	if r, why := New(nil); r != nil || why != api.ErrNil {
		t.Error("nil", r, why)
	}
	r, other := setOf(t), setOf(t)
	checkSet(t, r)
	add(t, r, "deny d(s) if pod(s, _, _, _, _)")
	checkSet(t, other)
	add(t, other, "deny d(s) if tenant(s, _)")
	checkSet(t, r, told{"deny d(s) if pod(s, _, _, _, _)", "once take 1 0 " + scanPod})
	// Without kinds there are tenants alone.
	none, _ := schema.New()
	r, why := New(none)
	if why != api.OK {
		t.Fatal(why)
	}
	if at, why := r.Add("deny d(s) if pod(s, _, _, _, _)"); at != 0 || why != api.ErrKind {
		t.Error(at, why)
	}
	if at, why := r.Add("view tenant(s) if tenant(s, _)"); at != 0 || why != api.ErrTwice {
		t.Error(at, why)
	}
	add(t, r, "view pod(s) if tenant(s, _)", "deny d(s) if pod(s)")
	checkSet(t, r, told{"deny d(s) if pod(s)", "once take 1 0 once take 1 0 " + scanTenant}, told{"view pod(s) if tenant(s, _)", "once take 1 0 " + scanTenant})
}

// P26.1 and P26.2: rules come, and stand by their names; each asks views that are there, with the columns that these tell.
func TestAdd(t *testing.T) {
	const (
		quota = "quota q(s, sum n) limit 5 if pod(s, _, _, _, n)"
		view  = "view w(s, most n) if pod(s, _, _, _, n)"
		deny  = "deny d(s) if w(s, n), n > 7, not b(s)"
		below = "view b(s) if tenant(s, p), not w(p, 3)"
		upon  = "view a(n, count) if w(s, n), w(p, n), tenant(s, p)"
	)
	group := "group 1 0 4 4 " + scanPod
	miss := "once take 1 0 miss 1 1 0 " + scanTenant + " where 1 1 1 -1 038000000000000003 " + group
	quotaTold, viewTold := told{quota, "group 1 0 2 4 " + scanPod}, told{view, group}
	belowTold := told{below, miss}
	denyTold := told{deny, "once take 1 0 miss 1 0 0 where 1 1 5 -1 038000000000000007 " + group + " " + miss}
	uponTold := told{upon, "group 1 1 1 0 meet 2 0 0 2 1 meet 1 1 1 " + group + " " + group + " " + scanTenant}
	r := setOf(t)
	for _, x := range []struct {
		text string
		want []told
	}{
		{quota, []told{quotaTold}},
		{view, []told{quotaTold, viewTold}},
		{below, []told{belowTold, quotaTold, viewTold}},
		{deny, []told{belowTold, denyTold, quotaTold, viewTold}},
		{upon, []told{uponTold, belowTold, denyTold, quotaTold, viewTold}},
	} {
		add(t, r, x.text)
		checkSet(t, r, x.want...)
	}
	for _, name := range []string{"", "x", "pod", "tenant", "A", "w ", "\x00", strings.Repeat("w", 1<<16)} {
		if x, why := r.Get(name); why != api.ErrNone || !parse.Same(x, api.Rule{}) || r.Plan(name) != nil || r.Remove(name) != api.ErrNone {
			t.Errorf("%q: %v, %v, %v", name, x, why, r.Plan(name))
		}
	}
	for _, x := range []struct {
		name string
		want []told
	}{
		{"q", []told{uponTold, belowTold, denyTold, viewTold}},
		{"d", []told{uponTold, belowTold, viewTold}},
		{"a", []told{belowTold, viewTold}},
		{"b", []told{viewTold}},
		{"w", nil},
	} {
		remove(t, r, x.name)
		checkSet(t, r, x.want...)
	}
}

// refused is a text, and why it is refused, and where.
type refused struct {
	text string
	at   int
	why  api.Errno
}

func checkRefused(t *testing.T, r *Set, do func(string) (int, api.Errno), l ...refused) {
	t.Helper()
	was := toldOf(t, r)
	for _, x := range l {
		if at, why := do(x.text); at != x.at || why != x.why {
			t.Errorf("%q: %d, %v, not %d, %v", x.text, at, why, x.at, x.why)
		}
		checkSame(t, x.text, r, was)
	}
}

// P26.1: texts that are no rules, and where.
func notRules() []refused {
	return []refused{
		{"", 0, api.ErrForm}, {"deny", 4, api.ErrForm}, {"deny d(s) if pod(s", 18, api.ErrForm}, {"rule d(s) if v(s)", 0, api.ErrForm}, {"deny d(s) if v(s), $", 19, api.ErrForm}, {"deny not(s) if v(s)", 5, api.ErrForm}, {"deny D(s) if v(s)", 5, api.ErrForm},
		{"deny d(s) if v(s) " + strings.Repeat(" ", 283), 0, api.ErrLong}, {"deny d(s) if " + strings.Repeat("v(s), ", 6) + "v(s)", 49, api.ErrLong}, {"deny d(s) if v(s)" + strings.Repeat(", 1 == 1", 10), 91, api.ErrLong}, {"\xff", 0, api.ErrForm}, {"quota q(s, most n) limit 3 if v(s)", 11, api.ErrForm},
	}
}

// P26.1: what Add refuses; which of several errors is told.
func TestAddRefuses(t *testing.T) {
	r := setOf(t, "view v(s) if tenant(s, _)", "view n(c) if pod(_, _, _, c, _)", "deny d(s) if v(s)", "quota q(s, count) limit 3 if v(s)")
	checkRefused(t, r, r.Add, notRules()...)
	checkRefused(t, r, r.Add,
		// The name of a rule, of any kind, or of a relation.
		refused{"view v(s) if tenant(s, _)", 0, api.ErrTwice}, refused{"deny v(s) if tenant(s, _)", 0, api.ErrTwice}, refused{"view d(s) if tenant(s, _)", 0, api.ErrTwice}, refused{"view q(s) if tenant(s, _)", 0, api.ErrTwice},
		refused{"view pod(s) if tenant(s, _)", 0, api.ErrTwice}, refused{"deny tenant(s) if v(s)", 0, api.ErrTwice}, refused{"quota pod(s, count) limit 1 if v(s)", 0, api.ErrTwice},
		// That goes ahead of all that the rules are together.
		refused{"view v(s) if v(s)", 0, api.ErrTwice}, refused{"deny d(s) if w(s)", 0, api.ErrTwice}, refused{"view pod(s) if pod(s, _, _, _, _)", 0, api.ErrTwice}, refused{"deny tenant(z) if v(s)", 0, api.ErrTwice},
		// One that asks itself, or what is not there; that asks what is not as it asks.
		refused{"view x(s) if x(s)", 0, api.ErrCycle}, refused{"deny x(s) if v(s), not x(s)", 0, api.ErrCycle}, refused{"deny x(s) if x(s), w(z)", 0, api.ErrCycle}, refused{"quota x(s, count) limit 1 if tenant(s, _), not x(s, 1)", 0, api.ErrCycle},
		refused{"deny x(s) if w(s)", 0, api.ErrKind}, refused{"deny x(s) if v(s), not w(s)", 0, api.ErrKind}, refused{"deny x(s) if d(s)", 0, api.ErrKind}, refused{"deny x(s) if q(s, _)", 0, api.ErrKind}, refused{"deny x(s) if v(s), not d(s)", 0, api.ErrKind},
		refused{"deny x(s) if v(s, _)", 0, api.ErrLong}, refused{"deny x(s) if v()", 0, api.ErrLong}, refused{"deny x(s) if pod(s)", 0, api.ErrLong}, refused{"deny x(s) if v(s), n(s)", 0, api.ErrType}, refused{"deny x(s) if v(s), s > 3", 0, api.ErrType}, refused{"deny x(s) if v(s), v(3)", 0, api.ErrType}, refused{"deny x(s) if v(s), v(null)", 0, api.ErrType},
		refused{"view x(sum c) if n(c)", 0, api.ErrType}, refused{"view x(sum s) if v(s)", 0, api.ErrType}, refused{"quota x(c, count) limit 3 if n(c)", 0, api.ErrType},
		refused{"deny x(z) if v(s)", 0, api.ErrSafe}, refused{"deny x(s) if v(s), z == 3", 0, api.ErrSafe}, refused{"deny x(s) if v(s), not v(z)", 0, api.ErrSafe},
		refused{"deny x(s) if " + strings.Repeat("pod(s, _, _, _, _), ", 5) + "pod(s, _, _, _, _), not v(z)", 0, api.ErrSafe},
	)
	// Of what is too large together.
	add(t, r, "view w(a, b, c, d, e, f, g) if pod(a, b, c, d, e), tenant(f, g)")
	checkRefused(t, r, r.Add, refused{"deny x(a) if " + strings.Repeat("w(a, _, _, _, _, _, _), ", 5) + "w(_, _, _, _, _, _, _)", 0, api.ErrLong})
	add(t, r, "deny x(a) if "+strings.Repeat("w(a, _, _, _, _, _, _), ", 4)+"w(_, _, _, _, _, _, _)")
	// What was refused can come once it is right.
	checkRefused(t, r, r.Add, refused{"deny y(s) if z(s)", 0, api.ErrKind})
	add(t, r, "view z(s) if v(s)", "deny y(s) if z(s)")
}

// P26.1: twelve rules, and a thirteenth.
func TestFull(t *testing.T) {
	r := setOf(t)
	for i := range 12 {
		add(t, r, fmt.Sprintf("view v%02d(s) if tenant(s, _)", i))
	}
	checkRefused(t, r, r.Add, notRules()...)
	checkRefused(t, r, r.Add,
		refused{"view x(s) if tenant(s, _)", 0, api.ErrFull}, refused{"deny x(s) if v00(s)", 0, api.ErrFull},
		// Ahead of what the rules are together, behind names that are there.
		refused{"view x(s) if x(s)", 0, api.ErrFull}, refused{"view x(s) if w(s)", 0, api.ErrFull}, refused{"view x(z) if v00(s)", 0, api.ErrFull},
		refused{"view v03(s) if tenant(s, _)", 0, api.ErrTwice}, refused{"view pod(s) if tenant(s, _)", 0, api.ErrTwice}, refused{"view v03(s) if v03(s)", 0, api.ErrTwice},
	)
	replace(t, r, "deny v05(s) if v04(s)")
	checkRefused(t, r, r.Replace, refused{"view x(s) if tenant(s, _)", 0, api.ErrNone})
	remove(t, r, "v07")
	add(t, r, "deny x(s) if v11(s)")
	checkRefused(t, r, r.Add, refused{"view v07(s) if tenant(s, _)", 0, api.ErrFull})
}

// P26.1: a rule in the place of one of its name, of any kind; those that ask it have other plans then.
func TestReplace(t *testing.T) {
	const v, n, d, e = "view v(s, n) if pod(s, n, _, _, _)", "view n(n) if v(_, n)", "deny d(n) if n(n)", "deny e(s) if tenant(s, _)"
	r := setOf(t, v, n, d, e)
	keyE := told{e, "once take 1 0 " + scanTenant}
	want := func(top, below string) []told {
		plan := "once take 2 0 1 " + below
		return []told{{d, "once take 1 0 once take 1 1 " + plan}, keyE, {n, "once take 1 1 " + plan}, {top, plan}}
	}
	checkSet(t, r, want(v, scanPod)...)
	for _, x := range []struct{ text, below string }{
		{"view v(s, p) if tenant(s, p)", scanTenant},
		{"view v(s, n) if pod(s, n, _, _, 3)", "where 1 4 1 -1 038000000000000003 " + scanPod},
		{v, scanPod},
	} {
		replace(t, r, x.text)
		checkSet(t, r, want(x.text, x.below)...)
	}
	// Its name stays where it is, whatever kind of rule it is.
	for _, x := range []told{
		{"view e(s) if tenant(s, _)", "once take 1 0 " + scanTenant}, {"quota e(n, count) limit 9 if n(n)", "group 1 0 1 0 once take 1 1 once take 2 0 1 " + scanPod}, {"view e(n) if n(n)", "once take 1 0 once take 1 1 once take 2 0 1 " + scanPod}, keyE,
	} {
		replace(t, r, x.text)
		all := want(v, scanPod)
		all[1] = x
		checkSet(t, r, all...)
	}
	// By itself.
	for _, text := range []string{v, n, d, e} {
		replace(t, r, text)
		checkSet(t, r, want(v, scanPod)...)
	}
}

// P26.1: what Replace refuses.
func TestReplaceRefuses(t *testing.T) {
	r := setOf(t, "view v(s, c) if pod(s, _, _, _, c)", "view w(s, sum c) if v(s, c)", "deny d(s) if w(s, c), c > 3", "quota q(s, sum c) limit 3 if v(s, c), not w(s, 5)", "view x(s) if tenant(s, _)")
	checkRefused(t, r, r.Replace, notRules()...)
	checkRefused(t, r, r.Replace,
		refused{"view y(s) if tenant(s, _)", 0, api.ErrNone}, refused{"view pod(s) if tenant(s, _)", 0, api.ErrNone}, refused{"deny tenant(s) if x(s)", 0, api.ErrNone},
		// That goes ahead of what the rules are together.
		refused{"view y(s) if y(s)", 0, api.ErrNone}, refused{"view y(s) if z(s)", 0, api.ErrNone}, refused{"view y(z) if x(s)", 0, api.ErrNone},
		// One that asks itself, alone or by others, of any kind; ahead of what can not be compiled.
		refused{"view v(s, c) if v(s, c)", 0, api.ErrCycle}, refused{"view v(s, c) if w(s, c)", 0, api.ErrCycle}, refused{"view v(s, c) if pod(s, _, _, _, c), not w(s, c)", 0, api.ErrCycle}, refused{"view v(s, c) if d(s), pod(s, _, _, _, c)", 0, api.ErrCycle}, refused{"view w(s, sum c) if q(s, c)", 0, api.ErrCycle}, refused{"deny d(s) if d(s)", 0, api.ErrCycle}, refused{"deny v(z) if w(s), y(s)", 0, api.ErrCycle},
		// One that can not be compiled.
		refused{"deny d(s) if y(s)", 0, api.ErrKind}, refused{"deny d(s) if q(s, _)", 0, api.ErrKind}, refused{"deny d(z) if x(s)", 0, api.ErrSafe}, refused{"deny d(s) if x(s, s)", 0, api.ErrLong}, refused{"view v(s, c) if pod(s, _, _, c, c), s > c", 0, api.ErrType},
		// One with which others can not go: no view any more, of other columns, or of columns that are of another kind, or may be null.
		refused{"deny v(s, c) if pod(s, _, _, _, c)", 0, api.ErrKind}, refused{"quota v(s, sum c) limit 3 if pod(s, _, _, _, c)", 0, api.ErrKind}, refused{"deny w(s) if v(s, _)", 0, api.ErrKind}, refused{"view v(s) if pod(s, _, _, _, _)", 0, api.ErrLong}, refused{"view v(s, n, c) if pod(s, n, _, _, c)", 0, api.ErrLong}, refused{"view w(s) if v(s, _)", 0, api.ErrLong},
		refused{"view v(s, n) if pod(s, n, _, _, _)", 0, api.ErrType}, refused{"view v(c, s) if pod(s, _, _, _, c)", 0, api.ErrType}, refused{"view v(s, c) if pod(s, _, _, c, _)", 0, api.ErrType}, refused{"view w(s, n) if v(s, _), pod(s, n, _, _, _)", 0, api.ErrType},
	)
	// A rule that others ask, and that can not be compiled itself: it goes ahead of them.
	checkRefused(t, r, r.Replace, refused{"view v(z) if pod(s, _, _, _, _)", 0, api.ErrSafe}, refused{"view v(s) if y(s)", 0, api.ErrKind})
}

// P26.1: of several rules that can not go with another one the first one, in the order of strata.
func TestFirstError(t *testing.T) {
	const (
		v = "view v(s, c) if pod(s, _, _, _, c)"
		// Of nine nodes, so that six of it are too many; of another column.
		large = "view v(s, n) if pod(s, n, _, _, _), not tenant(s, s), not tenant(n, n)"
		six   = "v(s, _), v(s, _), v(s, _), v(s, _), v(s, _), v(s, _)"
	)
	for _, x := range []struct {
		l   []string
		why api.Errno
	}{
		{[]string{"deny a(s) if v(s, 3)", "deny b(s) if " + six}, api.ErrType},
		{[]string{"deny b(s) if v(s, 3)", "deny a(s) if " + six}, api.ErrLong},
		// The least name of these stands on another rule, ahead of which stands one, or none.
		{[]string{"view z(s) if v(s, 3)", "deny a(s) if z(s), v(s, 3)", "deny b(s) if " + six}, api.ErrLong},
		{[]string{"view z(s) if v(s, 3)", "deny a(s) if z(s), v(s, _), v(s, _), v(s, _), v(s, _), v(s, _)"}, api.ErrType},
		{[]string{"view z(s) if v(s, _)", "deny a(s) if z(s), v(s, _), v(s, _), v(s, _), v(s, _), v(s, _)"}, api.ErrLong},
		{[]string{"view z(s) if v(s, _)", "deny a(s) if z(s), v(s, 3)", "quota c(s, count) limit 3 if v(s, 3)", "deny x(s) if " + six}, api.ErrType},
	} {
		r := setOf(t, append([]string{v}, x.l...)...)
		checkRefused(t, r, r.Replace, refused{large, 0, x.why}, refused{"deny v(s) if tenant(s, _)", 0, api.ErrKind}, refused{"view v(s, c) if a(s, c), b(s, c)", 0, api.ErrCycle})
		replace(t, r, v)
	}
}

// P26.2: what other rules ask can not be removed, whether they negate it or not.
func TestRemove(t *testing.T) {
	r := setOf(t, "view v(s) if tenant(s, _)", "view w(s) if v(s)", "deny d(s) if tenant(s, _), not w(s)", "quota q(s, count) limit 1 if v(s)")
	refuse := func(name string, want api.Errno) {
		t.Helper()
		checkRefused(t, r, func(name string) (int, api.Errno) { return 0, r.Remove(name) }, refused{name, 0, want})
	}
	refuse("v", api.ErrUsed)
	refuse("w", api.ErrUsed)
	for _, name := range []string{"", "x", "pod", "tenant", "V", "v(s)", "\xff"} {
		refuse(name, api.ErrNone)
	}
	remove(t, r, "d", "w")
	refuse("w", api.ErrNone)
	refuse("v", api.ErrUsed)
	remove(t, r, "q")
	// What is removed can come again, and another one of its name.
	add(t, r, "deny q(s) if v(s)")
	refuse("v", api.ErrUsed)
	remove(t, r, "q", "v")
	checkSet(t, r)
	refuse("v", api.ErrNone)
	checkRefused(t, r, r.Add, refused{"deny d(s) if v(s)", 0, api.ErrKind})
	add(t, r, "view v(s, p) if tenant(s, p)", "deny d(s) if v(s, _)")
	// One that does not ask it any more leaves it free.
	replace(t, r, "deny d(s) if tenant(s, _)")
	remove(t, r, "v")
	checkSet(t, r, told{"deny d(s) if tenant(s, _)", "once take 1 0 " + scanTenant})
}

// P26.4: what is added, and removed, leaves all as it was; so does what is replaced, and replaced back.
func TestBack(t *testing.T) {
	r := setOf(t, "view v(s) if tenant(s, _)", "deny d(s) if v(s)")
	was := toldOf(t, r)
	add(t, r, "view a(s) if v(s)", "quota q(s, count) limit 1 if a(s)")
	remove(t, r, "q", "a")
	checkSame(t, "removed", r, was)
	replace(t, r, "view v(s) if pod(s, _, _, _, _)")
	replace(t, r, "view v(s) if tenant(s, _)")
	checkSame(t, "replaced", r, was)
	remove(t, r, "d", "v")
	add(t, r, "view v(s) if tenant(s, _)", "deny d(s) if v(s)")
	checkSame(t, "added", r, was)
}

// P26.2: a copy, and what it is a copy of, change each apart.
func TestCopy(t *testing.T) {
	r := setOf(t, "view v(s) if tenant(s, _)", "deny d(s) if v(s)")
	was := toldOf(t, r)
	c := r.Copy()
	checkSame(t, "copy", c, was)
	add(t, c, "deny e(s) if v(s)")
	replace(t, c, "view v(s) if pod(s, _, _, _, _)")
	remove(t, c, "d")
	checkSame(t, "ahead", r, was)
	want := toldOf(t, c)
	remove(t, r, "d")
	replace(t, r, "view v(s, p) if tenant(s, p)")
	add(t, r, "deny e(s) if v(s, s)", "view w(s) if v(s, _)")
	checkSame(t, "copy", c, want)
	// It has the same kinds.
	checkRefused(t, c, c.Add, refused{"view pod(s) if v(s)", 0, api.ErrTwice})
	empty := setOf(t)
	c = empty.Copy()
	add(t, c, "view v(s) if tenant(s, _)")
	checkSet(t, empty)
	c = empty.Copy()
	add(t, empty, "view v(s) if tenant(s, _)")
	checkSet(t, c)
	add(t, c, "deny d(s) if pod(s, _, _, _, _)")
	checkSet(t, empty, told{"view v(s) if tenant(s, _)", "once take 1 0 " + scanTenant})
}

// nil, and a Set that New did not make.
func TestNil(t *testing.T) {
	var r *Set
	for _, text := range []string{"", "$", "view v(s) if tenant(s, _)", "view v(s) if v(s)", strings.Repeat("x", 400)} {
		at, why := r.Add(text)
		again, too := r.Replace(text)
		if at != 0 || again != 0 || why != api.ErrNil || too != api.ErrNil {
			t.Error(text, at, why, again, too)
		}
	}
	for _, name := range []string{"", "v"} {
		x, why := r.Get(name)
		if why != api.ErrNil || !parse.Same(x, api.Rule{}) || r.Remove(name) != api.ErrNil || r.Plan(name) != nil {
			t.Error(name, x, why)
		}
	}
	if len(r.List())+len(r.Plans()) != 0 || r.Copy() != nil {
		t.Error("nil")
	}
	zero := new(Set)
	if at, why := zero.Add("view v(s) if tenant(s, _)"); at != 0 || why == api.OK {
		t.Error(at, why)
	}
	if at, why := zero.Replace("view v(s) if tenant(s, _)"); at != 0 || why != api.ErrNone || zero.Remove("v") != api.ErrNone {
		t.Error(at, why)
	}
	checkSet(t, zero)
	checkSet(t, zero.Copy())
}

// Rules 4 and 5: what is answered shares nothing.
func TestNothingShared(t *testing.T) {
	r := setOf(t, "view v(s, sum c) if pod(s, _, _, _, c), c > 3", "deny d(s) if v(s, 7), not tenant(s, s)")
	was := toldOf(t, r)
	spoil := func(x api.Rule) {
		x.Head[0] = "spoilt"
		for i := range x.Body {
			clear(x.Body[i].Args)
			_ = append(x.Body[i].Args, api.Term{Any: true})
		}
		clear(x.Body)
		_ = append(x.Head, "more")
	}
	for range 2 {
		c := r.Copy()
		x, _ := r.Get("v")
		spoil(x)
		for _, s := range []*Set{r, c} {
			for _, x := range s.List() {
				spoil(x)
			}
			list, plans := s.List(), s.Plans()
			clear(list)
			clear(plans)
			_ = append(plans[:0], nil, nil)
		}
		checkSame(t, "set", r, was)
		checkSame(t, "copy", c, was)
	}
	// Nor do rules that are compiled anew.
	add(t, r, "deny e(s) if v(s, _)")
	remove(t, r, "e")
	checkSame(t, "later", r, was)
}
