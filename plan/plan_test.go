package plan_test

import (
	"fmt"
	"math"
	"reflect"
	"slices"
	"strings"
	"testing"

	"verderer/api"
	"verderer/parse"
	"verderer/plan"
	"verderer/schema"
	"verderer/value"
)

func col(name string, kind int, null bool) api.Column {
	return api.Column{Name: name, Kind: kind, Null: null}
}

// kinds: pod(space, name, image:text, cpu:int, up:bool), h(space, name, x:int?, y:int?), big(space, name, a, b, c, d, e, f:text), tenant(name, parent).
func kinds(t testing.TB) *schema.Set {
	t.Helper()
	big := api.Schema{Name: "big"}
	for _, name := range []string{"a", "b", "c", "d", "e", "f"} {
		big.Cols = append(big.Cols, col(name, api.Text, false))
	}
	s, why := schema.New(
		api.Schema{Name: "pod", Cols: []api.Column{col("image", api.Text, false), col("cpu", api.Int, false), col("up", api.Bool, false)}},
		api.Schema{Name: "h", Cols: []api.Column{col("x", api.Int, true), col("y", api.Int, true)}},
		big,
	)
	if why != api.OK {
		t.Fatal(why)
	}
	return s
}

func read(t testing.TB, text string) api.Rule {
	t.Helper()
	x, at, why := parse.Rule(text)
	if why != api.OK {
		t.Fatal(text, at, why)
	}
	return x
}

var signs = [...]string{1: "==", 2: "!=", 3: "<", 4: "<=", 5: ">", 6: ">="}

// show has a plan as a text; where a node has what its kind has not, a ! stands ahead of it.
func show(n *api.Node) string {
	if n == nil {
		return "nil"
	}
	odd := ""
	if !bare(*n) {
		odd = "!"
	}
	return odd + showBare(n)
}

// bare tells whether a node has nothing but what chapter 17 says that its kind has.
func bare(n api.Node) bool {
	switch n.Kind {
	case api.Scan:
		n.Name, n.Wide = "", 0
	case api.Where:
		n.Conds, n.Left = nil, nil
	case api.Meet, api.Miss:
		n.Pairs, n.Left, n.Right = nil, nil, nil
	case api.Take:
		n.Cols, n.Left = nil, nil
	case api.Once:
		n.Left = nil
	case api.Group:
		n.Cols, n.Agg, n.Of, n.Left = nil, 0, 0, nil
	}
	if len(n.Conds)+len(n.Pairs)+len(n.Cols) > 0 {
		return false
	}
	n.Conds, n.Pairs, n.Cols = nil, nil, nil
	return reflect.DeepEqual(n, api.Node{Kind: n.Kind})
}

func showBare(n *api.Node) string {
	switch n.Kind {
	case api.Scan:
		return fmt.Sprint(n.Name, ".", n.Wide)
	case api.Where:
		var l []string
		for _, c := range n.Conds {
			l = append(l, showCond(c))
		}
		return fmt.Sprintf("where[%s](%s)", strings.Join(l, ", "), show(n.Left))
	case api.Meet, api.Miss:
		var l []string
		for _, p := range n.Pairs {
			l = append(l, fmt.Sprint(p.Left, ":", p.Right))
		}
		return fmt.Sprintf("%s[%s](%s, %s)", map[int]string{api.Meet: "meet", api.Miss: "miss"}[n.Kind], strings.Join(l, " "), show(n.Left), show(n.Right))
	case api.Take:
		return fmt.Sprintf("take%v(%s)", n.Cols, show(n.Left))
	case api.Once:
		return fmt.Sprintf("once(%s)", show(n.Left))
	case api.Group:
		return fmt.Sprintf("group%v.%d.%d(%s)", n.Cols, n.Agg, n.Of, show(n.Left))
	}
	return fmt.Sprint("kind ", n.Kind)
}

func showCond(c api.Cond) string {
	if c == (api.Cond{Left: -1, Op: api.Eq, Right: -1}) {
		return "never"
	}
	left, right := fmt.Sprint("$", c.Left), fmt.Sprint("$", c.Right)
	if c.Right == -1 {
		right = value.Show(c.Val)
	} else if c.Val != value.Null() {
		right += "!"
	}
	return fmt.Sprint(left, " ", signs[c.Op], " ", right)
}

func checkPlan(t *testing.T, text, want string, views ...plan.View) {
	t.Helper()
	n, why := plan.Compile(read(t, text), kinds(t), views...)
	if got := show(n); why != api.OK || got != want {
		t.Errorf("%s: %s, %v, not %s", text, got, why, want)
	}
}

func checkFault(t *testing.T, text string, want api.Errno, views ...plan.View) {
	t.Helper()
	n, why := plan.Compile(read(t, text), kinds(t), views...)
	if n != nil || why != want {
		t.Errorf("%s: %s, %v, not %v", text, show(n), why, want)
	}
}

// scan, once: nodes of plans that are made by hand.
func scan(name string, wide int) *api.Node {
	return &api.Node{Kind: api.Scan, Name: name, Wide: wide}
}

func once(n *api.Node, many int) *api.Node {
	for range many {
		n = &api.Node{Kind: api.Once, Left: n}
	}
	return n
}

// view answers one of texts, with as many columns as its plan has.
func view(name string, n *api.Node) plan.View {
	v := plan.View{Schema: api.Schema{Name: name}, Plan: n}
	for i := range plan.Wide(n) {
		v.Schema.Cols = append(v.Schema.Cols, col(fmt.Sprint("c", i), api.Text, false))
	}
	return v
}

// P17.1: atoms.
func TestAtoms(t *testing.T) {
	checkPlan(t, "deny d(s) if pod(s, n, _, c, _), c > 3", "once(take[0](where[$3 > 3](pod.5)))")
	checkPlan(t, "deny d(s) if pod(s, n, i, c, u)", "once(take[0](pod.5))")
	checkPlan(t, "deny d(a) if tenant(a, _)", "once(take[0](tenant.2))")
	checkPlan(t, "deny d(p, n, p) if tenant(n, p)", "once(take[1 0 1](tenant.2))")
	checkPlan(t, "view v(count) if tenant(_, _)", "group[].1.0(tenant.2)")
	// Values, by rising columns; null as well.
	checkPlan(t, `deny d(n) if pod("a", n, "", -3, true)`, `once(take[1](where[$0 == "a", $2 == "", $3 == -3, $4 == true](pod.5)))`)
	checkPlan(t, "deny d(n) if h(_, n, null, 0)", "once(take[1](where[$2 == null, $3 == 0](h.4)))")
	// A variable that stands twice in it, and more often: the first column is asked each time.
	checkPlan(t, "deny d(a) if tenant(a, a)", "once(take[0](where[$1 == $0](tenant.2)))")
	checkPlan(t, "deny d(a) if pod(a, a, a, _, _)", "once(take[0](where[$1 == $0, $2 == $0](pod.5)))")
	checkPlan(t, "deny d(b, a) if pod(_, b, b, c, _), pod(a, _, a, c, _)", "once(take[1 5](meet[3:3](where[$2 == $1](pod.5), where[$2 == $0](pod.5))))")
	checkPlan(t, `deny d(a, b) if big(a, b, "x", b, a, _, a, "y")`, `once(take[0 1](where[$2 == "x", $3 == $1, $4 == $0, $6 == $0, $7 == "y"](big.8)))`)
	checkPlan(t, "deny d(x) if h(_, _, x, x), h(_, _, 3, x)", "once(take[2](meet[2:3](where[$3 == $2](h.4), where[$2 == 3](h.4))))")
}

// P17.1: several atoms.
func TestMeets(t *testing.T) {
	checkPlan(t, "deny d(s) if pod(s, n, _, _, _), tenant(s, p)", "once(take[0](meet[0:0](pod.5, tenant.2)))")
	checkPlan(t, "deny d(s, p) if tenant(s, p), pod(s, n, _, _, _)", "once(take[0 1](meet[0:0](tenant.2, pod.5)))")
	// Without a variable that both have.
	checkPlan(t, "deny d(a, b) if tenant(a, _), tenant(_, b)", "once(take[0 3](meet[](tenant.2, tenant.2)))")
	checkPlan(t, "deny d(a) if tenant(a, _), tenant(_, _)", "once(take[0](meet[](tenant.2, tenant.2)))")
	// By rising columns of the atom, not of what there is.
	checkPlan(t, "deny d(a) if tenant(a, b), tenant(b, a)", "once(take[0](meet[1:0 0:1](tenant.2, tenant.2)))")
	checkPlan(t, "deny d(a) if pod(a, b, c, _, _), big(_, c, d, b, _, a, e, _)", "once(take[0](meet[2:1 1:3 0:5](pod.5, big.8)))")
	// What stands in the atom again has no pair, but a condition; what is there twice is asked at its first column.
	checkPlan(t, "deny d(a) if tenant(a, a), tenant(a, a)", "once(take[0](meet[0:0](where[$1 == $0](tenant.2), where[$1 == $0](tenant.2))))")
	checkPlan(t, "deny d(a) if tenant(b, a), tenant(c, a), tenant(a, c)",
		"once(take[1](meet[1:0 2:1](meet[1:1](tenant.2, tenant.2), tenant.2)))")
	checkPlan(t, "deny d(a, e) if tenant(a, b), tenant(b, c), tenant(c, d), tenant(d, e)",
		"once(take[0 7](meet[5:0](meet[3:0](meet[1:0](tenant.2, tenant.2), tenant.2), tenant.2)))")
	// Atoms go in their order, whatever stands between.
	checkPlan(t, "deny d(s) if not tenant(p, _), tenant(s, p), c > 3, pod(s, _, _, c, _)",
		"once(take[0](miss[1:0](where[$5 > 3](meet[0:0](tenant.2, pod.5)), tenant.2)))")
}

// P17.1: comparisons.
func TestComparisons(t *testing.T) {
	for text, want := range map[string]string{
		"c == 3": "$2 == 3", "c != 3": "$2 != 3", "c < 3": "$2 < 3", "c <= 3": "$2 <= 3", "c > 3": "$2 > 3", "c >= 3": "$2 >= 3",
		// A constant ahead.
		"3 == c": "$2 == 3", "3 != c": "$2 != 3", "3 < c": "$2 > 3", "3 <= c": "$2 >= 3", "3 > c": "$2 < 3", "3 >= c": "$2 <= 3",
		"null < c": "$2 > null", "c == null": "$2 == null", `"x" <= s`: `$0 >= "x"`, `s > ""`: `$0 > ""`,
		// Two variables, as they stand.
		"c == e": "$2 == $3", "e != c": "$3 != $2", "c < e": "$2 < $3", "e < c": "$3 < $2", "c <= e": "$2 <= $3", "e > c": "$3 > $2", "s >= n": "$0 >= $1", "c < c": "$2 < $2",
		// Two constants: what holds is no condition, what does not never holds.
		"1 == 2": "never", "1 != 1": "never", "2 < 1": "never", "1 <= 0": "never", "1 > 1": "never", `"a" >= "b"`: "never", "null == 3": "never", "true < false": "never",
		"3 < null": "never", `null >= ""`: "never",
	} {
		checkPlan(t, "deny d(s) if h(s, n, c, e), "+text, "once(take[0](where["+want+"](h.4)))")
		checkPlan(t, "deny d(s) if "+text+", h(s, n, c, e), not tenant(s, _), 1 == 1", "once(take[0](miss[0:0](where["+want+"](h.4), tenant.2)))")
	}
	for _, text := range []string{"1 == 1", "1 != 2", "1 < 2", "1 <= 1", "2 > 1", `"b" >= "b"`, "null < 3", "null == null", "false <= true", "1 == 1, 2 == 2"} {
		checkPlan(t, "deny d(s) if h(s, n, c, e), "+text, "once(take[0](h.4))")
		checkPlan(t, "deny d(s) if "+text+", h(s, n, c, 3), not tenant(s, _)", "once(take[0](miss[0:0](where[$3 == 3](h.4), tenant.2)))")
	}
	// All of them in one Where, in their order, above that of the atom.
	checkPlan(t, "deny d(s) if 5 > e, h(s, s, c, e), 1 == 1, 1 == 2, c > e, 2 < 1, s == \"x\", 2 < 3",
		`once(take[0](where[$3 < 5, never, $2 > $3, never, $0 == "x"](where[$1 == $0](h.4))))`)
	// First columns, of what all atoms have together.
	checkPlan(t, "deny d(p) if tenant(s, p), h(s, n, c, e), e > 3, n == p, c <= e",
		"once(take[1](where[$5 > 3, $3 == $1, $4 <= $5](meet[0:0](tenant.2, h.4))))")
}

// P17.1: negated atoms.
func TestMisses(t *testing.T) {
	checkPlan(t, "deny d(s) if pod(s, n, _, _, _), not tenant(s, _)", "once(take[0](miss[0:0](pod.5, tenant.2)))")
	checkPlan(t, "deny d(s) if pod(s, n, _, _, _), not tenant(n, s)", "once(take[0](miss[1:0 0:1](pod.5, tenant.2)))")
	checkPlan(t, "deny d(s) if pod(s, n, _, _, _), not tenant(s, s)", "once(take[0](miss[0:0](pod.5, where[$1 == $0](tenant.2))))")
	checkPlan(t, `deny d(s) if pod(s, n, _, _, _), not tenant("a", n)`, `once(take[0](miss[1:1](pod.5, where[$0 == "a"](tenant.2))))`)
	checkPlan(t, "deny d(s) if pod(s, n, _, _, _), not tenant(_, _)", "once(take[0](miss[](pod.5, tenant.2)))")
	// In order, above the comparisons, and without columns of their own.
	checkPlan(t, "deny d(s) if not tenant(n, _), pod(s, n, _, c, _), not tenant(_, s), c == 3, not h(s, _, c, c), tenant(n, p)",
		"once(take[0](miss[0:0 3:2](miss[0:1](miss[1:0](where[$3 == 3](meet[1:0](pod.5, tenant.2)), tenant.2), tenant.2), where[$3 == $2](h.4))))")
	// What stands in what there is twice is asked at its first column.
	checkPlan(t, "deny d(p) if tenant(s, p), pod(s, p, _, _, _), not tenant(p, s)", "once(take[1](miss[1:0 0:1](meet[0:0 1:1](tenant.2, pod.5), tenant.2)))")
}

// P17.1: what is told.
func TestHeads(t *testing.T) {
	body := " if tenant(p, s), pod(s, n, _, c, u)"
	below := "(meet[1:0](tenant.2, pod.5))"
	for head, want := range map[string]string{
		"deny d(s)":                  "once(take[1]" + below + ")",
		"deny d(u, c, s, c)":         "once(take[6 5 1 5]" + below + ")",
		"view v(n, p)":               "once(take[3 0]" + below + ")",
		"view v(count)":              "group[].1.0" + below,
		"view v(s, count)":           "group[1].1.0" + below,
		"view v(u, n, u, count)":     "group[6 3 6].1.0" + below,
		"view v(sum c)":              "group[].2.5" + below,
		"view v(s, least c)":         "group[1].3.5" + below,
		"view v(c, most c)":          "group[5].4.5" + below,
		"quota q(s, count) limit 3":  "group[1].1.0" + below,
		"quota q(p, sum c) limit -3": "group[0].2.5" + below,
	} {
		checkPlan(t, head+body, want)
	}
}

// P17.1: views.
func TestViews(t *testing.T) {
	a := plan.View{Schema: api.Schema{Name: "a", Cols: []api.Column{col("s", api.Text, false), col("c", api.Int, false)}}, Plan: once(scan("x", 2), 1)}
	b := plan.View{Schema: api.Schema{Name: "a", Cols: []api.Column{col("s", api.Text, false)}}, Plan: scan("y", 1)}
	c := plan.View{Schema: api.Schema{Name: "c", Cols: []api.Column{col("s", api.Text, false)}}, Plan: scan("z", 1)}
	checkPlan(t, "deny d(s) if a(s, c)", "once(take[0](once(x.2)))", a)
	checkPlan(t, "deny d(s) if a(s, 3)", "once(take[0](where[$1 == 3](once(x.2))))", a)
	checkPlan(t, "deny d(s) if c(s), a(s, c), not a(s, 0), c > 2", "once(take[0](miss[0:0](where[$2 > 2](meet[0:0](z.1, once(x.2))), where[$1 == 0](once(x.2)))))", a, b, c)
	checkPlan(t, "view v(s, sum c) if a(s, c)", "group[0].2.1(once(x.2))", c, a, b)
	// Of several of one name the first.
	checkPlan(t, "deny d(s) if a(s)", "once(take[0](y.1))", b, a, c)
	checkFault(t, "deny d(s) if a(s)", api.ErrLong, a, b, c)
	checkFault(t, "deny d(s) if a(s, c)", api.ErrLong, c, b, a)
	// A relation of the set is asked, not a view of its name.
	x := plan.View{Schema: api.Schema{Name: "tenant", Cols: a.Schema.Cols}, Plan: a.Plan}
	y := plan.View{Schema: api.Schema{Name: "pod", Cols: a.Schema.Cols}, Plan: a.Plan}
	checkPlan(t, "deny d(s) if tenant(s, p), not pod(s, _, _, _, _)", "once(take[0](miss[0:0](tenant.2, pod.5)))", x, y)
	checkFault(t, "deny d(s) if pod(s, c)", api.ErrLong, x, y)
	checkFault(t, "deny d(s) if c(s)", api.ErrKind, a, b)
	checkFault(t, "deny d(s) if c(s)", api.ErrKind)
	// The view's plan itself stands in each place.
	n, _ := plan.Compile(read(t, "deny d(s) if a(s, c), a(c1, c)"), kinds(t), a)
	if meet := n.Left.Left; meet.Left != a.Plan || meet.Right != a.Plan {
		t.Error(show(n))
	}
}

// P17.1: errors, and which one is told.
func TestFaults(t *testing.T) {
	for text, why := range map[string]api.Errno{
		// types.Head's.
		"deny d(s) if z(s)":                               api.ErrKind,
		"deny d(s) if tenant(s)":                          api.ErrLong,
		"deny d(s) if tenant(s, 3)":                       api.ErrType,
		"deny d(s) if tenant(s, _), s > 3":                api.ErrType,
		"deny d(a) if tenant(s, _)":                       api.ErrSafe,
		"view v(sum s) if tenant(s, _)":                   api.ErrType,
		"view v(sum x) if h(_, _, x, _)":                  api.ErrType,
		"quota q(c, count) limit 3 if pod(_, _, _, c, _)": api.ErrType,
		// types.Head's goes ahead of guard.Check's.
		"deny d(a) if tenant(s, _), tenant(b, 3)":                    api.ErrType,
		"deny d(a) if not tenant(s, _), z(b)":                        api.ErrKind,
		"view v(s, sum s) if tenant(s, _), a < 3":                    api.ErrType,
		"view v(s, sum s) if tenant(s, _), not tenant(a, _), b == 3": api.ErrType,
		"view v(count) if not tenant(b), b == 3":                     api.ErrLong,
		"deny d(s) if tenant(s, _), not z(b)":                        api.ErrKind,
		// guard.Check's.
		"deny d(s) if tenant(s, _), not tenant(a, _)": api.ErrSafe,
		"deny d(s) if tenant(s, _), a < 3":            api.ErrSafe,
		"deny d(s) if tenant(s, _), s == a":           api.ErrSafe,
		"view v(count) if not tenant(_, _)":           api.ErrSafe,
		"view v(count) if 1 == 2":                     api.ErrSafe,
	} {
		checkFault(t, text, why)
	}
	// Without a set.
	for _, x := range []api.Rule{{}, read(t, "deny d(s) if z(s)"), read(t, "deny d(s) if tenant(s, _)"), read(t, "view v(count) if a(_)")} {
		if n, why := plan.Compile(x, nil, view("a", scan("a", 1))); n != nil || why != api.ErrNil {
			t.Error(x, show(n), why)
		}
	}
	// Too much of something is told behind all else.
	long := strings.Repeat("big(s, _, _, _, _, _, _, _), ", 5) + "tenant(s, _)"
	checkFault(t, "deny d(s) if "+long, api.ErrLong)
	checkFault(t, "deny d(a) if "+long, api.ErrSafe)
	checkFault(t, "deny d(s) if "+long+", a > 3", api.ErrSafe)
	checkFault(t, "deny d(s) if "+long+", s > 3", api.ErrType)
	checkFault(t, "deny d(s) if "+long+", not z(s)", api.ErrKind)
}

// P17.1: how many args the atoms have together.
func TestArgs(t *testing.T) {
	big := "big(s, _, _, _, _, _, _, _), "
	one, full := view("one", scan("one", 1)), view("full", scan("full", 40))
	rest := strings.Repeat(", _", 39) + ")"
	five := "meet[0:0](meet[0:0](meet[0:0](meet[0:0](big.8, big.8), big.8), big.8), big.8)"
	checkPlan(t, "deny d(s) if "+strings.Repeat(big, 5)+"1 == 1", "once(take[0]("+five+"))")
	checkFault(t, "deny d(s) if "+strings.Repeat(big, 5)+"one(s)", api.ErrLong, one)
	checkFault(t, "deny d(s) if one(_), "+strings.Repeat(big, 5)+"1 == 1", api.ErrLong, one)
	checkFault(t, "deny d(s) if "+strings.Repeat(big, 6)+"1 == 1", api.ErrLong)
	// Those of negated ones are not counted.
	checkPlan(t, "deny d(s) if "+strings.Repeat(big, 5)+"not one(s), not big(s, _, _, _, _, _, _, _)", "once(take[0](miss[0:0](miss[0:0]("+five+", one.1), big.8)))", one)
	checkPlan(t, "deny d(s) if full(s"+rest, "once(take[0](full.40))", full)
	checkPlan(t, "deny d(s) if full(s"+rest+", not full(s"+rest, "once(take[0](miss[0:0](full.40, full.40)))", full)
	checkFault(t, "deny d(s) if full(s"+rest+", one(s)", api.ErrLong, full, one)
	checkFault(t, "view v(count) if one(s), full(s"+rest, api.ErrLong, full, one)
}

// P17.1: how many columns the plan has.
func TestColumns(t *testing.T) {
	heads := func(n int) string { return strings.Repeat("s, ", n-1) + "s" }
	places := func(n int) string { return fmt.Sprint(make([]int, n)) }
	body := ") if pod(s, _, _, c, _)"
	for _, n := range []int{1, 2, 39, 40} {
		checkPlan(t, "deny d("+heads(n)+body, "once(take"+places(n)+"(pod.5))")
	}
	for _, n := range []int{1, 2, 38, 39} {
		checkPlan(t, "view v("+heads(n)+", count"+body, "group"+places(n)+".1.0(pod.5)")
		checkPlan(t, "view v("+heads(n)+", sum c"+body, "group"+places(n)+".2.3(pod.5)")
	}
	checkFault(t, "view v("+heads(40)+", count"+body, api.ErrLong)
	checkFault(t, "view v("+heads(40)+", most c"+body, api.ErrLong)
	// More than a text can have.
	x := read(t, "deny d(s"+body)
	for _, n := range []int{41, 1000} {
		x.Head = slices.Repeat([]string{"s"}, n)
		if got, why := plan.Compile(x, kinds(t)); got != nil || why != api.ErrLong {
			t.Error(n, show(got), why)
		}
	}
}

// P17.1: how many nodes the plan has, each as often as it stands there.
func TestNodes(t *testing.T) {
	for _, c := range []struct {
		text string
		more int // what the plan has beside the view's, as often as that stands in it
		each int
	}{
		{"deny d(a) if v(a)", 2, 1},
		{"view v(a, count) if v(a)", 1, 1},
		{"deny d(a) if v(a), 1 == 1", 2, 1},
		{"deny d(a) if v(a), 1 == 2", 3, 1},
		{`deny d(a) if v(a), a > "x", a < "y"`, 3, 1},
		{`deny d(a) if tenant(a, _), v("x")`, 5, 1},
		{"deny d(a) if tenant(a, _), not v(a)", 4, 1},
		{"deny d(a) if v(a), v(b)", 3, 2},
		{"view v(count) if v(a), v(a), not v(a)", 3, 3},
		{`view v(count) if v(_), v(_), v(_), v(_), v(_), v(_), not v(_), not v(_), not v(_), not v("x")`, 11, 10},
	} {
		most := (60 - c.more) / c.each
		x := read(t, c.text)
		for many := most - 1; many <= most+1; many++ {
			v := view("v", once(scan("x", 1), many-1))
			n, why := plan.Compile(x, kinds(t), v)
			if many > most {
				if n != nil || why != api.ErrLong {
					t.Error(c.text, many, why)
				}
			} else if want := c.more + c.each*many; why != api.OK || plan.Many(n) != want {
				t.Error(c.text, many, why, plan.Many(n))
			}
		}
	}
}

// P17.1
func TestWide(t *testing.T) {
	pod, one := scan("pod", 5), scan("one", 1)
	take := &api.Node{Kind: api.Take, Cols: []int{2, 2, 0}, Left: pod}
	group := &api.Node{Kind: api.Group, Cols: []int{1, 3}, Agg: api.Sum, Of: 3, Left: pod}
	all := &api.Node{Kind: api.Group, Agg: api.Count, Left: pod}
	meet := func(a, b *api.Node) *api.Node { return &api.Node{Kind: api.Meet, Left: a, Right: b} }
	miss := func(a, b *api.Node) *api.Node { return &api.Node{Kind: api.Miss, Left: a, Right: b} }
	where := func(a *api.Node) *api.Node {
		return &api.Node{Kind: api.Where, Conds: []api.Cond{{Left: -1, Op: api.Eq, Right: -1}}, Left: a}
	}
	for _, c := range []struct {
		n          *api.Node
		wide, many int
	}{
		{nil, 0, 0},
		{pod, 5, 1},
		{one, 1, 1},
		{scan("most", 40), 40, 1},
		{where(pod), 5, 2},
		{once(pod, 1), 5, 2},
		{once(pod, 399), 5, 400},
		{take, 3, 2},
		{group, 3, 2},
		{all, 1, 2},
		{where(once(group, 2)), 3, 5},
		{meet(pod, one), 6, 3},
		{meet(one, pod), 6, 3},
		{miss(pod, one), 5, 3},
		{miss(one, pod), 1, 3},
		{meet(take, group), 6, 5},
		{meet(meet(pod, take), miss(all, pod)), 9, 9},
		// A node that stands there several times.
		{meet(pod, pod), 10, 3},
		{miss(meet(take, take), meet(take, take)), 6, 11},
		{once(meet(where(all), where(all)), 3), 2, 10},
	} {
		if wide, many := plan.Wide(c.n), plan.Many(c.n); wide != c.wide || many != c.many {
			t.Errorf("%s: %d and %d, not %d and %d", show(c.n), wide, many, c.wide, c.many)
		}
	}
}

// Rules 4 and 5: what is handed in is neither changed nor kept, but for views' nodes; no two plans share lists.
func TestNothingShared(t *testing.T) {
	s := kinds(t)
	v := view("v", &api.Node{Kind: api.Take, Cols: []int{1, 0}, Left: scan("x", 2)})
	x := read(t, `view w(s, c, sum c) if v(s, "a"), pod(s, s, _, c, _), c > 3, 1 == 2, c <= c, not tenant(s, s)`)
	x.Head = append(make([]string, 0, 8), x.Head...)
	views := append(make([]plan.View, 0, 4), v)
	want := `group[0 5].2.5(miss[0:0](where[$5 > 3, never, $5 <= $5](meet[0:0](where[$1 == "a"](take[1 0](x.2)), where[$1 == $0](pod.5))), where[$1 == $0](tenant.2)))`
	was := fmt.Sprint(x, x.Head[:8], views[0].Schema, show(v.Plan))
	first, why := plan.Compile(x, s, views...)
	if why != api.OK || show(first) != want {
		t.Fatal(show(first), why)
	}
	again, _ := plan.Compile(x, s, views...)
	scribble(first, v.Plan)
	if show(again) != want {
		t.Error(show(again))
	}
	third, _ := plan.Compile(x, s, views...)
	if show(third) != want || fmt.Sprint(x, x.Head[:8], views[0].Schema, show(v.Plan)) != was {
		t.Error(show(third), x, views)
	}
	// Later writing into what was handed in.
	x.Head[0], x.Body[0].Args[1].Val, x.Body[2].Op = "zz", value.Int(3), api.Eq
	views[0].Schema.Cols[0].Kind, views[0].Plan = 0, nil
	if show(third) != want {
		t.Error(show(third))
	}
}

// scribble writes into all lists of a plan, and behind them, but not into those of one that it stands on.
func scribble(n, but *api.Node) {
	if n == nil || n == but {
		return
	}
	for i := range n.Conds {
		n.Conds[i] = api.Cond{Left: 77}
	}
	for i := range n.Pairs {
		n.Pairs[i] = api.Pair{Left: 77}
	}
	for i := range n.Cols {
		n.Cols[i] = 77
	}
	_, _, _ = append(n.Conds, api.Cond{}), append(n.Pairs, api.Pair{}), append(n.Cols, 0)
	scribble(n.Left, but)
	scribble(n.Right, but)
	*n = api.Node{Kind: 77}
}

// twins answers a plan in which each node stands on one other one twice: it has more nodes than can be counted one by one.
func twins(levels int) *api.Node {
	n := scan("x", 1)
	for range levels {
		n = &api.Node{Kind: api.Meet, Left: n, Right: n}
	}
	return n
}

// P6: plans, rules and views of any size and any form.
func TestEnds(t *testing.T) {
	if many := plan.Many(twins(10)); many != 2047 {
		t.Error(many)
	}
	if wide := plan.Wide(twins(10)); wide != 1024 {
		t.Error(wide)
	}
	for _, levels := range []int{30, 31, 62, 63, 64, 65, 200, 1 << 16} {
		n := twins(levels)
		plan.Wide(n)
		if many := plan.Many(n); many < 1<<31-1 {
			t.Error(levels, many)
		}
		v := view("v", nil)
		v.Schema.Cols = []api.Column{col("a", api.Text, false)}
		v.Plan = n
		plan.Compile(read(t, "deny d(a) if v(a), v(b), not v(a)"), kinds(t), v)
	}
	deep := once(scan("x", 3), 1<<16)
	if plan.Wide(deep) != 3 || plan.Many(deep) != 1<<16+1 {
		t.Error(plan.Wide(deep), plan.Many(deep))
	}
	for _, n := range []*api.Node{
		{}, {Kind: -1}, {Kind: 8, Left: scan("x", 3)}, {Kind: math.MaxInt}, {Kind: api.Meet}, {Kind: api.Once}, {Kind: api.Miss, Right: scan("x", 1)},
		{Kind: api.Take}, {Kind: api.Group}, {Kind: api.Where, Conds: make([]api.Cond, 3)}, {Kind: api.Scan, Wide: math.MinInt}, {Kind: api.Scan, Wide: math.MaxInt, Left: deep},
		{Kind: api.Meet, Left: scan("x", math.MaxInt), Right: scan("x", math.MaxInt)},
	} {
		plan.Wide(n)
		plan.Many(n)
		for _, wide := range []int{0, 1, 3, 50} {
			v := plan.View{Schema: api.Schema{Name: "v"}, Plan: n}
			atom := api.Literal{Name: "v"}
			for range wide {
				v.Schema.Cols = append(v.Schema.Cols, col("a", api.Text, false))
				atom.Args = append(atom.Args, api.Term{Var: "a"})
			}
			not := atom
			not.Not = true
			for _, x := range []api.Rule{{Body: []api.Literal{atom}}, {Body: []api.Literal{atom, atom, not}}, {Agg: 9, Of: "a", Head: []string{"a"}, Body: []api.Literal{atom}}} {
				plan.Compile(x, kinds(t), v, plan.View{}, plan.View{Plan: n})
			}
		}
	}
	many := make([]plan.View, 1<<16)
	wide := plan.View{Schema: api.Schema{Name: "w", Cols: make([]api.Column, 1<<16)}}
	atom := api.Literal{Name: "w", Args: make([]api.Term, 1<<16)}
	for i := range many {
		many[i].Schema.Name = fmt.Sprint("v", i)
		atom.Args[i].Var = many[i].Schema.Name
	}
	if n, why := plan.Compile(api.Rule{Body: []api.Literal{atom}}, kinds(t), append(many, wide)...); n != nil || why != api.ErrLong {
		t.Error(show(n), why)
	}
	body := slices.Repeat([]api.Literal{{Name: "tenant", Args: []api.Term{{Var: "a"}, {Var: "b"}}}}, 1<<16)
	if n, why := plan.Compile(api.Rule{Head: []string{"a"}, Body: body}, kinds(t)); n != nil || why != api.ErrLong {
		t.Error(why)
	}
}
