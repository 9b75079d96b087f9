package plan_test

import (
	"fmt"
	"math/rand"
	"slices"
	"strings"
	"testing"

	"verderer/api"
	"verderer/guard"
	"verderer/plan"
	"verderer/print"
	"verderer/schema"
	"verderer/shape"
	"verderer/types"
	"verderer/value"
)

// world is what a rule is compiled over.
type world struct {
	set   *schema.Set
	views []plan.View
}

func (w world) schemas() []api.Schema {
	var out []api.Schema
	for _, v := range w.views {
		out = append(out, v.Schema)
	}
	return out
}

// columns answers a relation's; none, if there is none.
func (w world) columns(name string) []api.Column {
	if cols, why := w.set.Columns(name); why == api.OK {
		return cols
	}
	for _, v := range w.views {
		if v.Schema.Name == name {
			return v.Schema.Cols
		}
	}
	return nil
}

// drawn is a plan as a text, and how many nodes it has.
type drawn struct {
	text string
	many int
}

func (d drawn) under(format string, args ...any) drawn {
	return drawn{fmt.Sprintf(format, append(args, d.text)...), d.many + 1}
}

func (d drawn) beside(kind string, pairs []string, other drawn) drawn {
	return drawn{fmt.Sprintf("%s[%s](%s, %s)", kind, strings.Join(pairs, " "), d.text, other.text), d.many + other.many + 1}
}

// names answers the variables of terms, by their columns; "" where none is.
func names(l []api.Term) []string {
	var out []string
	for _, a := range l {
		if a.Any {
			a.Var = ""
		}
		out = append(out, a.Var)
	}
	return out
}

// atom draws an atom's plan, by the chapter's words.
func (w world) atom(l api.Literal) drawn {
	var d drawn
	if cols, why := w.set.Columns(l.Name); why == api.OK {
		d = drawn{fmt.Sprint(l.Name, ".", len(cols)), 1}
	} else {
		v := w.views[slices.IndexFunc(w.views, func(v plan.View) bool { return v.Schema.Name == l.Name })]
		d = drawn{show(v.Plan), plan.Many(v.Plan)}
	}
	var conds []string
	vars := names(l.Args)
	for i, a := range l.Args {
		if a.Any {
			continue
		}
		if a.Var == "" {
			conds = append(conds, fmt.Sprintf("$%d == %s", i, value.Show(a.Val)))
		} else if k := slices.Index(vars, a.Var); k < i {
			conds = append(conds, fmt.Sprintf("$%d == $%d", i, k))
		}
	}
	if len(conds) > 0 {
		d = d.under("where[%s](%s)", strings.Join(conds, ", "))
	}
	return d
}

// together answers the pairs of an atom with what there is: the variables of its columns.
func together(there []string, l api.Literal) []string {
	var out []string
	vars := names(l.Args)
	for i, name := range vars {
		k := slices.Index(there, name)
		if name != "" && k >= 0 && !slices.Contains(vars[:i], name) {
			out = append(out, fmt.Sprint(k, ":", i))
		}
	}
	return out
}

// compared answers the conditions of a comparison.
func compared(there []string, l api.Literal) []string {
	a, b := l.Args[0], l.Args[1]
	sign := signs[l.Op]
	place := func(t api.Term) string { return fmt.Sprint("$", slices.Index(there, t.Var)) }
	switch {
	case a.Var != "" && b.Var != "":
		return []string{place(a) + " " + sign + " " + place(b)}
	case a.Var != "":
		return []string{place(a) + " " + sign + " " + value.Show(b.Val)}
	case b.Var != "":
		return []string{place(b) + " " + strings.NewReplacer("<", ">", ">", "<").Replace(sign) + " " + value.Show(a.Val)}
	}
	holding := [][]string{{"!=", "<", "<="}, {"==", "<=", ">="}, {"!=", ">", ">="}}[value.Compare(a.Val, b.Val)+1]
	if slices.Contains(holding, sign) {
		return nil
	}
	return []string{"never"}
}

// wanted answers what Compile does, by P17.1.
func (w world) wanted(x api.Rule) (drawn, api.Errno) {
	if _, _, why := types.Head(x, w.set, w.schemas()...); why != api.OK {
		return drawn{}, why
	}
	if _, why := guard.Check(x); why != api.OK {
		return drawn{}, why
	}
	var d drawn
	var there, conds []string
	for _, l := range x.Body {
		if l.Op != 0 || l.Not {
			continue
		}
		if there == nil {
			d = w.atom(l)
		} else {
			d = d.beside("meet", together(there, l), w.atom(l))
		}
		there = append(there, names(l.Args)...)
	}
	for _, l := range x.Body {
		if l.Op != 0 {
			conds = append(conds, compared(there, l)...)
		}
	}
	if len(conds) > 0 {
		d = d.under("where[%s](%s)", strings.Join(conds, ", "))
	}
	for _, l := range x.Body {
		if l.Op == 0 && l.Not {
			d = d.beside("miss", together(there, l), w.atom(l))
		}
	}
	cols := make([]int, 0, 8)
	for _, name := range x.Head {
		cols = append(cols, slices.Index(there, name))
	}
	wide := len(cols)
	if x.Agg == api.Plain {
		d = d.under("take%v(%s)", cols).under("once(%s)")
	} else {
		of := 0
		if x.Agg != api.Count {
			of = slices.Index(there, x.Of)
		}
		d = d.under("group%v.%d.%d(%s)", cols, x.Agg, of)
		wide++
	}
	if len(there) > 40 || wide > 40 || d.many > 60 {
		return drawn{}, api.ErrLong
	}
	return d, api.OK
}

func one[T any](r *rand.Rand, some ...T) T { return some[r.Intn(len(some))] }

func randomColumns(r *rand.Rand, n int) []api.Column {
	var out []api.Column
	for i := range n {
		out = append(out, col(string(rune('a'+i)), one(r, 1, 2, 2, 3, 3), r.Intn(4) == 0))
	}
	return out
}

// randomPlan answers one of so many columns, of which each node can be.
func randomPlan(r *rand.Rand, wide int) *api.Node {
	var n *api.Node
	switch r.Intn(3) {
	case 0:
		n = scan("x", wide)
	case 1:
		n = &api.Node{Kind: api.Take, Left: scan("y", 3)}
		for range wide {
			n.Cols = append(n.Cols, r.Intn(3))
		}
	default:
		n = &api.Node{Kind: api.Group, Agg: api.Sum, Of: r.Intn(5), Left: scan("z", 5)}
		for range wide - 1 {
			n.Cols = append(n.Cols, r.Intn(5))
		}
	}
	return once(n, one(r, 0, 1, 2, 8, 20))
}

func randomWorld(t *testing.T, r *rand.Rand) world {
	t.Helper()
	s, why := schema.New(api.Schema{Name: "k", Cols: randomColumns(r, r.Intn(4))}, api.Schema{Name: "l", Cols: randomColumns(r, r.Intn(7))})
	if why != api.OK {
		t.Fatal(why)
	}
	w := world{set: s}
	for range r.Intn(5) {
		wide := 1 + r.Intn(one(r, 3, 3, 12))
		w.views = append(w.views, plan.View{Schema: api.Schema{Name: one(r, "v", "w", "k", "tenant"), Cols: randomColumns(r, wide)}, Plan: randomPlan(r, wide)})
	}
	return w
}

func randomTerm(r *rand.Rand, kind, astray int) api.Term {
	if r.Intn(astray) == 0 {
		kind = 1 + r.Intn(3)
	}
	if r.Intn(5) == 0 {
		switch kind {
		case 1:
			return api.Term{Val: value.Bool(r.Intn(2) == 0)}
		case 2:
			return api.Term{Val: value.Int(int64(r.Intn(3)))}
		}
		return api.Term{Val: value.Text(one(r, "", "x"))}
	}
	return api.Term{Var: string("xyz"[kind-1]) + one(r, "", "", "1", "2")}
}

func (w world) randomLiteral(r *rand.Rand, astray int) api.Literal {
	if r.Intn(4) == 0 {
		kind := 1 + r.Intn(3)
		return api.Literal{Op: 1 + r.Intn(6), Args: []api.Term{randomTerm(r, kind, astray), randomTerm(r, kind, astray)}}
	}
	l := api.Literal{Not: r.Intn(4) == 0, Name: one(r, "k", "k", "l", "l", "tenant", "v", "w")}
	cols := w.columns(l.Name)
	if r.Intn(astray) == 0 {
		cols = cols[:len(cols)/2]
	}
	for _, c := range cols {
		a := randomTerm(r, c.Kind, astray)
		if r.Intn(4) == 0 {
			a = api.Term{Any: true}
		}
		l.Args = append(l.Args, a)
	}
	return l
}

// randomRule answers one that some text is, but perhaps for how long that would be.
func (w world) randomRule(r *rand.Rand, astray int) api.Rule {
	x := api.Rule{Kind: 1 + r.Intn(2), Name: "x"}
	atoms := 0
	for range 1 + r.Intn(10) {
		l := w.randomLiteral(r, astray)
		if l.Op == 0 && !l.Not {
			if atoms++; atoms > 6 {
				l.Not = true
			}
		}
		x.Body = append(x.Body, l)
	}
	vars := append(guard.Bound(x), one(r, "x", "y", "z"))
	for range one(r, 1, 1, 2, 3, 5, 39, 40) {
		x.Head = append(x.Head, vars[r.Intn(max(1, len(vars)-1))])
	}
	if r.Intn(2) == 0 {
		x.Kind, x.Agg = api.View, 1+r.Intn(4)
		if x.Agg > 1 {
			x.Of = one(r, "y", "y1", "y2")
		}
		x.Head = x.Head[:one(r, 0, 1, len(x.Head))]
	}
	return x
}

// P17.1, P17.3
func TestByDefinition(t *testing.T) {
	r := rand.New(rand.NewSource(1))
	told := map[api.Errno]int{}
	texts := 0
	for n := range 40000 {
		w := randomWorld(t, r)
		x := w.randomRule(r, one(r, 5, 300, 300))
		want, why := w.wanted(x)
		got, gotWhy := plan.Compile(x, w.set, w.views...)
		if gotWhy != why || why == api.OK && show(got) != want.text || why != api.OK && got != nil {
			text, _ := print.Rule(x)
			t.Fatalf("%d: %s, %v: %s, %v, not %s, %v", n, text, x, show(got), gotWhy, want.text, why)
		}
		told[why]++
		if why != api.OK {
			continue
		}
		cols, _, _ := types.Head(x, w.set, w.schemas()...)
		if !shape.Right(got) || plan.Wide(got) != len(cols) || plan.Many(got) != want.many {
			t.Fatalf("%d: %s: %d, %d", n, show(got), plan.Wide(got), plan.Many(got))
		}
		if _, why := print.Rule(x); why == api.OK {
			texts++
		}
	}
	for _, why := range []api.Errno{api.OK, api.ErrKind, api.ErrLong, api.ErrType, api.ErrSafe} {
		if told[why] < 300 {
			t.Error(why, told)
		}
	}
	if texts < 300 {
		t.Error(texts)
	}
}

// P17.3: of rules' texts, of which one asks the other.
func TestFollows(t *testing.T) {
	s := kinds(t)
	var views []plan.View
	for _, text := range []string{
		"view a(s, n, c) if pod(s, n, _, c, true), c > 0",
		"view b(s, sum c) if a(s, _, c), 3 > 4",
		"view c(n, count) if a(s, n, _), not b(s, 3), tenant(s, _)",
		"view d(least c) if c(_, c), c != 3, null < c",
		"quota q(s, sum c) limit 3 if b(s, c), d(c), a(s, s, c)",
		"deny e(c, c, s) if a(s, s, 3), d(c), not a(s, \"x\", c), b(s, 2)",
	} {
		x := read(t, text)
		n, why := plan.Compile(x, s, views...)
		var l []api.Schema
		for _, v := range views {
			l = append(l, v.Schema)
		}
		cols, _, _ := types.Head(x, s, l...)
		if why != api.OK || !shape.Right(n) || plan.Wide(n) != len(cols) || len(cols) == 0 {
			t.Fatal(text, why, show(n), cols)
		}
		views = append(views, plan.View{Schema: api.Schema{Name: x.Name, Cols: cols}, Plan: n})
	}
}
