package rules

import (
	"math/rand"
	"slices"
	"strings"
	"testing"

	"verderer/api"
	"verderer/parse"
	"verderer/plan"
	"verderer/schema"
	"verderer/shape"
	"verderer/strata"
	"verderer/types"
)

// model is a set by the chapter's words: its rules, in any order; all else is reckoned anew.
type model []api.Rule

// right answers the keys of the plans, by the rules' names, if the rules are right together; or the first error.
func (m model) right(s *schema.Set) (map[string]string, api.Errno) {
	order, why := strata.Order(m...)
	if why != api.OK {
		return nil, why
	}
	keys, plans := map[string]string{}, map[string]*api.Node{}
	for i, name := range order {
		var views []plan.View
		for _, ahead := range order[:i] {
			x := m.find(ahead)
			if x.Kind != api.View {
				continue
			}
			v := plan.View{Schema: api.Schema{Name: ahead}, Plan: plans[ahead]}
			var all []api.Schema
			for _, w := range views {
				all = append(all, w.Schema)
			}
			if v.Schema.Cols, _, why = types.Head(x, s, all...); why != api.OK {
				return nil, why
			}
			views = append(views, v)
		}
		if plans[name], why = plan.Compile(m.find(name), s, views...); why != api.OK {
			return nil, why
		}
		keys[name] = shape.Key(plans[name])
	}
	return keys, api.OK
}

func (m model) find(name string) api.Rule {
	for _, x := range m {
		if x.Name == name {
			return x
		}
	}
	return api.Rule{}
}

func (m model) has(name string) bool { return m.find(name).Name != "" }

func (m model) without(name string) model {
	return slices.DeleteFunc(slices.Clone(m), func(x api.Rule) bool { return x.Name == name })
}

func (m model) add(s *schema.Set, text string) (model, int, api.Errno) {
	x, at, why := parse.Rule(text)
	if why != api.OK {
		return m, at, why
	}
	if m.has(x.Name) || x.Name == "pod" || x.Name == "tenant" {
		return m, 0, api.ErrTwice
	}
	if len(m) == 12 {
		return m, 0, api.ErrFull
	}
	return m.put(s, x)
}

func (m model) replace(s *schema.Set, text string) (model, int, api.Errno) {
	x, at, why := parse.Rule(text)
	if why != api.OK {
		return m, at, why
	}
	if !m.has(x.Name) {
		return m, 0, api.ErrNone
	}
	return m.put(s, x)
}

func (m model) put(s *schema.Set, x api.Rule) (model, int, api.Errno) {
	next := append(m.without(x.Name), x)
	if _, why := next.right(s); why != api.OK {
		return m, 0, why
	}
	return next, 0, api.OK
}

func (m model) remove(name string) (model, api.Errno) {
	if !m.has(name) {
		return m, api.ErrNone
	}
	for _, x := range m.without(name) {
		for _, l := range x.Body {
			if l.Op == 0 && l.Name == name {
				return m, api.ErrUsed
			}
		}
	}
	return m.without(name), api.OK
}

// check holds a set against the model: P26.3, too, as the model's rules are right together.
func (m model) check(t *testing.T, s *schema.Set, r *Set) {
	t.Helper()
	keys, why := m.right(s)
	if why != api.OK {
		t.Fatal("not right together", m, why)
	}
	sorted := slices.SortedFunc(slices.Values(m), func(a, b api.Rule) int { return strings.Compare(a.Name, b.Name) })
	list, plans := r.List(), r.Plans()
	if !slices.EqualFunc(list, sorted, parse.Same) || len(plans) != len(list) {
		t.Fatal("List", list, sorted)
	}
	for i, x := range sorted {
		got, why := r.Get(x.Name)
		if why != api.OK || !parse.Same(got, x) {
			t.Fatal("Get", got, why, x)
		}
		if shape.Key(plans[i]) != keys[x.Name] || shape.Key(r.Plan(x.Name)) != keys[x.Name] {
			t.Fatal("Plan", x, shape.Key(plans[i]), shape.Key(r.Plan(x.Name)), keys[x.Name])
		}
	}
}

// chance makes rules' texts, mostly such as may be.
type chance struct{ *rand.Rand }

func (c chance) of(l ...string) string { return l[c.Intn(len(l))] }

func (c chance) name() string {
	if c.Intn(25) == 0 {
		return c.of("pod", "tenant", "zz", "A", "")
	}
	return c.of("a", "b", "c", "d", "e", "f", "g", "h", "i", "j", "k", "l", "m", "n", "o", "p", "q", "r", "t", "u", "v", "w", "x", "y")
}

// atom is one of a relation, or of a rule that is there, mostly as that one's columns are.
func (c chance) atom(m model) string {
	if len(m) == 0 || c.Intn(3) == 0 {
		return c.of("tenant(s, _)", "tenant(s, p)", "pod(s, n, _, _, c)", "pod(s, _, i, d, c)", "tenant(_, s)")
	}
	x := m[c.Intn(len(m))]
	var args []string
	for _, v := range x.Head {
		args = append(args, c.of(v, v, v, v, "_", "s"))
	}
	if x.Agg != api.Plain {
		args = append(args, c.of("c", "c", "c", "_", "3"))
	}
	if c.Intn(12) == 0 {
		args = append(args, "s")
	}
	return x.Name + "(" + strings.Join(args, ", ") + ")"
}

func (c chance) text(m model) string {
	body := []string{c.atom(m)}
	for range c.Intn(4) {
		body = append(body, c.of(c.atom(m), c.atom(m), "not "+c.atom(m), c.of("s == \"a\"", "c > 3", "1 < 2", "s != n", "p < 4")))
	}
	if c.Intn(40) == 0 {
		body = append(body, c.of("", "$", "not s", "3"))
	}
	name := c.name()
	if c.Intn(15) == 0 {
		body = append(body, c.of(name+"(s)", "not "+name+"(s, c)"))
	}
	head := c.of("view "+name+"(s)", "view "+name+"(s)", "view "+name+"(s, c)", "view "+name+"(s, p)", "view "+name+"(s, sum c)", "view "+name+"(s, count)", "view "+name+"(most c)", "deny "+name+"(s)", "deny "+name+"(s, n)", "quota "+name+"(s, sum c) limit 5", "quota "+name+"(s, count) limit 0")
	return head + " if " + strings.Join(body, ", ")
}

// P26.1 to P26.4: along many calls a Set is what the model is, and so are copies.
func TestAlong(t *testing.T) {
	c := chance{rand.New(rand.NewSource(1))}
	s := kinds(t)
	done := map[string]map[api.Errno]int{"add": {}, "replace": {}, "remove": {}}
	most := 0
	for range 100 {
		r, m := setOf(t), model{}
		for range 120 {
			if c.Intn(20) == 0 {
				c.apart(t, s, r, m, done)
				continue
			}
			m = c.step(t, s, r, m, done)
			most = max(most, len(m))
		}
	}
	for what, all := range map[string][]api.Errno{
		"add":     {api.OK, api.ErrForm, api.ErrTwice, api.ErrFull, api.ErrCycle, api.ErrKind, api.ErrLong, api.ErrType, api.ErrSafe},
		"replace": {api.OK, api.ErrForm, api.ErrNone, api.ErrCycle, api.ErrKind, api.ErrLong, api.ErrType, api.ErrSafe},
		"remove":  {api.OK, api.ErrNone, api.ErrUsed},
	} {
		for _, why := range all {
			if done[what][why] < 5 {
				t.Error(what, why, done[what])
			}
		}
	}
	if most != 12 {
		t.Error("never full", most)
	}
}

// step has one thing done to a set, and to its model.
func (c chance) step(t *testing.T, s *schema.Set, r *Set, m model, done map[string]map[api.Errno]int) model {
	t.Helper()
	var at, wantAt int
	var why, want api.Errno
	text, what := c.text(m), c.of("add", "add", "add", "add", "replace", "replace", "replace", "remove")
	switch what {
	case "add":
		at, why = r.Add(text)
		m, wantAt, want = m.add(s, text)
	case "replace":
		at, why = r.Replace(text)
		m, wantAt, want = m.replace(s, text)
	case "remove":
		text = c.name()
		why = r.Remove(text)
		m, want = m.remove(text)
	}
	if at != wantAt || why != want {
		t.Fatalf("%s %q: %d, %v, not %d, %v", what, text, at, why, wantAt, want)
	}
	done[what][want]++
	m.check(t, s, r)
	return m
}

// apart has a copy go its own way: what it is a copy of does not go with it.
func (c chance) apart(t *testing.T, s *schema.Set, r *Set, m model, done map[string]map[api.Errno]int) {
	t.Helper()
	other, now := r.Copy(), m
	for range 6 {
		now = c.step(t, s, other, now, done)
	}
	m.check(t, s, r)
}

// P6: texts of any bytes.
func TestAnything(t *testing.T) {
	c := chance{rand.New(rand.NewSource(1))}
	s := kinds(t)
	r, m := setOf(t), model{}
	for range 20000 {
		text := []byte(c.text(m))
		for range c.Intn(4) {
			switch at := c.Intn(len(text)); c.Intn(4) {
			case 0:
				text[at] = byte(c.Intn(256))
			case 1:
				text = slices.Concat(text[:at], text[c.Intn(len(text)):])
			case 2:
				text = slices.Insert(text, at, ' ')
			}
			if len(text) == 0 {
				text = []byte{' '}
			}
		}
		var want api.Errno
		var wantAt int
		m, wantAt, want = m.add(s, string(text))
		if at, why := r.Add(string(text)); at != wantAt || why != want {
			t.Fatalf("%q: %d, %v, not %d, %v", text, at, why, wantAt, want)
		}
		if len(m) > 8 {
			r, m = setOf(t), nil
		}
		r.Remove(string(text))
	}
}
