package flow

import (
	"maps"
	"math"
	"math/rand"
	"slices"
	"testing"

	"verderer/api"
	"verderer/eval"
	"verderer/facts"
	"verderer/plan"
	"verderer/row"
	"verderer/shape"
	"verderer/value"
)

// model is a flow by the chapter's words: how often each row of each relation is there, and the plans; what these tell is reckoned anew each time.
type model struct {
	rels map[string]rows
	held []*api.Node
	told map[string][]api.Entry
	last map[string][]api.Entry
}

// rows is how often each is there, by its cells in words.
type rows map[string]api.Entry

func words(r []api.Value) string {
	var s string
	for _, v := range r {
		s += value.Show(v) + " "
	}
	return s
}

func (l rows) add(e api.Entry) {
	key := words(e.Row)
	e.Many += l[key].Many
	l[key] = e
	if e.Many == 0 {
		delete(l, key)
	}
}

func (l rows) entries() []api.Entry {
	return slices.SortedFunc(maps.Values(l), func(a, b api.Entry) int { return row.Compare(a.Row, b.Row) })
}

func rowsOf(l ...api.Entry) rows {
	out := rows{}
	for _, e := range l {
		out.add(e)
	}
	return out
}

// wide has how many columns each relation has.
func wide(rel string) int { return map[string]int{"a": 3, "b": 2, "tenant": 2}[rel] }

// tell answers what all parts of plans tell of relations; or the first error.
func tell(rels map[string]rows, held ...*api.Node) (map[string][]api.Entry, api.Errno) {
	var base []eval.Rel
	for rel, l := range rels {
		base = append(base, eval.Rel{Name: rel, Rows: l.entries()})
	}
	out := map[string][]api.Entry{}
	for _, n := range shape.Parts(held...) {
		l, why := eval.Eval(n, base...)
		if why != api.OK {
			return nil, why
		}
		out[shape.Key(n)] = l
	}
	return out, api.OK
}

// set answers the model behind a Set.
func (m model) set(l ...*api.Node) (model, api.Errno) {
	for _, n := range l {
		if !shape.Right(n) {
			return m, api.ErrArg
		}
	}
	if len(l) > 12 {
		return m, api.ErrLong
	}
	for _, n := range l {
		for _, p := range shape.Parts(n) {
			if p.Kind == api.Scan && wide(p.Name) == 0 {
				return m, api.ErrKind
			}
			if p.Kind == api.Scan && wide(p.Name) != p.Wide {
				return m, api.ErrArg
			}
		}
	}
	told, why := tell(m.rels, l...)
	if why != api.OK {
		return m, why
	}
	return model{rels: m.rels, held: l, told: told}, api.OK
}

// apply answers the model behind an Apply.
func (m model) apply(l ...facts.Change) (model, api.Errno) {
	nets := map[string]rows{}
	over := false
	for _, c := range l {
		if wide(c.Rel) == 0 {
			return m, api.ErrKind
		}
		if !row.Right(c.Row) || len(c.Row) != wide(c.Rel) {
			return m, api.ErrArg
		}
		if nets[c.Rel] == nil {
			nets[c.Rel] = rows{}
		}
		many := nets[c.Rel][words(c.Row)].Many
		if over = over || c.Many > api.MaxCount-many || c.Many < -api.MaxCount-many; !over {
			nets[c.Rel].add(api.Entry{Row: c.Row, Many: c.Many})
		}
	}
	if over {
		return m, api.ErrOver
	}
	next := model{rels: map[string]rows{}, held: m.held, last: map[string][]api.Entry{}}
	for _, rel := range []string{"a", "b", "tenant"} {
		next.rels[rel] = rows{}
		maps.Copy(next.rels[rel], m.rels[rel])
		for _, e := range nets[rel] {
			next.rels[rel].add(e)
		}
		for _, e := range next.rels[rel] {
			if e.Many != 1 {
				return m, api.ErrOver
			}
		}
	}
	var why api.Errno
	if next.told, why = tell(next.rels, m.held...); why != api.OK {
		return m, why
	}
	for key := range next.told {
		change := rowsOf(next.told[key]...)
		for _, e := range m.told[key] {
			change.add(api.Entry{Row: e.Row, Many: -e.Many})
		}
		next.last[key] = change.entries()
	}
	return next, api.OK
}

// check holds a flow against the model.
func (m model) check(t *testing.T, f *Flow) {
	t.Helper()
	all := 0
	for key, rows := range m.told {
		all += len(rows)
		if got, there := f.Rows(key); !there || !sameEntries(got, rows) {
			t.Fatalf("Rows(%q): %v, %v, not %v", key, got, there, rows)
		}
		if got := f.Last(key); !sameEntries(got, m.last[key]) {
			t.Fatalf("Last(%q): %v, not %v", key, got, m.last[key])
		}
	}
	if f.Len() != len(m.told) || f.Entries() != all {
		t.Fatal("Len", f.Len(), len(m.told), "Entries", f.Entries(), all)
	}
}

// chance makes plans and changes.
type chance struct {
	*rand.Rand
	// values has a row's cells, of which the first ones are those of first cells.
	values []api.Value
	first  int
	// come is how many rows come at once, at most.
	come int
	// blocks are plans on which others are made to stand, beside Scans.
	blocks []*api.Node
	// wrong: may changes, and plans, be such as can not be?
	wrong bool
}

// plan answers one that can be, of so many levels at most.
func (c chance) plan(levels int) *api.Node {
	if levels <= 1 || c.Intn(8) == 0 {
		if len(c.blocks) > 0 && c.Intn(3) > 0 {
			return c.blocks[c.Intn(len(c.blocks))]
		}
		rel := []string{"a", "a", "b", "tenant"}[c.Intn(4)]
		return &api.Node{Kind: api.Scan, Name: rel, Wide: wide(rel)}
	}
	n := &api.Node{Kind: api.Where + c.Intn(6), Left: c.plan(levels - 1)}
	left := plan.Wide(n.Left)
	switch n.Kind {
	case api.Where:
		n.Conds = []api.Cond{c.cond(left)}
	case api.Meet, api.Miss:
		n.Right = n.Left
		if c.Intn(4) > 0 {
			n.Right = c.plan(levels - 1)
		}
		for range c.Intn(3) {
			n.Pairs = append(n.Pairs, api.Pair{Left: c.Intn(left), Right: c.Intn(plan.Wide(n.Right))})
		}
	case api.Take:
		n.Cols = c.columns(left, 1+c.Intn(3))
	case api.Group:
		n.Cols, n.Agg = c.columns(left, c.Intn(3)), 1+c.Intn(4)
		if n.Agg != api.Count {
			n.Of = c.Intn(left)
		}
	}
	if plan.Wide(n) > api.MaxWide {
		return n.Left
	}
	return n
}

func (c chance) cond(wide int) api.Cond {
	switch c.Intn(6) {
	case 0:
		return api.Cond{Left: -1, Op: api.Eq, Right: -1}
	case 1:
		return api.Cond{Left: c.Intn(wide), Op: 1 + c.Intn(6), Right: c.Intn(wide)}
	}
	return api.Cond{Left: c.Intn(wide), Op: 1 + c.Intn(6), Right: -1, Val: c.values[c.Intn(len(c.values))]}
}

func (c chance) columns(wide, many int) []int {
	var out []int
	for range many {
		out = append(out, c.Intn(wide))
	}
	return out
}

// plans answers some, mostly with some of those that are held; now and then one that can not be, or too many.
func (c chance) plans(held ...*api.Node) []*api.Node {
	var out []*api.Node
	for range c.Intn(4) {
		out = append(out, c.plan(1+c.Intn(5)))
	}
	for _, n := range held {
		if len(out) < 12 && c.Intn(3) > 0 {
			out = append(out, n)
		}
	}
	c.Shuffle(len(out), func(i, k int) { out[i], out[k] = out[k], out[i] })
	bad := []*api.Node{nil, {Kind: api.Once}, {Kind: api.Scan, Name: "c", Wide: 2}, {Kind: api.Scan, Name: "a", Wide: 2}, {Kind: api.Once, Left: &api.Node{Kind: api.Scan, Name: "tenant", Wide: 1}}}
	if c.wrong && c.Intn(6) == 0 {
		out = slices.Insert(out, c.Intn(len(out)+1), bad[c.Intn(len(bad))])
	}
	if c.wrong && c.Intn(20) == 0 {
		out = append(out, slices.Repeat([]*api.Node{c.plan(1)}, 13)...)
	}
	return out
}

// changes answers rows that come, and rows of those that are there that go.
func (c chance) changes(m model) []facts.Change {
	var out []facts.Change
	for _, rel := range []string{"a", "b", "tenant"} {
		for _, e := range m.rels[rel].entries() {
			if c.Intn(4) == 0 {
				out = append(out, facts.Change{Rel: rel, Row: e.Row, Many: -1})
			}
		}
	}
	for range c.Intn(c.come) {
		x := facts.Change{Rel: []string{"a", "a", "b", "tenant"}[c.Intn(4)], Many: 1}
		x.Row = append(x.Row, c.values[c.Intn(c.first)])
		for range wide(x.Rel) - 1 {
			x.Row = append(x.Row, c.values[c.Intn(len(c.values))])
		}
		if m.rels[x.Rel][words(x.Row)].Many == 0 && !slices.ContainsFunc(out, func(y facts.Change) bool { return x.Rel == y.Rel && row.Same(x.Row, y.Row) }) {
			out = append(out, x)
		}
	}
	if c.Intn(3) == 0 && len(out) > 0 {
		// One that comes and goes, or goes and comes; or twice.
		x := out[c.Intn(len(out))]
		out = append(out, x)
		if !c.wrong || c.Intn(5) > 0 {
			x.Many = -x.Many
			out = append(out, x)
		}
		out = append(out, facts.Change{Rel: x.Rel, Row: x.Row, Many: 0})
	}
	c.Shuffle(len(out), func(i, k int) { out[i], out[k] = out[k], out[i] })
	bad := []facts.Change{{Rel: "c", Many: 1}, {Rel: "a", Row: row.Of(value.Int(1)), Many: 1}, {Rel: "b", Row: wrong()[3], Many: 1}, {Rel: "b", Row: row.Of(value.Int(1), value.Int(7)), Many: math.MaxInt64}}
	if c.wrong && c.Intn(12) == 0 {
		out = slices.Insert(out, c.Intn(len(out)+1), bad[c.Intn(len(bad))])
	}
	return out
}

// P25.1 to P25.5: along many changes, and as plans come and go, a Flow is what the model is.
func TestAlong(t *testing.T) {
	few := []api.Value{value.Int(1), value.Int(2), value.Null(), value.Text("a"), value.Int(-5), value.Text("")}
	great := []api.Value{value.Int(1), value.Int(2), value.Int(math.MaxInt64), value.Int(math.MaxInt64 - 1), value.Int(math.MinInt64), value.Null()}
	var lots []api.Value
	for i := range 400 {
		lots = append(lots, value.Int(int64(i)))
	}
	_, two, four := powers()
	for what, x := range map[string]struct {
		c              chance
		flows, long    int
		toSet, toApply []api.Errno
	}{
		"few":   {chance{values: few, first: 3, come: 6, wrong: true}, 60, 30, []api.Errno{api.OK, api.ErrArg, api.ErrKind, api.ErrLong}, []api.Errno{api.OK, api.ErrArg, api.ErrKind, api.ErrOver}},
		"great": {chance{values: great, first: 2, come: 6}, 60, 30, []api.Errno{api.OK, api.ErrOver}, []api.Errno{api.OK, api.ErrOver}},
		"full":  {chance{values: lots, first: 400, come: 150}, 20, 12, []api.Errno{api.OK, api.ErrFull}, []api.Errno{api.OK, api.ErrFull}},
		"often": {chance{values: lots, first: 2, come: 400, blocks: plans(t, two, four)}, 25, 12, []api.Errno{api.OK, api.ErrOver}, []api.Errno{api.OK, api.ErrOver}},
	} {
		x.c.Rand = rand.New(rand.NewSource(1))
		sets, applies := map[api.Errno]int{}, map[api.Errno]int{}
		for range x.flows {
			along(t, x.c, x.long, sets, applies)
		}
		for _, why := range x.toSet {
			if sets[why] < 3 {
				t.Error(what, "Set", why, sets)
			}
		}
		for _, why := range x.toApply {
			if applies[why] < 3 {
				t.Error(what, "Apply", why, applies)
			}
		}
	}
}

func along(t *testing.T, c chance, long int, sets, applies map[api.Errno]int) {
	t.Helper()
	m, f := model{}, flowOf(t, kinds(t))
	for range long {
		var want api.Errno
		if c.Intn(4) == 0 {
			l := c.plans(m.held...)
			m, want = m.set(l...)
			sets[want]++
			if why := f.Set(l...); why != want {
				t.Fatal("Set", why, want)
			}
		} else {
			l := c.changes(m)
			m, want = m.apply(l...)
			applies[want]++
			if why := f.Apply(l...); why != want {
				t.Fatal("Apply", why, want)
			}
		}
		m.check(t, f)
	}
	anew(t, m)
	set(t, f)
	model{}.check(t, f)
}

// anew has all rows come at once to the plans that are held, and these to a flow with all rows: both tell what there was along the way.
func anew(t *testing.T, m model) {
	t.Helper()
	var all []facts.Change
	for rel, l := range m.rels {
		for _, e := range l {
			all = append(all, facts.Change{Rel: rel, Row: e.Row, Many: 1})
		}
	}
	f, other := flowOf(t, kinds(t)), flowOf(t, kinds(t))
	if why := f.Set(m.held...); why != api.OK {
		t.Fatal("Set", why)
	}
	apply(t, f, all...)
	m.last = m.told
	m.check(t, f)
	apply(t, other, all...)
	if why := other.Set(m.held...); why != api.OK {
		t.Fatal("Set", why)
	}
	m.last = nil
	m.check(t, other)
	apply(t, f, back(all)...)
	for key := range m.told {
		// A Group of no rows tells none, so without rows nothing is told at all.
		if rows, there := f.Rows(key); len(rows) > 0 || !there {
			t.Fatal("rows stay", key, rows)
		}
	}
}

// P6: plans, changes and keys of any kind.
func TestAnything(t *testing.T) {
	r := rand.New(rand.NewSource(1))
	c := chance{Rand: r, values: []api.Value{value.Int(1), value.Int(2), value.Null()}, first: 3, come: 4, wrong: true}
	odd := func() int { return []int{r.Intn(8), r.Intn(8), 1, -1, int(r.Uint64()), math.MinInt}[r.Intn(6)] }
	name := func() string { return []string{"a", "b", "tenant", "c", "", "\x00", "scan a 3"}[r.Intn(7)] }
	oddPlan := func() *api.Node {
		n := c.plan(1 + r.Intn(4))
		switch r.Intn(8) {
		case 0:
			n.Kind = odd()
		case 1:
			n.Cols, n.Pairs = append(n.Cols, odd()), append(n.Pairs, api.Pair{Left: odd(), Right: odd()})
		case 2:
			n.Conds, n.Agg, n.Of = append(n.Conds, api.Cond{Left: odd(), Op: odd(), Right: odd()}), odd(), odd()
		case 3:
			n.Name, n.Wide = name(), odd()
		case 4:
			n.Left, n.Right = n.Right, n.Left
		}
		return n
	}
	f, done := flowOf(t, kinds(t)), 0
	for range 4000 {
		var l []*api.Node
		for range r.Intn(3) {
			l = append(l, oddPlan())
		}
		if f.Set(l...) == api.OK {
			done++
		}
		for range 3 {
			var changes []facts.Change
			for range r.Intn(3) {
				x := facts.Change{Rel: name(), Many: int64(odd())}
				for range r.Intn(4) {
					x.Row = append(x.Row, c.values[r.Intn(3)])
				}
				changes = append(changes, x)
			}
			rows := f.Entries()
			if f.Apply(changes...) != api.OK && f.Entries() != rows {
				t.Fatal("refused")
			}
		}
		key := make([]byte, r.Intn(20))
		r.Read(key)
		if rows, there := f.Rows(string(key)); len(rows) > 0 || there || len(f.Last(string(key))) > 0 {
			t.Fatal(key)
		}
	}
	if done < 1000 {
		t.Error(done)
	}
}

// P6: it ends soon for as many parts as may be; and where only little changes, however much there is.
func TestEndsSoon(t *testing.T) {
	deep := func(name string, wide, nodes int) *api.Node {
		n := &api.Node{Kind: api.Scan, Name: name, Wide: wide}
		for range nodes - 1 {
			n = &api.Node{Kind: api.Once, Left: n}
		}
		return n
	}
	f := flowOf(t, kinds(t))
	all := numbers(0, 3, 0, 500)
	apply(t, f, all...)
	var l []*api.Node
	for i := range 12 {
		l = append(l, &api.Node{Kind: api.Take, Cols: []int{i % 3}, Left: deep("a", 3, 399-i)})
	}
	if why := f.Set(l...); why != api.OK || f.Len() != 399+12 {
		t.Fatal("Set", why, f.Len())
	}
	if why := f.Set(deep("a", 3, 401)); why != api.ErrArg {
		t.Error("Set", why)
	}
	for range 50 {
		apply(t, f, changes(t, "-1 a: 0 0 1, 1 a: 9 9 9")...)
		apply(t, f, changes(t, "1 a: 0 0 1, -1 a: 9 9 9")...)
	}
	if why := f.Apply(numbers(9, 10, 0, 1<<16)...); why != api.ErrFull {
		t.Error("Apply", why)
	}
	set(t, f)
	apply(t, f, numbers(9, 10, 0, 1<<16)...)
	if why := f.Set(l...); why != api.ErrFull {
		t.Error("Set", why)
	}
}
