package eval

import (
	"fmt"
	"math/big"
	"math/rand"
	"slices"
	"testing"

	"verderer/api"
	"verderer/plan"
	"verderer/row"
	"verderer/shape"
	"verderer/value"
)

// table is a bag by its rows' words, with numbers of any size.
type table map[string]*counted

type counted struct {
	row  []api.Value
	many *big.Int
}

func (b table) add(r []api.Value, many *big.Int) *counted {
	key := fmt.Sprintf("%v", r)
	if b[key] == nil {
		b[key] = &counted{row: slices.Clone(r), many: new(big.Int)}
	}
	b[key].many.Add(b[key].many, many)
	return b[key]
}

func (c *counted) over() bool { return c.many.Cmp(big.NewInt(most)) > 0 }

// entries are in order.
func (b table) entries() []api.Entry {
	var out []api.Entry
	for _, c := range b {
		out = append(out, api.Entry{Row: c.row, Many: c.many.Int64()})
	}
	slices.SortFunc(out, func(a, b api.Entry) int { return row.Compare(a.Row, b.Row) })
	return out
}

func (b table) over() bool {
	for _, c := range b {
		if c.over() {
			return true
		}
	}
	return false
}

// told reckons by the chapter's words what a plan that can be tells. It looks at each node, however often it stands in the plan: the first error is the same.
func told(n *api.Node, base []Rel) (table, api.Errno) {
	var left, right table
	why := api.OK
	if n.Left != nil {
		left, why = told(n.Left, base)
	}
	if n.Right != nil && why == api.OK {
		right, why = told(n.Right, base)
	}
	if why != api.OK {
		return nil, why
	}
	out, why := toldBy(n, left, right, base)
	switch {
	case why == api.ErrArg || why == api.ErrOver && n.Kind == api.Scan:
		return nil, why
	case len(out) > api.MaxEntries:
		return nil, api.ErrFull
	case why != api.OK:
		return nil, why
	case out.over():
		return nil, api.ErrOver
	}
	return out, api.OK
}

func toldBy(n *api.Node, left, right table, base []Rel) (table, api.Errno) {
	out := table{}
	switch n.Kind {
	case api.Scan:
		return scanned(n, base)
	case api.Where:
		for key, c := range left {
			if !slices.ContainsFunc(n.Conds, func(x api.Cond) bool { return !condHolds(c.row, x) }) {
				out[key] = c
			}
		}
	case api.Meet:
		for _, a := range left {
			for _, b := range right {
				if row.Pairs(a.row, b.row, n.Pairs...) {
					out.add(slices.Concat(a.row, b.row), new(big.Int).Mul(a.many, b.many))
				}
			}
		}
	case api.Miss:
	rows:
		for key, a := range left {
			for _, b := range right {
				if row.Pairs(a.row, b.row, n.Pairs...) {
					continue rows
				}
			}
			out[key] = a
		}
	case api.Take:
		for _, c := range left {
			out.add(picked(c.row, n.Cols), c.many)
		}
	case api.Once:
		for _, c := range left {
			out.add(c.row, big.NewInt(1))
		}
	case api.Group:
		return grouped(n, left)
	}
	return out, api.OK
}

func condHolds(r []api.Value, c api.Cond) bool {
	if c.Left < 0 || c.Left >= len(r) || c.Right >= len(r) {
		return false
	}
	other := c.Val
	if c.Right >= 0 {
		other = r[c.Right]
	}
	order := value.Compare(r[c.Left], other)
	return []bool{false, order == 0, order != 0, order < 0, order <= 0, order > 0, order >= 0}[c.Op]
}

func scanned(n *api.Node, base []Rel) (table, api.Errno) {
	out := table{}
	at := slices.IndexFunc(base, func(r Rel) bool { return r.Name == n.Name })
	if at < 0 {
		return out, api.OK
	}
	for _, e := range base[at].Rows {
		if !row.Right(e.Row) || len(e.Row) != n.Wide || e.Many < 1 || e.Many > most {
			return nil, api.ErrArg
		}
		if out.add(e.Row, big.NewInt(e.Many)).over() {
			return nil, api.ErrOver
		}
	}
	return out, api.OK
}

func picked(r []api.Value, cols []int) []api.Value {
	var out []api.Value
	for _, c := range cols {
		out = append(out, r[c])
	}
	return out
}

// grouped tells all groups, and ErrOver if the aggregate of one does not fit.
func grouped(n *api.Node, left table) (table, api.Errno) {
	out, why := table{}, api.OK
	groups := map[string][]*counted{}
	for _, c := range left {
		key := fmt.Sprintf("%v", picked(c.row, n.Cols))
		groups[key] = append(groups[key], c)
	}
	for _, l := range groups {
		v, fits := folded(n.Agg, n.Of, l)
		if !fits {
			why = api.ErrOver
		}
		out.add(append(picked(l[0].row, n.Cols), v), big.NewInt(1))
	}
	return out, why
}

// folded answers an aggregate, and whether it fits.
func folded(agg, of int, l []*counted) (api.Value, bool) {
	all, sum := new(big.Int), new(big.Int)
	least, greatest := l[0].row[of], l[0].row[of]
	for _, c := range l {
		v := c.row[of]
		all.Add(all, c.many)
		if v.Kind == api.Int {
			sum.Add(sum, new(big.Int).Mul(c.many, big.NewInt(v.Int)))
		}
		if value.Compare(v, least) < 0 {
			least = v
		}
		if value.Compare(v, greatest) > 0 {
			greatest = v
		}
	}
	switch agg {
	case api.Count:
		return value.Int(all.Int64()), all.Cmp(big.NewInt(most)) <= 0
	case api.Sum:
		return value.Int(sum.Int64()), sum.IsInt64()
	case api.Least:
		return least, true
	}
	return greatest, true
}

func one[T any](r *rand.Rand, some ...T) T { return some[r.Intn(len(some))] }

func randomValue(r *rand.Rand) api.Value {
	few := value.Int(int64(r.Intn(3)))
	return one(r, few, few, few, value.Null(), value.Bool(r.Intn(2) == 0), value.Int(int64(r.Uint64())), value.Text(one(r, "", "a", "b")))
}

func randomMany(r *rand.Rand) int64 {
	return one[int64](r, 1, 1, 1, 1, 2, 3, 1<<15, 1<<16, 1<<29, most-1, most)
}

// randomRows answers rows of so many columns, nearly always ones that can be.
func randomRows(r *rand.Rand, wide int) []api.Entry {
	var out []api.Entry
	for range one(r, 0, 1, 2, 4, 6, 8) {
		e := api.Entry{Many: 1}
		for range wide {
			e.Row = append(e.Row, randomValue(r))
		}
		if r.Intn(4) == 0 {
			e.Many = randomMany(r)
		}
		switch r.Intn(150) {
		case 0:
			e.Many = one[int64](r, 0, -1, most+1)
		case 1:
			e.Row = append(e.Row, e.Row...)
		case 2:
			e.Row[0] = api.Value{Kind: 4}
		}
		out = append(out, e)
	}
	if len(out) > 0 && r.Intn(4) == 0 {
		out = append(out, out[r.Intn(len(out))])
	}
	return out
}

func randomBase(r *rand.Rand) []Rel {
	out := []Rel{rel("a", randomRows(r, 1)...), rel("b", randomRows(r, 2)...), rel("c", randomRows(r, 3)...)}
	switch r.Intn(8) {
	case 0:
		out = append(out, rel("a", randomRows(r, 1)...))
	case 1:
		out = out[:r.Intn(3)]
	case 2:
		out[0] = rel("a", numbers(0, one(r, 38, 39, 39, 39, 39, 1501))...)
	}
	return out
}

func randomConds(r *rand.Rand, wide int) []api.Cond {
	var out []api.Cond
	for range 1 + r.Intn(2) {
		c := api.Cond{Left: r.Intn(wide), Op: 1 + r.Intn(6), Right: r.Intn(wide)}
		switch r.Intn(8) {
		case 0:
			c = api.Cond{Left: -1, Op: api.Eq, Right: -1}
		case 1, 2, 3, 4, 5:
			c.Right, c.Val = -1, randomValue(r)
		}
		out = append(out, c)
	}
	return out
}

func randomCols(r *rand.Rand, many, wide int) []int {
	out := make([]int, many)
	for i := range out {
		out[i] = r.Intn(wide)
	}
	return out
}

func randomPairs(r *rand.Rand, left, right int) []api.Pair {
	var out []api.Pair
	for range r.Intn(3) {
		out = append(out, api.Pair{Left: r.Intn(left), Right: r.Intn(right)})
	}
	return out
}

// randomPlan answers one that can be, of so many levels at most.
func randomPlan(r *rand.Rand, levels int) *api.Node {
	if levels <= 1 || r.Intn(10) == 0 {
		wide := 1 + r.Intn(3)
		return &api.Node{Kind: api.Scan, Name: []string{"a", "b", "c"}[wide-1], Wide: wide}
	}
	left := randomPlan(r, levels-1)
	wide := plan.Wide(left)
	n := &api.Node{Kind: one(r, api.Where, api.Meet, api.Meet, api.Miss, api.Take, api.Once, api.Group), Left: left}
	switch n.Kind {
	case api.Where:
		n.Conds = randomConds(r, wide)
	case api.Meet, api.Miss:
		n.Right = randomPlan(r, levels-1)
		n.Pairs = randomPairs(r, wide, plan.Wide(n.Right))
	case api.Take:
		n.Cols = randomCols(r, 1+r.Intn(4), wide)
	case api.Group:
		n.Agg, n.Cols = 1+r.Intn(4), randomCols(r, r.Intn(3), wide)
		if n.Agg != api.Count {
			n.Of = r.Intn(wide)
		}
	}
	if !shape.Right(n) {
		return left
	}
	return n
}

// P19.1, and P19.2 by what Groups tell
func TestByDefinition(t *testing.T) {
	r := rand.New(rand.NewSource(1))
	refused, kinds := map[api.Errno]int{}, map[int]int{}
	for range 15000 {
		n, base := randomPlan(r, 1+r.Intn(5)), randomBase(r)
		want, wantWhy := told(n, base)
		got, why := Eval(n, base...)
		if why != wantWhy || !sameEntries(got, want.entries()) {
			t.Fatal(shape.Key(n), base, got, why, want.entries(), wantWhy)
		}
		refused[why]++
		if len(got) > 0 {
			kinds[n.Kind]++
		}
	}
	for _, why := range []api.Errno{api.OK, api.ErrArg, api.ErrFull, api.ErrOver} {
		if refused[why] < 100 {
			t.Error(why, refused[why])
		}
	}
	for kind := api.Scan; kind <= api.Group; kind++ {
		if kinds[kind] < 300 {
			t.Error(kind, kinds[kind])
		}
	}
}

// P19.3: sides that are turned, and Once of Once; of plans that are refused for the same reason.
func TestTurnedByDefinition(t *testing.T) {
	r := rand.New(rand.NewSource(1))
	met := 0
	for range 2000 {
		a, b, base := randomPlan(r, 1+r.Intn(3)), randomPlan(r, 1+r.Intn(3)), randomBase(r)
		left, right := plan.Wide(a), plan.Wide(b)
		n := &api.Node{Kind: api.Meet, Pairs: randomPairs(r, left, right), Left: a, Right: b}
		turned := &api.Node{Kind: api.Meet, Left: b, Right: a}
		for _, p := range n.Pairs {
			turned.Pairs = append(turned.Pairs, api.Pair{Left: p.Right, Right: p.Left})
		}
		back := &api.Node{Kind: api.Take, Left: turned}
		for i := range left + right {
			back.Cols = append(back.Cols, (i+right)%(left+right))
		}
		_, whyA := Eval(a, base...)
		_, whyB := Eval(b, base...)
		if whyA != whyB {
			continue
		}
		want, wantWhy := Eval(n, base...)
		if got, why := Eval(back, base...); why != wantWhy || !sameEntries(got, want) {
			t.Fatal(shape.Key(n), base, got, why, want, wantWhy)
		}
		if len(want) > 0 {
			met++
		}
		one := &api.Node{Kind: api.Once, Left: n}
		want, wantWhy = Eval(one, base...)
		if got, why := Eval(&api.Node{Kind: api.Once, Left: one}, base...); why != wantWhy || !sameEntries(got, want) {
			t.Fatal(shape.Key(one), base, got, why, want, wantWhy)
		}
	}
	if met < 300 {
		t.Error(met)
	}
}

// P19.2
func TestFoldByDefinition(t *testing.T) {
	r := rand.New(rand.NewSource(1))
	refused := map[api.Errno]int{}
	for range 20000 {
		var l []api.Entry
		var all []*counted
		for range 1 + r.Intn(5) {
			e := api.Entry{Row: []api.Value{randomValue(r), value.Int(int64(r.Uint64()) >> r.Intn(64))}, Many: randomMany(r)}
			l = append(l, e)
			all = append(all, &counted{row: e.Row, many: big.NewInt(e.Many)})
		}
		agg, of := 1+r.Intn(4), r.Intn(2)
		want, fits := folded(agg, of, all)
		wantWhy := api.OK
		if !fits {
			want, wantWhy = value.Null(), api.ErrOver
		}
		if got, why := Fold(agg, of, l...); got != want || why != wantWhy {
			t.Fatal(agg, of, l, got, why, want, wantWhy)
		}
		refused[wantWhy]++
	}
	if refused[api.OK] < 1000 || refused[api.ErrOver] < 1000 {
		t.Error(refused)
	}
}

// P6: nodes, rows and conditions of any numbers.
func TestAnything(t *testing.T) {
	r := rand.New(rand.NewSource(1))
	odd := func() int { return one(r, r.Intn(8), r.Intn(8), r.Intn(3), -1, int(r.Uint64())) }
	anyValue := func() api.Value {
		return one(r, randomValue(r), api.Value{Kind: odd(), Flag: r.Intn(2) == 0, Int: int64(r.Uint64()), Text: "x"})
	}
	anyRow := func() []api.Value {
		var out []api.Value
		for range r.Intn(4) {
			out = append(out, anyValue())
		}
		return out
	}
	anyConds := func() []api.Cond {
		var out []api.Cond
		for range r.Intn(3) {
			out = append(out, api.Cond{Left: odd(), Op: odd(), Right: odd(), Val: anyValue()})
		}
		return out
	}
	var anyNode func(levels int) *api.Node
	anyNode = func(levels int) *api.Node {
		if levels == 0 {
			return one(r, nil, randomPlan(r, 1))
		}
		n := randomPlan(r, 2)
		n.Left = anyNode(levels - 1)
		switch r.Intn(6) {
		case 0:
			n.Kind = odd()
		case 1:
			n.Conds, n.Agg, n.Of = anyConds(), odd(), odd()
		case 2:
			n.Pairs, n.Cols, n.Right = []api.Pair{{Left: odd(), Right: odd()}}, []int{odd()}, anyNode(levels-1)
		}
		return n
	}
	for range 20000 {
		var l []api.Entry
		for range r.Intn(4) {
			l = append(l, api.Entry{Row: anyRow(), Many: one(r, 1, 0, int64(odd()))})
		}
		n := anyNode(r.Intn(4))
		if got, why := Eval(n, rel("a", l...), rel(string(rune('a'+r.Intn(4))), l...)); why != api.OK && len(got) > 0 || why != api.ErrArg && !shape.Right(n) {
			t.Fatal(shape.Key(n), l, got, why)
		}
		if got, why := Fold(odd(), odd(), l...); why != api.OK && got != value.Null() {
			t.Fatal(l, got, why)
		}
		Holds(anyRow(), anyConds()...)
	}
}
