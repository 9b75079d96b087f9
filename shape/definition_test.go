package shape

import (
	"fmt"
	"math"
	"math/rand"
	"reflect"
	"slices"
	"strconv"
	"strings"
	"testing"

	"verderer/api"
	"verderer/pack"
	"verderer/plan"
	"verderer/schema"
	"verderer/value"
)

// columns answers how many a node has, by chapter 17.
func columns(n *api.Node) int {
	switch n.Kind {
	case api.Scan:
		return n.Wide
	case api.Meet:
		return columns(n.Left) + columns(n.Right)
	case api.Take:
		return len(n.Cols)
	case api.Group:
		return len(n.Cols) + 1
	}
	return columns(n.Left)
}

// canBe tells by the chapter's words whether a plan can be.
func canBe(n *api.Node) bool { return n != nil && nodeCanBe(n) && plan.Many(n) <= 400 }

func nodeCanBe(n *api.Node) bool {
	// What it is said to have, and nothing else.
	has := api.Node{Kind: n.Kind}
	stands := ""
	switch n.Kind {
	case 1:
		has.Name, has.Wide = n.Name, n.Wide
	case 2:
		has.Conds, stands = n.Conds, "l"
	case 3, 4:
		has.Pairs, stands = n.Pairs, "lr"
	case 5:
		has.Cols, stands = n.Cols, "l"
	case 6:
		stands = "l"
	case 7:
		has.Cols, has.Agg, has.Of, stands = n.Cols, n.Agg, n.Of, "l"
	default:
		return false
	}
	other := *n
	other.Left, other.Right = nil, nil
	if fmt.Sprint(other) != fmt.Sprint(has) || (n.Left != nil) != strings.Contains(stands, "l") || (n.Right != nil) != strings.Contains(stands, "r") {
		return false
	}
	if n.Left != nil && !nodeCanBe(n.Left) || n.Right != nil && !nodeCanBe(n.Right) {
		return false
	}
	return partsCanBe(n)
}

// partsCanBe tells it of what a node has, if those can be that it stands on.
func partsCanBe(n *api.Node) bool {
	left, right := 0, 0
	if n.Left != nil {
		left = columns(n.Left)
	}
	if n.Right != nil {
		right = columns(n.Right)
	}
	within := func(i, n int) bool { return 0 <= i && i < n }
	ok := true
	for _, c := range n.Conds {
		never := c.Left == -1 && c.Right == -1 && c.Op == 1 && c.Val == api.Value{}
		plain := within(c.Left, left) && 1 <= c.Op && c.Op <= 6
		ok = ok && (never || plain && (within(c.Right, left) && c.Val == api.Value{} || c.Right == -1 && value.Right(c.Val)))
	}
	for _, p := range n.Pairs {
		ok = ok && within(p.Left, left) && within(p.Right, right)
	}
	for _, i := range n.Cols {
		ok = ok && within(i, left)
	}
	switch n.Kind {
	case 1:
		ok = schema.Name(n.Name) && 1 <= n.Wide && n.Wide <= 40
	case 2:
		ok = ok && n.Conds != nil && len(n.Conds) > 0
	case 3:
		ok = ok && left+right <= 40
	case 5:
		ok = ok && 1 <= len(n.Cols) && len(n.Cols) <= 40
	case 7:
		ok = ok && len(n.Cols) <= 39 && 1 <= n.Agg && n.Agg <= 4 && within(n.Of, left) && (n.Agg != 1 || n.Of == 0)
	}
	return ok
}

// keyOf has the key of a plan that can be, by the chapter's words.
func keyOf(n *api.Node) string {
	if n == nil {
		return ""
	}
	var words []any
	add := func(l ...any) { words = append(words, l...) }
	switch n.Kind {
	case api.Scan:
		add("scan", n.Name, n.Wide)
	case api.Where:
		add("where", len(n.Conds))
		for _, c := range n.Conds {
			add(c.Left, c.Op, c.Right)
			if c.Right == -1 {
				add(fmt.Sprintf("%x", pack.Value(c.Val)))
			}
		}
	case api.Meet, api.Miss:
		add([]any{"meet", "miss"}[n.Kind-api.Meet], len(n.Pairs))
		for _, p := range n.Pairs {
			add(p.Left, p.Right)
		}
	case api.Take:
		add("take", len(n.Cols), n.Cols)
	case api.Once:
		add("once")
	case api.Group:
		add("group", len(n.Cols))
		if len(n.Cols) > 0 {
			add(n.Cols)
		}
		add(n.Agg, n.Of)
	}
	own := strings.NewReplacer("[", "", "]", "").Replace(strings.TrimSuffix(fmt.Sprintln(words...), "\n"))
	return strings.TrimRight(own+" "+strings.TrimRight(keyOf(n.Left)+" "+keyOf(n.Right), " "), " ")
}

// partsOf answers the parts, by the chapter's words.
func partsOf(l ...*api.Node) []*api.Node {
	var all, out []*api.Node
	var each func(n *api.Node)
	each = func(n *api.Node) {
		if n != nil {
			each(n.Left)
			each(n.Right)
			all = append(all, n)
		}
	}
	for _, n := range l {
		if canBe(n) {
			each(n)
		}
	}
	for _, n := range all {
		if !slices.ContainsFunc(out, func(m *api.Node) bool { return keyOf(m) == keyOf(n) }) {
			out = append(out, n)
		}
	}
	return out
}

func one[T any](r *rand.Rand, some ...T) T { return some[r.Intn(len(some))] }

func randomValue(r *rand.Rand) api.Value {
	return one(r, value.Null(), value.Bool(r.Intn(2) == 0), value.Int(int64(r.Intn(3)-1)), value.Int(int64(r.Uint64())), value.Text(one(r, "", "a", "\x00", "a\x00\xff", " ")))
}

func randomConds(r *rand.Rand, wide int) []api.Cond {
	var out []api.Cond
	for range 1 + r.Intn(3) {
		c := as(r.Intn(wide), 1+r.Intn(6), r.Intn(wide))
		switch r.Intn(3) {
		case 0:
			c = never
		case 1:
			c.Right, c.Val = -1, randomValue(r)
		}
		out = append(out, c)
	}
	return out
}

func randomCols(r *rand.Rand, many, wide int) []int {
	out := make([]int, many)
	for i := range out {
		out[i] = r.Intn(wide)
	}
	return out
}

func randomPairs(r *rand.Rand, left, right int) []api.Pair {
	var out []api.Pair
	for range r.Intn(3) {
		out = append(out, api.Pair{Left: r.Intn(left), Right: r.Intn(right)})
	}
	return out
}

// randomPlan answers one that can be, of so many levels at most.
func randomPlan(r *rand.Rand, levels int) *api.Node {
	if levels <= 1 || r.Intn(8) == 0 {
		return scan(one(r, "a", "b", "pod"), one(r, 1, 2, 3))
	}
	left := randomPlan(r, levels-1)
	wide := columns(left)
	switch r.Intn(7) {
	case 0:
		return where(left, randomConds(r, wide)...)
	case 1, 2:
		right := randomPlan(r, levels-1)
		pairs := randomPairs(r, wide, columns(right))
		if wide+columns(right) > 40 || r.Intn(2) == 0 {
			return miss(left, right, pairs...)
		}
		return meet(left, right, pairs...)
	case 3:
		return once(left)
	case 4:
		agg := 1 + r.Intn(4)
		of := r.Intn(wide)
		if agg == 1 {
			of = 0
		}
		return group(left, agg, of, randomCols(r, one(r, 0, 0, 1, 2, 39), wide)...)
	}
	return take(left, randomCols(r, one(r, 1, 1, 2, 3, 40), wide)...)
}

// copied answers a plan with nodes and lists of its own, and all of these nodes.
func copied(n *api.Node, all *[]*api.Node) *api.Node {
	if n == nil {
		return nil
	}
	own := *n
	own.Conds, own.Pairs, own.Cols = slices.Clone(n.Conds), slices.Clone(n.Pairs), slices.Clone(n.Cols)
	own.Left, own.Right = copied(n.Left, all), copied(n.Right, all)
	*all = append(*all, &own)
	return &own
}

func near(r *rand.Rand, n int) int {
	return one(r, n-1, n+1, 0, -1, n+39, 40, 41, math.MaxInt, math.MinInt)
}

// spoiled answers a plan in which something is another one.
func spoiled(r *rand.Rand, n *api.Node) *api.Node {
	var all []*api.Node
	out := copied(n, &all)
	x := all[r.Intn(len(all))]
	i := r.Intn(100)
	switch f := r.Intn(12); {
	case f == 0:
		x.Kind = one(r, near(r, x.Kind), 1+r.Intn(7))
	case f == 1:
		x.Name = one(r, "", "a", "b", "B", "abcdefghijklmnopq", x.Name+" ")
	case f == 2:
		x.Wide = one(r, near(r, x.Wide), 5)
	case f <= 5 && len(x.Conds) > 0:
		c := &x.Conds[i%len(x.Conds)]
		switch r.Intn(4) {
		case 0:
			c.Left = near(r, c.Left)
		case 1:
			c.Op = near(r, c.Op)
		case 2:
			c.Right = near(r, c.Right)
		default:
			c.Val = one(r, randomValue(r), api.Value{Kind: 4}, api.Value{Kind: 2, Flag: true}, value.Text(strings.Repeat("x", 61)))
		}
	case f <= 5 && len(x.Pairs) > 0:
		p := &x.Pairs[i%len(x.Pairs)]
		if r.Intn(2) == 0 {
			p.Left = near(r, p.Left)
		} else {
			p.Right = near(r, p.Right)
		}
	case f <= 5 && len(x.Cols) > 0:
		x.Cols[i%len(x.Cols)] = near(r, x.Cols[i%len(x.Cols)])
	case f <= 5:
		x.Conds, x.Pairs, x.Cols = x.Conds[:0], x.Pairs[:0], x.Cols[:0]
	case f == 6:
		x.Agg = near(r, x.Agg)
	case f == 7:
		x.Of = near(r, x.Of)
	case f == 8:
		x.Left = one(r, nil, x.Right, scan("a", 1), scan("b", 5))
	case f == 9:
		x.Right = one(r, nil, x.Left, scan("a", 1), scan("b", 5))
	case f == 10:
		x.Conds, x.Pairs = append(x.Conds, one(r, never, as(0, 1, 0))), one(r, nil, x.Pairs, append(x.Pairs, api.Pair{}))
	default:
		x.Cols = append(x.Cols, 0)
	}
	return out
}

// P18.1, P18.3
func TestByDefinition(t *testing.T) {
	r := rand.New(rand.NewSource(1))
	told := map[bool]int{}
	kept := map[string]*api.Node{}
	for range 20000 {
		n := randomPlan(r, 1+r.Intn(6))
		if !canBe(n) {
			t.Fatal(keyOf(n))
		}
		checkKey(t, n, keyOf(n))
		other := spoiled(r, n)
		ok := canBe(other)
		told[ok]++
		if !ok {
			checkWrong(t, keyOf(n), other)
		} else {
			checkKey(t, other, keyOf(other))
			if same(n, other) != (Key(n) == Key(other)) {
				t.Error(Key(n), Key(other))
			}
		}
		// Plans of one key are alike.
		if was := kept[Key(n)]; was != nil && !same(was, n) {
			t.Error(Key(n))
		}
		kept[Key(n)] = n
		if t.Failed() {
			return
		}
	}
	if told[true] < 1000 || told[false] < 1000 {
		t.Error(told)
	}
}

// P18.2
func TestPartsByDefinition(t *testing.T) {
	r := rand.New(rand.NewSource(1))
	twice := 0
	for range 4000 {
		var l []*api.Node
		many := 0
		for range r.Intn(4) {
			n := randomPlan(r, 1+r.Intn(5))
			if r.Intn(4) == 0 {
				n = spoiled(r, n)
			}
			if canBe(n) {
				many += plan.Many(n)
			}
			l = append(l, n)
		}
		want := partsOf(l...)
		got := Parts(l...)
		if !slices.Equal(got, want) {
			t.Fatal(keys(l), keys(got), keys(want))
		}
		if len(got) < many {
			twice++
		}
		names := []string{}
		for _, n := range want {
			if n.Kind == api.Scan && !slices.Contains(names, n.Name) {
				names = append(names, n.Name)
			}
		}
		slices.Sort(names)
		if scans := Scans(l...); !slices.Equal(scans, names) {
			t.Fatal(keys(l), scans, names)
		}
		// Each part stands behind those that it stands on: they are parts, or such are there as are alike.
		for i, n := range got {
			for _, below := range []*api.Node{n.Left, n.Right} {
				if below != nil && !slices.Contains(keys(got[:i]), Key(below)) {
					t.Fatal(keys(got), Key(below))
				}
			}
		}
	}
	if twice < 300 {
		t.Error(twice)
	}
}

// strict reads a key word by word, as it must stand; it hands up by a panic what is no such word.
type strict struct{ words []string }

func (s *strict) word() string {
	w := s.words[0]
	s.words = s.words[1:]
	return w
}

func (s *strict) number() int {
	w := s.word()
	n, err := strconv.Atoi(w)
	if err != nil || strconv.Itoa(n) != w {
		panic(w)
	}
	return n
}

func (s *strict) val() api.Value {
	w := s.word()
	var b []byte
	for i := 0; i < len(w); i += 2 {
		c, err := strconv.ParseUint(w[i:i+2], 16, 8)
		if err != nil || strings.ToLower(w) != w {
			panic(w)
		}
		b = append(b, byte(c))
	}
	l, why := pack.Back(append(b, 0))
	if why != api.OK || len(l) != 1 {
		panic(w)
	}
	return l[0]
}

func (s *strict) node() *api.Node {
	n := &api.Node{}
	n.Kind = 1 + slices.Index([]string{"scan", "where", "meet", "miss", "take", "once", "group"}, s.word())
	times := func(f func()) {
		for range s.number() {
			f()
		}
	}
	switch n.Kind {
	case 1:
		n.Name, n.Wide = s.word(), s.number()
		return n
	case 2:
		times(func() {
			c := as(s.number(), s.number(), s.number())
			if c.Right == -1 {
				c.Val = s.val()
			}
			n.Conds = append(n.Conds, c)
		})
	case 3, 4:
		times(func() { n.Pairs = append(n.Pairs, api.Pair{Left: s.number(), Right: s.number()}) })
	case 5, 7:
		times(func() { n.Cols = append(n.Cols, s.number()) })
		if n.Kind == 7 {
			n.Agg, n.Of = s.number(), s.number()
		}
	}
	n.Left = s.node()
	if n.Kind == 3 || n.Kind == 4 {
		n.Right = s.node()
	}
	return n
}

// strictly answers the plan whose key it is; nil, if there is none.
func strictly(key string) (n *api.Node) {
	defer func() {
		if recover() != nil {
			n = nil
		}
	}()
	s := strict{strings.Split(key, " ")}
	n = s.node()
	if len(s.words) > 0 || !canBe(n) {
		return nil
	}
	return n
}

func checkRead(t *testing.T, key string) bool {
	t.Helper()
	want := strictly(key)
	got, why := Read(key)
	if want == nil {
		if got != nil || why != api.ErrForm {
			t.Fatalf("Read(%q): %v, %v", key, got, why)
		}
		return false
	}
	if why != api.OK || !same(got, want) {
		t.Fatalf("Read(%q): %s, %v", key, Key(got), why)
	}
	return true
}

// edited answers a key in which a word, or a byte, is another one, or none, or there twice.
func edited(r *rand.Rand, key string) string {
	if r.Intn(2) == 0 {
		words := strings.Split(key, " ")
		i := r.Intn(len(words))
		other := one(r, "0", "1", "2", "-1", "01", "", "scan", "once", "meet", "a", "00", "0200", "040001", strconv.Itoa(r.Intn(50)), words[r.Intn(len(words))])
		switch r.Intn(3) {
		case 0:
			words[i] = other
		case 1:
			words = slices.Delete(words, i, i+1)
		default:
			words = slices.Insert(words, i, other)
		}
		return strings.Join(words, " ")
	}
	i := r.Intn(len(key))
	other := one(r, "0", "1", "f", "F", " ", "-", "x", "", string(key[i])+string(key[i]), "\x00", "\xff")
	return key[:i] + other + key[i+1:]
}

// P18.1: texts that are nearly keys.
func TestReadByDefinition(t *testing.T) {
	r := rand.New(rand.NewSource(1))
	told := map[bool]int{}
	for range 30000 {
		key := Key(randomPlan(r, 1+r.Intn(5)))
		if !checkRead(t, key) {
			t.Fatal(key)
		}
		for range 1 + r.Intn(3) {
			if key != "" {
				key = edited(r, key)
			}
		}
		told[checkRead(t, key)]++
	}
	if told[true] < 1000 || told[false] < 1000 {
		t.Error(told)
	}
}

// P6: nodes of any bytes.
func TestAnyNodes(t *testing.T) {
	r := rand.New(rand.NewSource(1))
	odd := func() int { return one(r, r.Intn(8), r.Intn(8), -1, near(r, 1), int(r.Uint64())) }
	var node func(levels int) *api.Node
	node = func(levels int) *api.Node {
		if levels == 0 {
			return one(r, nil, scan("a", 2))
		}
		b := make([]byte, r.Intn(4))
		r.Read(b)
		n := &api.Node{Kind: odd(), Left: node(levels - 1), Right: node(r.Intn(levels))}
		if r.Intn(4) == 0 {
			n.Name, n.Wide, n.Agg, n.Of = string(b), odd(), odd(), odd()
		}
		for range r.Intn(3) {
			n.Conds = append(n.Conds, api.Cond{Left: odd(), Op: odd(), Right: odd(), Val: api.Value{Kind: odd(), Text: string(b)}})
			n.Pairs = append(n.Pairs, api.Pair{Left: odd(), Right: odd()})
			n.Cols = append(n.Cols, odd())
		}
		return n
	}
	for range 20000 {
		n := node(r.Intn(5))
		if got := Right(n); got != canBe(n) {
			t.Fatal(reflect.ValueOf(n), got)
		}
		key := Key(n)
		if again, why := Read(key); Right(n) && !same(again, n) || (why == api.OK) != Right(n) {
			t.Fatal(key, why)
		}
		if got := Parts(n, nil, n); !slices.Equal(got, partsOf(n)) {
			t.Fatal(key, keys(got))
		}
		Scans(n, n)
		plan.Wide(n)
		plan.Many(n)
	}
}

func FuzzRead(f *testing.F) {
	for _, key := range []string{"once take 1 0 scan pod 5", "meet 1 0 4 scan b 1 scan pod 5", "group 2 4 0 1 0 where 2 0 1 -1 040001 -1 1 -1 01 scan pod 5", "miss 0 scan a 1 scan b 40"} {
		f.Add(key)
	}
	f.Fuzz(func(t *testing.T, key string) { checkRead(t, key) })
}
