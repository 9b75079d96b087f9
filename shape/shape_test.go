package shape

import (
	"math"
	"reflect"
	"slices"
	"strconv"
	"strings"
	"testing"

	"verderer/api"
	"verderer/plan"
	"verderer/value"
)

func scan(name string, wide int) *api.Node {
	return &api.Node{Kind: api.Scan, Name: name, Wide: wide}
}

func where(n *api.Node, l ...api.Cond) *api.Node {
	return &api.Node{Kind: api.Where, Conds: l, Left: n}
}

func meet(a, b *api.Node, l ...api.Pair) *api.Node {
	return &api.Node{Kind: api.Meet, Pairs: l, Left: a, Right: b}
}

func miss(a, b *api.Node, l ...api.Pair) *api.Node {
	return &api.Node{Kind: api.Miss, Pairs: l, Left: a, Right: b}
}

func take(n *api.Node, cols ...int) *api.Node {
	return &api.Node{Kind: api.Take, Cols: cols, Left: n}
}

func once(n *api.Node) *api.Node { return &api.Node{Kind: api.Once, Left: n} }

func onces(n *api.Node, many int) *api.Node {
	for range many {
		n = once(n)
	}
	return n
}

func group(n *api.Node, agg, of int, cols ...int) *api.Node {
	return &api.Node{Kind: api.Group, Cols: cols, Agg: agg, Of: of, Left: n}
}

// is asks a column for a value, as asks it for another column.
func is(left, op int, v api.Value) api.Cond {
	return api.Cond{Left: left, Op: op, Right: -1, Val: v}
}

func as(left, op, right int) api.Cond { return api.Cond{Left: left, Op: op, Right: right} }

var never = api.Cond{Left: -1, Op: api.Eq, Right: -1}

// same tells whether plans are alike in all; a nil list is an empty one.
func same(a, b *api.Node) bool {
	if a == nil || b == nil {
		return a == b
	}
	return a.Kind == b.Kind && a.Name == b.Name && a.Wide == b.Wide && a.Agg == b.Agg && a.Of == b.Of &&
		slices.Equal(a.Conds, b.Conds) && slices.Equal(a.Pairs, b.Pairs) && slices.Equal(a.Cols, b.Cols) &&
		same(a.Left, b.Left) && same(a.Right, b.Right)
}

// checkKey asks of a plan that can be for its key, and back.
func checkKey(t *testing.T, n *api.Node, key string) {
	t.Helper()
	if !Right(n) {
		t.Errorf("Right(%s): false", key)
	}
	if got := Key(n); got != key {
		t.Errorf("Key: %s, not %s", got, key)
	}
	if got, why := Read(key); why != api.OK || !same(got, n) {
		t.Errorf("Read(%s): %s, %v", key, Key(got), why)
	}
}

// checkWrong asks of a plan that can not be.
func checkWrong(t *testing.T, what any, n *api.Node) {
	t.Helper()
	if Right(n) {
		t.Errorf("Right(%v): true", what)
	}
	if got := Key(n); got != "" {
		t.Errorf("Key(%v): %s", what, got)
	}
	if got := Parts(n); len(got) != 0 {
		t.Errorf("Parts(%v): %v", what, got)
	}
	if got := Scans(n); len(got) != 0 {
		t.Errorf("Scans(%v): %v", what, got)
	}
}

// P18.1: plans that can be, their keys, and back.
func TestKey(t *testing.T) {
	pod, b := scan("pod", 5), scan("b", 1)
	for key, n := range map[string]*api.Node{
		"scan pod 5":                                                     pod,
		"scan a 1":                                                       scan("a", 1),
		"scan a_9z_ 40":                                                  scan("a_9z_", 40),
		"scan abcdefghijklmnop 2":                                        scan("abcdefghijklmnop", 2),
		"scan scan 2":                                                    scan("scan", 2),
		"scan tenant 2":                                                  scan("tenant", 2),
		"once take 1 0 scan pod 5":                                       once(take(pod, 0)),
		"once once scan b 1":                                             once(once(b)),
		"take 3 4 4 0 scan pod 5":                                        take(pod, 4, 4, 0),
		"meet 0 scan pod 5 scan b 1":                                     meet(pod, b),
		"meet 1 4 0 scan pod 5 scan b 1":                                 meet(pod, b, api.Pair{Left: 4}),
		"meet 1 0 4 scan b 1 scan pod 5":                                 meet(b, pod, api.Pair{Right: 4}),
		"miss 2 0 0 0 0 scan b 1 scan b 1":                               miss(b, b, api.Pair{}, api.Pair{}),
		"miss 0 scan b 1 once scan b 1":                                  miss(b, once(b)),
		"miss 0 once scan b 1 scan b 1":                                  miss(once(b), b),
		"miss 2 4 0 1 1 scan pod 5 take 2 3 3 scan pod 5":                miss(pod, take(pod, 3, 3), api.Pair{Left: 4}, api.Pair{Left: 1, Right: 1}),
		"meet 1 4 1 scan pod 5 miss 0 scan c 2 scan b 1":                 meet(pod, miss(scan("c", 2), b), api.Pair{Left: 4, Right: 1}),
		"meet 1 6 2 meet 0 scan pod 5 scan c 2 scan c 3":                 meet(meet(pod, scan("c", 2)), scan("c", 3), api.Pair{Left: 6, Right: 2}),
		"meet 0 scan a 39 scan b 1":                                      meet(scan("a", 39), b),
		"meet 1 0 39 scan b 1 miss 0 scan a 40 scan a 40":                nil,
		"group 0 1 0 scan pod 5":                                         group(pod, api.Count, 0),
		"group 2 4 0 1 0 scan pod 5":                                     group(pod, api.Count, 0, 4, 0),
		"group 1 0 2 4 scan pod 5":                                       group(pod, api.Sum, 4, 0),
		"group 0 3 0 scan b 1":                                           group(b, api.Least, 0),
		"group 3 0 0 0 4 0 scan b 1":                                     group(b, api.Most, 0, 0, 0, 0),
		"take 1 2 group 2 1 1 1 0 scan pod 5":                            take(group(pod, api.Count, 0, 1, 1), 2),
		"where 1 0 1 0 scan b 1":                                         where(b, as(0, api.Eq, 0)),
		"where 2 4 6 0 0 2 4 scan pod 5":                                 where(pod, as(4, api.Ge, 0), as(0, api.Ne, 4)),
		"where 1 -1 1 -1 01 scan b 1":                                    where(b, never),
		"where 1 0 1 -1 01 scan b 1":                                     where(b, is(0, api.Eq, value.Null())),
		"where 2 0 2 -1 0200 0 3 -1 0201 scan b 1":                       where(b, is(0, api.Ne, value.Bool(false)), is(0, api.Lt, value.Bool(true))),
		"where 1 3 5 -1 038000000000000003 scan pod 5":                   where(pod, is(3, api.Gt, value.Int(3))),
		"where 1 0 4 -1 037fffffffffffffff scan b 1":                     where(b, is(0, api.Le, value.Int(-1))),
		"where 1 0 1 -1 030000000000000000 scan b 1":                     where(b, is(0, api.Eq, value.Int(math.MinInt64))),
		"where 1 0 1 -1 03ffffffffffffffff scan b 1":                     where(b, is(0, api.Eq, value.Int(math.MaxInt64))),
		"where 1 0 1 -1 040001 scan b 1":                                 where(b, is(0, api.Eq, value.Text(""))),
		"where 1 0 1 -1 0461ff00ff7a0001 scan b 1":                       where(b, is(0, api.Eq, value.Text("a\xff\x00z"))),
		"where 3 0 1 -1 01 -1 1 -1 01 0 6 0 once scan b 1":               where(once(b), is(0, api.Eq, value.Null()), never, as(0, api.Ge, 0)),
		"where 1 2 1 -1 01 group 2 1 1 1 0 scan pod 5":                   where(group(pod, api.Count, 0, 1, 1), is(2, api.Eq, value.Null())),
		"once group 1 0 2 1 where 1 -1 1 -1 01 meet 0 scan b 1 scan b 1": once(group(where(meet(b, b), never), api.Sum, 1, 0)),
	} {
		if n == nil {
			// More columns than there may be.
			if got, why := Read(key); got != nil || why != api.ErrForm {
				t.Error(key, got, why)
			}
			continue
		}
		checkKey(t, n, key)
	}
	long := strings.Repeat("x", api.MaxText)
	checkKey(t, where(b, is(0, api.Eq, value.Text(long))), "where 1 0 1 -1 04"+strings.Repeat("78", api.MaxText)+"0001 scan b 1")
	zeros := strings.Repeat("\x00", api.MaxText)
	checkKey(t, where(b, is(0, api.Eq, value.Text(zeros))), "where 1 0 1 -1 04"+strings.Repeat("00ff", api.MaxText)+"0001 scan b 1")
	// As many columns as there may be, and any number of conditions and pairs.
	checkKey(t, take(b, make([]int, 40)...), "take 40"+strings.Repeat(" 0", 40)+" scan b 1")
	checkKey(t, group(b, api.Count, 0, make([]int, 39)...), "group 39"+strings.Repeat(" 0", 39)+" 1 0 scan b 1")
	checkKey(t, where(b, slices.Repeat([]api.Cond{as(0, 1, 0)}, 1000)...), "where 1000"+strings.Repeat(" 0 1 0", 1000)+" scan b 1")
	checkKey(t, meet(b, b, make([]api.Pair, 1000)...), "meet 1000"+strings.Repeat(" 0 0", 1000)+" scan b 1 scan b 1")
	// A list that is empty is one that is nil.
	empty := &api.Node{Kind: api.Once, Conds: []api.Cond{}, Pairs: []api.Pair{}, Cols: []int{}, Left: &api.Node{Kind: api.Group, Agg: 1, Cols: []int{}, Left: b}}
	checkKey(t, empty, "once group 0 1 0 scan b 1")
}

// bad is how nodes can not be, by their kinds.
func bad() map[string][]*api.Node {
	pod := scan("pod", 5)
	c := api.Value{Kind: api.Int, Text: "x"}
	return map[string][]*api.Node{
		"kind": {nil, {}, {Kind: -1}, {Kind: 8}, {Kind: 8, Left: pod}, {Kind: math.MaxInt}, {Kind: math.MinInt, Left: pod, Right: pod}, {Name: "a", Wide: 3}},
		"scan": {
			{Kind: api.Scan}, scan("", 3), scan("a", 0), scan("a", -1), scan("a", 41), scan("a", math.MaxInt), scan("a", math.MinInt),
			scan("A", 3), scan("1", 3), scan("_", 3), scan("a b", 3), scan("a-", 3), scan("é", 3), scan("abcdefghijklmnopq", 3), scan("a\x00", 3),
			{Kind: api.Scan, Name: "a", Wide: 3, Left: pod}, {Kind: api.Scan, Name: "a", Wide: 3, Right: pod},
		},
		"where": {
			where(pod), where(nil, never), {Kind: api.Where, Conds: []api.Cond{never}, Right: pod}, {Kind: api.Where, Conds: []api.Cond{never}, Left: pod, Right: pod},
			where(pod, is(5, 1, value.Int(3))), where(pod, is(-1, 1, value.Int(3))), where(pod, is(-2, 1, value.Null())), where(pod, is(math.MaxInt, 1, value.Null())), where(pod, is(math.MinInt, 1, value.Null())),
			where(pod, as(0, 1, 5)), where(pod, as(5, 1, 0)), where(pod, as(-1, 1, 0)), where(pod, as(0, 1, -2)), where(pod, as(0, 1, math.MaxInt)), where(pod, as(0, 1, math.MinInt)), where(pod, as(-2, 1, -2)),
			where(pod, as(0, 0, 0)), where(pod, as(0, 7, 0)), where(pod, as(0, -1, 0)), where(pod, as(0, math.MaxInt, 0)), where(pod, is(0, 0, value.Null())), where(pod, is(0, 7, value.Null())),
			where(pod, as(-1, 2, -1)), where(pod, as(-1, 0, -1)), where(pod, is(-1, 1, value.Bool(false))), where(pod, is(-1, 1, value.Text(""))), where(pod, as(-1, 6, -1)),
			where(pod, is(0, 1, c)), where(pod, is(0, 1, api.Value{Int: 3})), where(pod, is(0, 1, api.Value{Kind: 4})), where(pod, is(0, 1, api.Value{Kind: -1})), where(pod, is(0, 1, value.Text(strings.Repeat("x", 61)))),
			where(pod, api.Cond{Op: 1, Val: value.Int(0)}), where(pod, api.Cond{Op: 1, Right: 3, Val: value.Text("")}), where(pod, api.Cond{Op: 1, Right: 3, Val: api.Value{Int: 3}}), where(pod, api.Cond{Op: 1, Right: 3, Val: value.Bool(true)}),
			where(pod, as(0, 1, 0), as(0, 1, 5)), where(pod, as(0, 1, 5), as(0, 1, 0)), where(pod, never, is(5, 1, value.Null())),
			where(take(pod, 0), as(0, 1, 1)), where(group(pod, 1, 0), as(1, 1, 0)), where(miss(pod, scan("a", 9)), as(5, 1, 0)), where(once(pod), as(5, 1, 0)), where(where(pod, never), as(5, 1, 0)),
		},
		"meet": {
			meet(nil, nil), meet(pod, nil), meet(nil, pod), meet(pod, pod, api.Pair{Left: 5}), meet(pod, pod, api.Pair{Right: 5}), meet(pod, pod, api.Pair{Left: -1}), meet(pod, pod, api.Pair{Right: -1}),
			meet(pod, pod, api.Pair{Left: math.MaxInt}), meet(pod, pod, api.Pair{Right: math.MinInt}), meet(pod, pod, api.Pair{}, api.Pair{Left: 5}), meet(pod, pod, api.Pair{Right: 5}, api.Pair{}),
			meet(pod, scan("a", 2), api.Pair{Left: 0, Right: 2}), meet(scan("a", 2), pod, api.Pair{Left: 2, Right: 0}), meet(scan("a", 40), scan("a", 1)), meet(scan("a", 20), scan("a", 21)), meet(scan("a", 40), scan("a", 40)),
			meet(meet(scan("a", 20), scan("a", 20)), pod),
		},
		"miss": {
			miss(nil, nil), miss(pod, nil), miss(nil, pod), miss(pod, pod, api.Pair{Left: 5}), miss(pod, pod, api.Pair{Right: 5}), miss(pod, pod, api.Pair{Left: -1}), miss(pod, pod, api.Pair{Right: -1}),
			miss(pod, scan("a", 2), api.Pair{Left: 0, Right: 2}), miss(scan("a", 2), pod, api.Pair{Left: 2, Right: 0}), miss(scan("a", 41), pod),
		},
		"take": {
			take(pod), take(nil, 0), take(pod, 5), take(pod, -1), take(pod, 0, 1, 5), take(pod, 5, 0), take(pod, math.MaxInt), take(pod, math.MinInt), take(pod, make([]int, 41)...), take(take(pod, 3), 3),
			take(group(pod, 1, 0, 0), 2), {Kind: api.Take, Cols: []int{0}, Left: pod, Right: pod}, {Kind: api.Take, Cols: []int{0}, Right: pod},
		},
		"once": {once(nil), {Kind: api.Once, Left: pod, Right: pod}, {Kind: api.Once, Right: pod}},
		"group": {
			group(nil, 1, 0), group(pod, 0, 0), group(pod, -1, 0), group(pod, 5, 0), group(pod, 1, 1), group(pod, 1, -1), group(pod, 2, 5), group(pod, 2, -1), group(pod, 3, math.MaxInt), group(pod, 4, math.MinInt),
			group(pod, 4, 5), group(pod, 3, 5), group(pod, 1, 0, 5), group(pod, 2, 0, 0, -1), group(pod, 1, 0, make([]int, 40)...), group(group(pod, 1, 0), 2, 1),
			{Kind: api.Group, Agg: 1, Left: pod, Right: pod}, {Kind: api.Group, Agg: 1, Right: pod},
		},
	}
}

// P18.1: plans that can not be, or in which something can not be.
func TestWrong(t *testing.T) {
	b := scan("b", 1)
	for kind, l := range bad() {
		for i, n := range l {
			checkWrong(t, []any{kind, i}, n)
			if n == nil {
				continue
			}
			checkWrong(t, []any{kind, i, "once"}, once(n))
			checkWrong(t, []any{kind, i, "left"}, miss(n, b))
			checkWrong(t, []any{kind, i, "right"}, miss(b, n))
			checkWrong(t, []any{kind, i, "both"}, meet(n, n))
			checkWrong(t, []any{kind, i, "below"}, onces(miss(once(n), take(b, 0)), 30))
		}
	}
}

// P18.1: what a kind is not said to have is zero.
func TestBare(t *testing.T) {
	pod := scan("pod", 5)
	fields := map[string]func(n *api.Node){
		"Name":  func(n *api.Node) { n.Name = "a" },
		"Wide":  func(n *api.Node) { n.Wide = 6 },
		"Conds": func(n *api.Node) { n.Conds = []api.Cond{never} },
		"Pairs": func(n *api.Node) { n.Pairs = []api.Pair{{}} },
		"Cols":  func(n *api.Node) { n.Cols = []int{0} },
		"Agg":   func(n *api.Node) { n.Agg = 2 },
		"Of":    func(n *api.Node) { n.Of = 1 },
		"Left":  func(n *api.Node) { n.Left = scan("a", 5) },
		"Right": func(n *api.Node) { n.Right = scan("a", 5) },
	}
	if len(fields) != reflect.TypeFor[api.Node]().NumField()-1 {
		t.Fatal(len(fields))
	}
	for what, n := range map[string]*api.Node{
		"Name Wide":        pod,
		"Conds Left":       where(pod, as(0, 1, 0)),
		"Pairs Left Right": meet(pod, pod, api.Pair{Left: 1}),
		"Right Pairs Left": miss(pod, pod, api.Pair{Left: 1}),
		"Cols Left":        take(pod, 1),
		"Left":             once(pod),
		"Cols Agg Of Left": group(pod, 3, 2, 1),
	} {
		for name, set := range fields {
			other := *n
			set(&other)
			if strings.Contains(what, name) {
				if !Right(&other) || Key(&other) == Key(n) {
					t.Error(what, name, Key(&other))
				}
			} else {
				checkWrong(t, what+" and "+name, &other)
			}
		}
	}
}

// full answers a plan of so many nodes that stand beside each other, each of one column.
func full(many int) *api.Node {
	n := scan("a", 1)
	for ; many > 2; many -= 2 {
		n = miss(n, scan("a", 1))
	}
	if many == 2 {
		n = once(n)
	}
	return n
}

// P18.1: how many nodes a plan has, each as often as it stands in it.
func TestManyNodes(t *testing.T) {
	key := "scan a 1"
	checkKey(t, onces(scan("a", 1), 399), strings.Repeat("once ", 399)+key)
	checkKey(t, full(399), strings.Repeat("miss 0 ", 199)+key+strings.Repeat(" "+key, 199))
	checkKey(t, full(400), "once "+strings.Repeat("miss 0 ", 199)+key+strings.Repeat(" "+key, 199))
	checkWrong(t, 401, onces(scan("a", 1), 400))
	checkWrong(t, 401, full(401))
	checkWrong(t, 402, full(402))
	for _, key := range []string{strings.Repeat("once ", 400) + key, strings.Repeat("miss 0 ", 200) + key + strings.Repeat(" "+key, 200)} {
		if n, why := Read(key); n != nil || why != api.ErrForm {
			t.Error(Key(n), why)
		}
	}
	// A node that stands there several times.
	n := onces(scan("a", 1), 98)
	twice := miss(n, n)
	if four := once(miss(twice, twice)); !Right(four) || plan.Many(four) != 400 || len(Parts(four)) != 102 {
		t.Error(plan.Many(four), len(Parts(four)))
	}
	checkWrong(t, 401, onces(miss(twice, twice), 2))
}

// P18.1: texts that are no keys.
func TestNoKey(t *testing.T) {
	for _, key := range []string{
		"", " ", "a", "scan", "scan a", "scan 1", "scan a 1 ", " scan a 1", "scan  a 1", "scan a  1", "scan a 1 1", "scan a 1\n", "scan\ta 1", "Scan a 1", "scans a 1",
		"scan a 0", "scan a 41", "scan a -1", "scan a 01", "scan a +1", "scan a 1.0", "scan a 0x1", "scan a one", "scan A 1", "scan 1 1", "scan a 99999999999999999999", "scan abcdefghijklmnopq 1", "scan a 1_0",
		// A node too many, or too few.
		"scan a 1 scan a 1", "once", "once ", "once once", "once scan a 1 scan a 1", "once scan a 1 once", "meet 0 scan a 1", "meet 0 scan a 1 ", "meet 0", "miss 0 scan a 1", "meet 0 scan a 1 scan a 1 scan a 1",
		"take 1 0", "group 0 1 0", "where 1 0 1 0", "where 1 -1 1 -1 01", "once take 1 0 scan pod 5 ", "once  take 1 0 scan pod 5", "once take 1 0 scan pod 5 5",
		// Too many or too few of what a word says.
		"take 0 scan a 1", "take 1 scan a 1", "take 2 0 scan a 1", "take 1 0 0 scan a 1", "take -1 scan a 1", "take 01 0 scan a 1", "take scan a 1", "take 1 1 scan a 1", "take 1 -1 scan a 1", "take 99999999999999999999 0 scan a 1",
		"take 41" + strings.Repeat(" 0", 41) + " scan a 1", "take 9223372036854775807 0 scan a 1", "take -9223372036854775808 0 scan a 1",
		"group 1 1 0 scan a 1", "group 0 0 1 0 scan a 1", "group 0 1 scan a 1", "group 0 0 0 scan a 1", "group 0 5 0 scan a 1", "group 0 1 1 scan a 2", "group 0 2 1 scan a 1", "group -1 1 0 scan a 1",
		"group 40" + strings.Repeat(" 0", 40) + " 1 0 scan a 1",
		"meet scan a 1 scan a 1", "meet 1 scan a 1 scan a 1", "meet 1 0 scan a 1 scan a 1", "meet 1 0 0 0 scan a 1 scan a 1", "meet 1 1 0 scan a 1 scan a 1", "miss 1 0 1 scan a 1 scan a 1", "miss -0 scan a 1 scan a 1",
		"meet 0 scan a 40 scan a 1", "where 0 scan a 1", "where 1 scan a 1", "where 1 0 1 scan a 1", "where 1 0 1 0 0 scan a 1", "where 2 0 1 0 scan a 1", "where 1 0 0 0 scan a 1", "where 1 0 7 0 scan a 1", "where 1 0 1 1 scan a 1", "where 1 1 1 0 scan a 1",
		// Values.
		"where 1 0 1 -1 scan a 1", "where 1 0 1 0 01 scan a 1", "where 1 0 1 -2 scan a 1", "where 1 0 1 -2 01 scan a 1", "where 1 -1 1 0 scan a 1", "where 1 -1 2 -1 01 scan a 1", "where 1 -1 1 -1 0200 scan a 1", "where 1 -1 1 -1 scan a 1",
		"where 1 0 1 -1 00 scan a 1", "where 1 0 1 -1 0 scan a 1", "where 1 0 1 -1 1 scan a 1", "where 1 0 1 -1 011 scan a 1", "where 1 0 1 -1 0101 scan a 1", "where 1 0 1 -1 010 scan a 1", "where 1 0 1 -1  scan a 1", "where 1 0 1 -1 0x01 scan a 1",
		"where 1 0 1 -1 02 scan a 1", "where 1 0 1 -1 0202 scan a 1", "where 1 0 1 -1 020100 scan a 1", "where 1 0 1 -1 05 scan a 1", "where 1 0 1 -1 03ffffffffffffffFF scan a 1", "where 1 0 1 -1 03FFFFFFFFFFFFFFFF scan a 1",
		"where 1 0 1 -1 0380000000000000 scan a 1", "where 1 0 1 -1 03800000000000000000 scan a 1", "where 1 0 1 -1 04 scan a 1", "where 1 0 1 -1 0400 scan a 1", "where 1 0 1 -1 040002 scan a 1", "where 1 0 1 -1 04000100 scan a 1",
		"where 1 0 1 -1 0g scan a 1", "where 1 0 1 -1 zz scan a 1", "where 1 0 1 -1 \xff\xff scan a 1", "where 1 0 1 -1 null scan a 1", "where 1 0 1 -1 04" + strings.Repeat("78", 61) + "0001 scan a 1",
		"kind 8", "0", "view a 1", "scan a 1 ; drop", "once\x00scan a 1", "ｓcan a 1",
	} {
		if n, why := Read(key); n != nil || why != api.ErrForm {
			t.Errorf("Read(%q): %v, %v", key, n, why)
		}
	}
}

func checkParts(t *testing.T, l []*api.Node, want ...*api.Node) {
	t.Helper()
	if got := Parts(l...); !slices.Equal(got, want) {
		t.Error(keys(got), keys(want))
	}
}

func keys(l []*api.Node) []string {
	var out []string
	for _, n := range l {
		out = append(out, Key(n))
	}
	return out
}

// P18.2
func TestParts(t *testing.T) {
	list := func(l ...*api.Node) []*api.Node { return l }
	checkParts(t, nil)
	checkParts(t, list(nil, nil))
	a, b := scan("a", 1), scan("b", 1)
	checkParts(t, list(a), a)
	checkParts(t, list(b, a), b, a)
	checkParts(t, list(a, a), a)
	// The parts of Left, those of Right, then it.
	o, m := once(b), meet(a, b)
	checkParts(t, list(o), b, o)
	checkParts(t, list(m), a, b, m)
	left, right := take(m, 1), miss(o, a)
	top := meet(left, right)
	checkParts(t, list(top), a, b, m, left, o, right, top)
	checkParts(t, list(right, left), b, o, a, right, m, left)
	// Of several that are alike the first alone, whichever node it is.
	a2, b2 := scan("a", 1), scan("b", 1)
	o2, m2 := once(b2), meet(a2, b2)
	checkParts(t, list(o2, o), b2, o2)
	checkParts(t, list(o, o2), b, o)
	checkParts(t, list(m2, o, m), a2, b2, m2, o)
	checkParts(t, list(b, m2), b, a2, m2)
	self := meet(a, a2)
	checkParts(t, list(self), a, self)
	// What is unlike in anything is another part.
	for _, l := range [][]*api.Node{
		{a, scan("a", 2)}, {a, b}, {meet(a, b), meet(b, a)}, {meet(a, b), miss(a, b)}, {meet(a, b), meet(a, b, api.Pair{})}, {take(a, 0), take(a, 0, 0)}, {once(a), take(a, 0)},
		{where(a, never), where(a, is(0, 1, value.Null()))}, {where(a, is(0, 1, value.Int(1))), where(a, is(0, 1, value.Int(2)))}, {where(a, as(0, 1, 0)), where(a, as(0, 2, 0))},
		{group(a, 1, 0), group(a, 2, 0)}, {group(a, 2, 0), group(a, 2, 0, 0)}, {group(scan("a", 2), 2, 0), group(scan("a", 2), 2, 1)}, {once(a), once(once(a))},
		{meet(meet(a, b), b), meet(a, meet(b, b))},
	} {
		if got := Parts(l...); !slices.Contains(got, l[0]) || !slices.Contains(got, l[1]) || Key(l[0]) == Key(l[1]) {
			t.Error(keys(l), keys(got))
		}
	}
	// Plans that can not be have none, and leave those of others.
	checkParts(t, list(nil, o, once(nil), meet(scan("c", 1), scan("C", 1)), m, onces(a, 400)), b, o, a, m)
}

// P18.2
func TestScans(t *testing.T) {
	a, b, c := scan("a", 1), scan("b", 3), scan("c", 2)
	for _, x := range []struct {
		l    []*api.Node
		want []string
	}{
		{nil, nil},
		{[]*api.Node{nil}, nil},
		{[]*api.Node{a}, []string{"a"}},
		{[]*api.Node{c, a}, []string{"a", "c"}},
		{[]*api.Node{once(c), once(c), meet(c, a)}, []string{"a", "c"}},
		{[]*api.Node{miss(meet(c, b), once(take(a, 0)))}, []string{"a", "b", "c"}},
		// Each name once, of Scans that are unlike too.
		{[]*api.Node{scan("b", 1), b, meet(scan("b", 2), scan("b", 4))}, []string{"b"}},
		{[]*api.Node{scan("ab", 1), scan("a_", 1), scan("a1", 1), scan("b", 1), scan("a", 1)}, []string{"a", "a1", "a_", "ab", "b"}},
		{[]*api.Node{once(nil), c, meet(a, scan("", 1)), onces(b, 400)}, []string{"c"}},
	} {
		if got := Scans(x.l...); !slices.Equal(got, x.want) {
			t.Error(keys(x.l), got, x.want)
		}
	}
}

// Rules 4 and 5: nothing that is handed in is changed; what is answered is no list that another answer has.
func TestNothingShared(t *testing.T) {
	n := meet(where(scan("a", 3), is(1, 3, value.Int(5)), never), group(take(scan("b", 2), 1, 0), 2, 1, 0), api.Pair{Left: 1, Right: 1})
	plans := append(make([]*api.Node, 0, 4), n, scan("c", 1))
	key := Key(n)
	for range 2 {
		again, _ := Read(key)
		parts, scans := Parts(plans...), Scans(plans...)
		if Key(again) != key || len(parts) != 7 || !slices.Equal(scans, []string{"a", "b", "c"}) || plans[0] != n || plans[:4][2] != nil {
			t.Fatal(Key(again), parts, scans, plans[:4])
		}
		again.Pairs[0], again.Left.Conds[0], again.Right.Cols[0], again.Right.Left.Cols[0] = api.Pair{}, api.Cond{}, 7, 7
		again.Left.Left.Name = "other"
		_ = append(again.Right.Cols, 1)
		for i := range parts {
			parts[i] = nil
		}
		for i := range scans {
			scans[i] = "other"
		}
		_, _ = append(parts, n), append(scans, "other")
		if Key(n) != key {
			t.Fatal(Key(n))
		}
	}
	// No two lists of one plan that was read share memory.
	again, _ := Read("meet 1 0 0 take 2 0 0 scan a 1 take 2 0 0 scan a 1")
	_ = append(again.Left.Cols, 7)
	again.Left.Cols[0] = 7
	if !slices.Equal(again.Right.Cols, []int{0, 0}) || again.Pairs[0] != (api.Pair{}) {
		t.Error(again)
	}
	// What was answered hangs on nothing that is changed later.
	parts := Parts(plans...)
	plans[0] = nil
	if len(parts) != 7 || parts[5] != n {
		t.Error(parts)
	}
}

// P6: plans and keys of any size.
func TestEnds(t *testing.T) {
	// Plans in which each node stands on another one twice: more nodes than can be counted one by one.
	narrow, wide := scan("a", 1), scan("a", 1)
	for range 1000 {
		narrow, wide = take(meet(narrow, narrow), 0), meet(wide, wide)
	}
	checkWrong(t, "narrow", narrow)
	checkWrong(t, "wide", wide)
	checkWrong(t, "deep", onces(scan("a", 1), 1<<20))
	deep := scan("a", 1)
	for range 1 << 20 {
		deep = miss(scan("a", 1), deep)
	}
	checkWrong(t, "deep", deep)
	n := 1 << 18
	for _, key := range []string{
		strings.Repeat("once ", n), strings.Repeat("meet 0 ", n), strings.Repeat("take 1 0 ", n) + "scan a 1", strings.Repeat(" ", n), strings.Repeat("x", n), strings.Repeat("scan a 1 ", n),
		"take " + strconv.Itoa(math.MaxInt) + strings.Repeat(" 0", n), "take " + strings.Repeat("9", n), "where 1 0 1 -1 " + strings.Repeat("0", n) + " scan a 1", "where 1 0 1 -1 04" + strings.Repeat("78", n) + "0001 scan a 1",
		"group " + strconv.Itoa(n) + strings.Repeat(" 0", n) + " 1 0 scan a 1", "where " + strings.Repeat("where ", n), "scan " + strings.Repeat("a", n) + " 1", strings.Repeat("\xff ", n), strings.Repeat("miss 0 scan a 1 ", n) + "scan a 1",
	} {
		if got, why := Read(key); got != nil || why != api.ErrForm {
			t.Errorf("%q..: %v, %v", key[:20], got, why)
		}
	}
	conds := where(scan("a", 1), slices.Repeat([]api.Cond{as(0, 1, 0)}, n)...)
	checkKey(t, conds, "where "+strconv.Itoa(n)+strings.Repeat(" 0 1 0", n)+" scan a 1")
	conds.Conds[n-1].Right = 1
	checkWrong(t, "conds", conds)
	many := slices.Repeat([]*api.Node{once(scan("a", 1)), nil, once(nil)}, n)
	if len(Parts(many...)) != 2 || len(Scans(many...)) != 1 {
		t.Error(Parts(many...))
	}
}
