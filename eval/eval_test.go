package eval

import (
	"math"
	"slices"
	"strconv"
	"strings"
	"testing"

	"verderer/api"
	"verderer/plan"
	"verderer/row"
	"verderer/shape"
	"verderer/value"
)

const most = api.MaxCount

// node answers the plan of a key.
func node(t *testing.T, key string) *api.Node {
	t.Helper()
	n, why := shape.Read(key)
	if why != api.OK {
		t.Fatal("no key:", key)
	}
	return n
}

// cells answers the row of values' words with blanks between.
func cells(t *testing.T, words string) []api.Value {
	t.Helper()
	var r []api.Value
	for _, w := range strings.Fields(words) {
		v, why := value.Read(w)
		if why != api.OK {
			t.Fatal("no value:", w)
		}
		r = append(r, v)
	}
	return r
}

// rows answers entries, each written as its values, or as these behind how often they are there, and a colon.
func rows(t *testing.T, l ...string) []api.Entry {
	t.Helper()
	var out []api.Entry
	for _, s := range l {
		e := api.Entry{Many: 1}
		if many, rest, counted := strings.Cut(s, ":"); counted {
			n, err := strconv.ParseInt(many, 10, 64)
			if err != nil {
				t.Fatal(err)
			}
			e.Many, s = n, rest
		}
		e.Row = cells(t, s)
		out = append(out, e)
	}
	return out
}

// numbers answers the rows of one Int, each once, of the numbers from one on.
func numbers(from, many int) []api.Entry {
	var out []api.Entry
	for i := range many {
		out = append(out, api.Entry{Row: row.Of(value.Int(int64(from + i))), Many: 1})
	}
	return out
}

func rel(name string, l ...api.Entry) Rel { return Rel{Name: name, Rows: l} }

func sameEntry(a, b api.Entry) bool { return a.Many == b.Many && slices.Equal(a.Row, b.Row) }

func sameEntries(a, b []api.Entry) bool { return slices.EqualFunc(a, b, sameEntry) }

func checkTold(t *testing.T, key string, want []api.Entry, base ...Rel) {
	t.Helper()
	got, why := Eval(node(t, key), base...)
	if why != api.OK || !sameEntries(got, want) {
		t.Errorf("Eval(%s): %v, %v, not %v", key, got, why, want)
	}
}

func checkRefused(t *testing.T, key string, want api.Errno, base ...Rel) {
	t.Helper()
	if got, why := Eval(node(t, key), base...); len(got) != 0 || why != want {
		t.Errorf("Eval(%s): %d rows, %v, not %v", key, len(got), why, want)
	}
}

func pods(t *testing.T) []Rel {
	return []Rel{
		rel("pod", rows(t, `"b" "x" 7`, `2:"a" "y" 3`, `"a" "x" 5`, `"a" "z" null`)...),
		rel("tenant", rows(t, `"a" ""`, `3:"b" "a"`)...),
	}
}

// P19.1: each kind of node.
func TestKinds(t *testing.T) {
	for key, want := range map[string][]api.Entry{
		"scan pod 3":    rows(t, `"a" "x" 5`, `2:"a" "y" 3`, `"a" "z" null`, `"b" "x" 7`),
		"scan tenant 2": rows(t, `"a" ""`, `3:"b" "a"`),
		"scan none 3":   nil,
		"where 1 2 5 -1 038000000000000003 scan pod 3":       rows(t, `"a" "x" 5`, `"b" "x" 7`),
		"where 1 2 6 -1 038000000000000003 scan pod 3":       rows(t, `"a" "x" 5`, `2:"a" "y" 3`, `"b" "x" 7`),
		"where 1 2 1 -1 01 scan pod 3":                       rows(t, `"a" "z" null`),
		"where 1 0 3 1 scan pod 3":                           rows(t, `"a" "x" 5`, `2:"a" "y" 3`, `"a" "z" null`, `"b" "x" 7`),
		"where 2 0 1 -1 04610001 1 2 -1 04780001 scan pod 3": rows(t, `2:"a" "y" 3`, `"a" "z" null`),
		"where 2 0 1 0 -1 1 -1 01 scan pod 3":                nil,
		"where 1 -1 1 -1 01 scan pod 3":                      nil,
		"meet 1 0 0 scan pod 3 scan tenant 2":                rows(t, `"a" "x" 5 "a" ""`, `2:"a" "y" 3 "a" ""`, `"a" "z" null "a" ""`, `3:"b" "x" 7 "b" "a"`),
		"meet 1 0 1 scan pod 3 scan tenant 2":                rows(t, `3:"a" "x" 5 "b" "a"`, `6:"a" "y" 3 "b" "a"`, `3:"a" "z" null "b" "a"`),
		"meet 2 0 0 0 1 scan pod 3 scan tenant 2":            nil,
		"meet 0 scan tenant 2 scan tenant 2":                 rows(t, `"a" "" "a" ""`, `3:"a" "" "b" "a"`, `3:"b" "a" "a" ""`, `9:"b" "a" "b" "a"`),
		"meet 0 scan none 2 scan tenant 2":                   nil,
		"meet 0 scan tenant 2 scan none 2":                   nil,
		"miss 1 0 0 scan pod 3 scan tenant 2":                nil,
		"miss 1 0 1 scan pod 3 scan tenant 2":                rows(t, `"b" "x" 7`),
		"miss 1 1 0 scan pod 3 scan tenant 2":                rows(t, `"a" "x" 5`, `2:"a" "y" 3`, `"a" "z" null`, `"b" "x" 7`),
		"miss 0 scan pod 3 scan tenant 2":                    nil,
		"miss 0 scan pod 3 scan none 2":                      rows(t, `"a" "x" 5`, `2:"a" "y" 3`, `"a" "z" null`, `"b" "x" 7`),
		"miss 0 scan none 3 scan tenant 2":                   nil,
		"take 1 0 scan pod 3":                                rows(t, `4:"a"`, `"b"`),
		"take 2 1 0 scan pod 3":                              rows(t, `"x" "a"`, `"x" "b"`, `2:"y" "a"`, `"z" "a"`),
		"take 3 0 0 0 scan tenant 2":                         rows(t, `"a" "a" "a"`, `3:"b" "b" "b"`),
		"once scan pod 3":                                    rows(t, `"a" "x" 5`, `"a" "y" 3`, `"a" "z" null`, `"b" "x" 7`),
		"once take 1 0 scan pod 3":                           rows(t, `"a"`, `"b"`),
		"once once take 1 0 scan pod 3":                      rows(t, `"a"`, `"b"`),
		"once scan none 3":                                   nil,
		"group 0 1 0 scan pod 3":                             rows(t, `5`),
		"group 0 1 0 scan none 3":                            nil,
		"group 1 0 1 0 scan pod 3":                           rows(t, `"a" 4`, `"b" 1`),
		"group 1 0 2 2 scan pod 3":                           rows(t, `"a" 11`, `"b" 7`),
		"group 0 2 0 scan pod 3":                             rows(t, `0`),
		"group 1 0 3 2 scan pod 3":                           rows(t, `"a" null`, `"b" 7`),
		"group 1 0 4 2 scan pod 3":                           rows(t, `"a" 5`, `"b" 7`),
		"group 1 1 3 0 scan pod 3":                           rows(t, `"x" "a"`, `"y" "a"`, `"z" "a"`),
		"group 3 1 1 0 1 0 scan pod 3":                       rows(t, `"x" "x" "a" 1`, `"x" "x" "b" 1`, `"y" "y" "a" 2`, `"z" "z" "a" 1`),
		"group 0 1 0 once scan pod 3":                        rows(t, `4`),
	} {
		checkTold(t, key, want, pods(t)...)
	}
}

// The example of chapter 19.
func TestExample(t *testing.T) {
	l := rows(t, `"a" "x" 1 2 3`, `"a" "y" 1 2 3`)
	checkTold(t, "group 0 1 0 scan pod 5", rows(t, "2"), rel("pod", l...))
}

// P19.1: a plan of a deny rule, and one of a quota, as chapter 17 compiles them.
func TestWhole(t *testing.T) {
	big := "once take 1 0 where 1 2 5 -1 038000000000000003 scan pod 3"
	checkTold(t, big, rows(t, `"a"`, `"b"`), pods(t)...)
	checkTold(t, "group 1 4 2 2 meet 1 0 0 scan pod 3 scan tenant 2", rows(t, `"" 11`, `"a" 21`), pods(t)...)
	checkTold(t, "once take 1 0 miss 1 0 0 scan tenant 2 "+big, nil, pods(t)...)
	checkTold(t, "once take 1 1 miss 1 1 0 scan tenant 2 "+big, rows(t, `""`), pods(t)...)
	// What stands in a plan more than once tells the same there.
	checkTold(t, "meet 1 0 0 "+big+" "+big, rows(t, `"a" "a"`, `"b" "b"`), pods(t)...)
}

// P19.1: relations.
func TestRelations(t *testing.T) {
	// Of several of one name the first, also if it has no rows, or the other one has rows that can not be.
	wrong := rel("a", api.Entry{})
	checkTold(t, "scan a 1", rows(t, "1"), rel("b", rows(t, "3")...), rel("a", rows(t, "1")...), rel("a", rows(t, "2")...), wrong)
	checkTold(t, "scan a 1", nil, rel("a"), rel("a", rows(t, "2")...))
	checkRefused(t, "scan a 1", api.ErrArg, wrong, rel("a", rows(t, "2")...))
	// None of one that is not there, and none at all.
	for _, base := range [][]Rel{nil, {}, {rel("b", rows(t, "1")...)}, {rel("")}, {rel("A", rows(t, "1")...), rel("a ", rows(t, "1")...), rel("aa", rows(t, "1")...)}} {
		checkTold(t, "scan a 1", nil, base...)
		checkTold(t, "group 0 1 0 scan a 1", nil, base...)
	}
	// What is not asked may be anything.
	checkTold(t, "scan a 1", rows(t, "1"), rel("", api.Entry{}), rel("b", api.Entry{}), rel("a", rows(t, "1")...), rel(strings.Repeat("x", 1<<16), rows(t, "0:1")...))
	// A row that stands there more than once is there as often as they say together; rows are in order, however they were handed in.
	checkTold(t, "scan a 1", rows(t, "2:null", "9:1", "2"), rel("a", rows(t, "2", "4:1", "null", "5:1", "null")...))
	checkTold(t, "once scan a 1", rows(t, "null", "1", "2"), rel("a", rows(t, "2", "4:1", "null", "5:1", "null")...))
	// One relation may be asked as often as there are plans, but of rows of other widths there can be none.
	checkTold(t, "meet 0 scan a 1 scan a 2", nil, rel("a"))
	checkRefused(t, "meet 0 scan a 1 scan a 2", api.ErrArg, rel("a", rows(t, "1")...))
}

// P19.1: rows of relations that can not be.
func TestWrongRows(t *testing.T) {
	long := value.Text(strings.Repeat("x", api.MaxText+1))
	ok := rows(t, "1", "2")
	for i, e := range []api.Entry{
		{}, {Many: 1}, {Row: row.Of(value.Int(1))}, {Row: row.Of(value.Int(1)), Many: -1}, {Row: row.Of(value.Int(1)), Many: most + 1},
		{Row: row.Of(value.Int(1)), Many: math.MaxInt64}, {Row: row.Of(value.Int(1)), Many: math.MinInt64},
		{Row: []api.Value{}, Many: 1}, {Row: row.Of(value.Int(1), value.Int(1)), Many: 1}, {Row: make([]api.Value, 1<<16), Many: 1},
		{Row: row.Of(long), Many: 1}, {Row: []api.Value{{Kind: 4}}, Many: 1}, {Row: []api.Value{{Kind: -1}}, Many: 1}, {Row: []api.Value{{Int: 1}}, Many: 1}, {Row: []api.Value{{Kind: api.Int, Text: "x"}}, Many: 1},
	} {
		for _, l := range [][]api.Entry{{e}, {ok[0], ok[1], e}, {e, ok[0]}, {ok[0], e, e, ok[1]}} {
			checkRefused(t, "scan a 1", api.ErrArg, rel("a", l...))
			checkRefused(t, "once where 1 -1 1 -1 01 scan a 1", api.ErrArg, rel("a", l...))
			if got, why := Eval(node(t, "miss 0 scan b 1 scan a 1"), rel("a", l...)); len(got) != 0 || why != api.ErrArg {
				t.Error(i, got, why)
			}
		}
	}
	checkTold(t, "scan a 40", []api.Entry{{Row: make([]api.Value, 40), Many: most}}, rel("a", api.Entry{Row: make([]api.Value, 40), Many: most}))
	checkRefused(t, "scan a 39", api.ErrArg, rel("a", api.Entry{Row: make([]api.Value, 40), Many: 1}))
	checkRefused(t, "scan a 40", api.ErrArg, rel("a", api.Entry{Row: make([]api.Value, 41), Many: 1}))
}

// P19.1: plans that can not be; this is told ahead of all else.
func TestWrongPlans(t *testing.T) {
	a := node(t, "scan a 2")
	deep := a
	for range 400 {
		deep = &api.Node{Kind: api.Once, Left: deep}
	}
	for i, n := range []*api.Node{
		nil, {}, {Kind: 8}, {Kind: -1, Left: a}, {Kind: api.Scan, Name: "A", Wide: 1}, {Kind: api.Scan, Name: "a"}, {Kind: api.Scan, Name: "a", Wide: 41}, {Kind: api.Scan, Name: "a", Wide: 2, Left: a},
		{Kind: api.Where, Left: a}, {Kind: api.Where, Conds: []api.Cond{{Left: 2, Op: 1}}, Left: a}, {Kind: api.Where, Conds: []api.Cond{{Op: 1}}},
		{Kind: api.Meet, Left: a}, {Kind: api.Miss, Right: a}, {Kind: api.Meet, Pairs: []api.Pair{{Left: 2}}, Left: a, Right: a}, {Kind: api.Meet, Left: a, Right: node(t, "scan b 39")},
		{Kind: api.Take, Left: a}, {Kind: api.Take, Cols: []int{-1}, Left: a}, {Kind: api.Take, Cols: []int{math.MaxInt}, Left: a}, {Kind: api.Once}, {Kind: api.Once, Left: &api.Node{}},
		{Kind: api.Group, Left: a}, {Kind: api.Group, Agg: 5, Left: a}, {Kind: api.Group, Agg: 1, Of: 1, Left: a}, {Kind: api.Group, Agg: 2, Of: 2, Left: a}, {Kind: api.Group, Agg: 1, Cols: []int{2}, Left: a}, deep,
	} {
		for _, base := range [][]Rel{nil, {rel("a", rows(t, "1 2")...)}, {rel("a", numbers(0, 1501)...)}} {
			if got, why := Eval(n, base...); len(got) != 0 || why != api.ErrArg {
				t.Error(i, got, why)
			}
		}
	}
	if got, why := Eval(deep.Left, rel("a", rows(t, "5:1 2")...)); why != api.OK || !sameEntries(got, rows(t, "1 2")) {
		t.Error("400 nodes", got, why)
	}
}

// P19.1: as many rows as a part may have, and one more.
func TestFull(t *testing.T) {
	for _, x := range []struct {
		key  string
		a, b int
		many int
		why  api.Errno
	}{
		{"scan a 1", 1500, 0, 1500, api.OK},
		{"scan a 1", 1501, 0, 0, api.ErrFull},
		{"scan b 1", 1501, 3, 3, api.OK},
		{"once where 1 -1 1 -1 01 scan a 1", 1501, 0, 0, api.ErrFull},
		{"group 0 1 0 scan a 1", 1501, 0, 0, api.ErrFull},
		{"group 0 1 0 scan a 1", 1500, 0, 1, api.OK},
		{"group 1 0 1 0 scan a 1", 1500, 0, 1500, api.OK},
		{"take 1 0 scan a 1", 1500, 0, 1500, api.OK},
		{"meet 0 scan a 1 scan b 1", 30, 50, 1500, api.OK},
		{"meet 0 scan a 1 scan b 1", 50, 30, 1500, api.OK},
		{"meet 0 scan a 1 scan b 1", 1500, 1, 1500, api.OK},
		{"meet 0 scan a 1 scan b 1", 1, 1500, 1500, api.OK},
		{"meet 0 scan a 1 scan b 1", 19, 79, 0, api.ErrFull},
		{"meet 0 scan a 1 scan b 1", 79, 19, 0, api.ErrFull},
		{"meet 0 scan a 1 scan b 1", 1500, 2, 0, api.ErrFull},
		{"meet 0 scan a 1 scan b 1", 2, 1500, 0, api.ErrFull},
		{"meet 0 scan a 1 scan b 1", 1500, 1500, 0, api.ErrFull},
		{"meet 1 0 0 scan a 1 scan b 1", 1500, 1500, 1500, api.OK},
		{"once take 1 0 meet 0 scan a 1 scan b 1", 2, 751, 0, api.ErrFull},
		{"where 1 -1 1 -1 01 meet 0 scan a 1 scan b 1", 2, 751, 0, api.ErrFull},
		{"miss 0 scan b 1 scan a 1", 1500, 1500, 0, api.OK},
		{"miss 0 scan a 1 scan b 1", 1500, 0, 1500, api.OK},
		{"miss 0 scan b 1 scan a 1", 1501, 0, 0, api.ErrFull},
	} {
		got, why := Eval(node(t, x.key), rel("a", numbers(0, x.a)...), rel("b", numbers(0, x.b)...))
		if len(got) != x.many || why != x.why {
			t.Error(x, len(got), why)
		}
	}
	// Unlike rows are what is counted, not how often they are there.
	l := slices.Concat(numbers(0, 1500), numbers(0, 1500), numbers(700, 100))
	if got, why := Eval(node(t, "scan a 1"), rel("a", l...)); why != api.OK || len(got) != 1500 || got[0].Many != 2 || got[700].Many != 3 {
		t.Error(len(got), why)
	}
}

// P19.1: as often as a row may be there, and once more.
func TestOver(t *testing.T) {
	for _, x := range []struct {
		key  string
		a, b []string
		want []string
		why  api.Errno
	}{
		{"scan a 1", []string{"1073741824:1"}, nil, []string{"1073741824:1"}, api.OK},
		{"scan a 1", []string{"1:2", "1073741823:1", "1:1"}, nil, []string{"1073741824:1", "2"}, api.OK},
		{"scan a 1", []string{"1073741824:1", "1:1"}, nil, nil, api.ErrOver},
		{"once scan a 1", []string{"1:1", "1073741824:1"}, nil, nil, api.ErrOver},
		{"meet 0 scan a 1 scan b 1", []string{"32768:1"}, []string{"32768:2"}, []string{"1073741824:1 2"}, api.OK},
		{"meet 0 scan a 1 scan b 1", []string{"1073741824:1"}, []string{"1:2"}, []string{"1073741824:1 2"}, api.OK},
		{"meet 0 scan a 1 scan b 1", []string{"32769:1"}, []string{"32768:2"}, nil, api.ErrOver},
		{"meet 0 scan a 1 scan b 1", []string{"1073741824:1"}, []string{"1073741824:2"}, nil, api.ErrOver},
		{"meet 0 scan a 1 scan b 1", []string{"2:0", "1:1"}, []string{"1:2", "1073741824:7"}, nil, api.ErrOver},
		{"meet 1 0 0 scan a 1 scan b 1", []string{"1073741824:1"}, []string{"1073741824:2"}, nil, api.OK},
		{"once meet 0 scan a 1 scan b 1", []string{"1073741824:1"}, []string{"2:2"}, nil, api.ErrOver},
		{"miss 1 0 0 scan a 1 scan b 1", []string{"1073741824:1"}, []string{"1073741824:2"}, []string{"1073741824:1"}, api.OK},
		{"take 1 0 scan a 2", []string{"1073741823:1 1", "1 2"}, nil, []string{"1073741824:1"}, api.OK},
		{"take 1 0 scan a 2", []string{"1073741823:1 1", "2:1 2"}, nil, nil, api.ErrOver},
		{"take 1 1 scan a 2", []string{"1073741823:1 1", "2:1 2"}, nil, []string{"1073741823:1", "2:2"}, api.OK},
		{"once take 1 0 scan a 2", []string{"1073741824:1 1", "1 2"}, nil, nil, api.ErrOver},
		{"take 1 0 once scan a 2", []string{"1073741824:1 1", "1073741824:1 2"}, nil, []string{"2:1"}, api.OK},
		{"group 0 1 0 scan a 1", []string{"1073741823:1", "2"}, nil, []string{"1073741824"}, api.OK},
		{"group 0 1 0 scan a 1", []string{"1073741823:1", "2:2"}, nil, nil, api.ErrOver},
		{"group 1 0 1 0 scan a 1", []string{"1073741824:1", "1073741824:2"}, nil, []string{"1 1073741824", "2 1073741824"}, api.OK},
		{"group 0 2 0 scan a 1", []string{"9223372036854775806", "1"}, nil, []string{"9223372036854775807"}, api.OK},
		{"group 0 2 0 scan a 1", []string{"9223372036854775807", "1"}, nil, nil, api.ErrOver},
		{"group 0 2 0 scan a 1", []string{"9223372036854775807", "1", "-1"}, nil, []string{"9223372036854775807"}, api.OK},
		{"group 0 2 0 scan a 1", []string{"-9223372036854775808", "null", `"x"`}, nil, []string{"-9223372036854775808"}, api.OK},
		{"group 0 2 0 scan a 1", []string{"-9223372036854775808", "-1"}, nil, nil, api.ErrOver},
		{"group 0 2 0 scan a 1", []string{"2:4611686018427387904"}, nil, nil, api.ErrOver},
		{"group 0 2 0 scan a 1", []string{"2:-4611686018427387904"}, nil, []string{"-9223372036854775808"}, api.OK},
		{"group 0 2 0 scan a 1", []string{"1073741824:9223372036854775807"}, nil, nil, api.ErrOver},
		{"group 0 3 0 scan a 1", []string{"1073741824:9223372036854775807", "1073741824:3"}, nil, []string{"3"}, api.OK},
		{"group 1 0 2 1 scan a 2", []string{"1 5", "2 9223372036854775807", "2 1"}, nil, nil, api.ErrOver},
	} {
		base := []Rel{rel("a", rows(t, x.a...)...), rel("b", rows(t, x.b...)...)}
		if x.why == api.OK {
			checkTold(t, x.key, rows(t, x.want...), base...)
		} else {
			checkRefused(t, x.key, x.why, base...)
		}
	}
}

// P19.1: the error of the first part that has one; within a Scan that of its first row, then ErrFull; of all others ErrFull first.
func TestFirstError(t *testing.T) {
	wrong, over, full := rows(t, "1:"), rows(t, "1073741824:5", "5"), numbers(0, 1501)
	for _, x := range []struct {
		key  string
		a, b []api.Entry
		why  api.Errno
	}{
		{"scan a 1", slices.Concat(over, wrong), nil, api.ErrOver},
		{"scan a 1", slices.Concat(wrong, over), nil, api.ErrArg},
		{"scan a 1", slices.Concat(over[:1], wrong, over[1:]), nil, api.ErrArg},
		{"scan a 1", slices.Concat(full, wrong), nil, api.ErrArg},
		{"scan a 1", slices.Concat(full, over), nil, api.ErrOver},
		{"scan a 1", slices.Concat(over, full), nil, api.ErrOver},
		// A row that can not be, though it would be there too often as well.
		{"scan a 1", slices.Concat(over[:1], rows(t, "1073741825:5")), nil, api.ErrArg},
		{"meet 0 scan a 1 scan b 1", wrong, over, api.ErrArg},
		{"meet 0 scan a 1 scan b 1", over, wrong, api.ErrOver},
		{"meet 0 scan a 1 scan b 1", full, wrong, api.ErrFull},
		{"miss 0 scan a 1 scan b 1", full, over, api.ErrFull},
		{"meet 0 scan b 1 scan a 1", full, wrong, api.ErrArg},
		{"meet 0 once scan a 1 once scan b 1", full, wrong, api.ErrFull},
		{"meet 0 group 0 1 0 scan a 1 scan b 1", rows(t, "1073741824:5", "6"), wrong, api.ErrOver},
		{"meet 0 group 0 1 0 scan a 1 scan b 1", rows(t, "1073741824:5", "6"), full, api.ErrOver},
		{"meet 0 scan b 1 group 0 1 0 scan a 1", rows(t, "1073741824:5", "6"), full, api.ErrFull},
		// The part was there already, ahead of the one that is refused first here.
		{"meet 0 scan b 1 meet 0 group 0 1 0 scan a 1 scan b 1", rows(t, "1073741824:5", "6"), full, api.ErrFull},
		// A Meet is too full, whatever of its rows is there too often.
		{"meet 0 scan a 1 scan b 1", rows(t, "1073741824:5", "6"), slices.Concat(rows(t, "2:-1"), numbers(0, 1500)[:1499]), api.ErrFull},
		{"meet 0 scan b 1 scan a 1", rows(t, "1073741824:5", "6"), slices.Concat(rows(t, "2:-1"), numbers(0, 1500)[:1499]), api.ErrFull},
		{"meet 0 scan a 1 scan b 1", rows(t, "1073741824:5"), slices.Concat(rows(t, "2:-1"), numbers(0, 1500)[:1499]), api.ErrOver},
	} {
		checkRefused(t, x.key, x.why, rel("a", x.a...), rel("b", x.b...))
	}
}

// P19.2
func TestFold(t *testing.T) {
	for _, x := range []struct {
		agg, of int
		l       []string
		want    string
		why     api.Errno
	}{
		{api.Count, 0, []string{"5"}, "1", api.OK},
		{api.Count, 0, []string{"3:5", "5", "7:true null"}, "11", api.OK},
		{api.Count, 9, []string{"3:5", "2:"}, "5", api.OK},
		{api.Count, math.MinInt, []string{""}, "1", api.OK},
		{api.Count, math.MaxInt, []string{"1073741824:"}, "1073741824", api.OK},
		{api.Count, 0, []string{"1073741823:1", "1:2"}, "1073741824", api.OK},
		{api.Count, 0, []string{"1073741824:1", "1:2"}, "", api.ErrOver},
		{api.Count, 0, []string{"1073741824:1", "1073741824:2", "1073741824:3"}, "", api.ErrOver},
		{api.Sum, 0, []string{"5"}, "5", api.OK},
		{api.Sum, 1, []string{"1 5", "3:1 -7", "2:1 0"}, "-16", api.OK},
		{api.Sum, 0, []string{"null", "true", `"5"`, "4:2"}, "8", api.OK},
		{api.Sum, 0, []string{"null"}, "0", api.OK},
		{api.Sum, 0, []string{"1073741824:8589934591"}, "9223372035781033984", api.OK},
		{api.Sum, 0, []string{"1073741824:8589934592"}, "", api.ErrOver},
		{api.Sum, 0, []string{"1073741824:-8589934592"}, "-9223372036854775808", api.OK},
		{api.Sum, 0, []string{"1073741824:-8589934592", "-1"}, "", api.ErrOver},
		{api.Sum, 0, []string{"9223372036854775807", "5", "-6", "1"}, "9223372036854775807", api.OK},
		{api.Sum, 0, []string{"9223372036854775807", "9223372036854775807", "2:-9223372036854775808", "2"}, "0", api.OK},
		{api.Least, 0, []string{"3"}, "3", api.OK},
		{api.Least, 0, []string{"3", "5:2", "9"}, "2", api.OK},
		{api.Least, 1, []string{`9 "b"`, `9 "a"`, `1 "aa"`, `1 true`}, "true", api.OK},
		{api.Least, 0, []string{`""`, "-9223372036854775808", "false", "null"}, "null", api.OK},
		{api.Most, 0, []string{"3"}, "3", api.OK},
		{api.Most, 0, []string{"3", "5:2", "9", "1073741824:8"}, "9", api.OK},
		{api.Most, 1, []string{`9 "b"`, `9 "a"`, `1 "ba"`, `1 true`}, `"ba"`, api.OK},
		{api.Most, 0, []string{"null", "false", "-5"}, "-5", api.OK},
		{api.Most, 0, []string{"null", "false"}, "false", api.OK},
	} {
		got, why := Fold(x.agg, x.of, rows(t, x.l...)...)
		if want := append(cells(t, x.want), api.Value{})[0]; got != want || why != x.why {
			t.Error(x, got, why)
		}
	}
}

// P19.2: what can not be folded.
func TestFoldRefuses(t *testing.T) {
	for agg := -1; agg <= 6; agg++ {
		for _, of := range []int{0, -1, 1, math.MaxInt, math.MinInt} {
			for _, l := range [][]api.Entry{nil, {}} {
				if got, why := Fold(agg, of, l...); got != value.Null() || why != api.ErrNone {
					t.Error("of none", agg, of, got, why)
				}
			}
			known := agg >= api.Count && agg <= api.Most
			for many, bad := range map[int64]bool{0: true, -1: true, most + 1: true, math.MaxInt64: true, math.MinInt64: true, 1: false, most: false} {
				want := api.OK
				if bad || !known || agg != api.Count && of != 0 {
					want = api.ErrArg
				}
				for _, l := range [][]api.Entry{{{Row: cells(t, "0"), Many: many}}, {{Row: cells(t, "0"), Many: many}, {Row: cells(t, "0"), Many: many}}} {
					expected := want
					if agg == api.Count && many == most && len(l) == 2 {
						expected = api.ErrOver
					}
					if got, why := Fold(agg, of, l...); why != expected || why != api.OK && got != value.Null() {
						t.Error(agg, of, many, got, why)
					}
				}
			}
		}
	}
	// A row without such a cell, or that can not be there so often, is told ahead of a sum that does not fit.
	for _, agg := range []int{api.Sum, api.Least, api.Most, 5, 0} {
		for _, last := range []string{"", "0:1", "-1:1", "1073741825:1"} {
			if got, why := Fold(agg, 0, rows(t, "9223372036854775807", "1", last)...); got != value.Null() || why != api.ErrArg {
				t.Error(agg, last, got, why)
			}
		}
	}
	for _, last := range []string{"0:1", "-1:1", "1073741825:1"} {
		if got, why := Fold(api.Count, 0, rows(t, "1073741824:1", "1", last)...); got != value.Null() || why != api.ErrArg {
			t.Error(last, got, why)
		}
	}
}

// P19.2: rows may have cells that can not be; of several whose Compare is 0 that of the first row is told.
func TestFoldOdd(t *testing.T) {
	odd := func(n int64, s string) api.Entry {
		return api.Entry{Row: row.Of(api.Value{Kind: api.Int, Int: n, Text: s}), Many: 1}
	}
	l := []api.Entry{odd(2, "a"), odd(1, "b"), odd(1, "c"), odd(2, "d"), odd(1, "")}
	for agg, want := range map[int]api.Value{api.Least: l[1].Row[0], api.Most: l[0].Row[0], api.Count: value.Int(5), api.Sum: value.Int(7)} {
		if got, why := Fold(agg, 0, l...); got != want || why != api.OK {
			t.Error(agg, got, why)
		}
	}
	// What is not of Kind Int is no Int, whatever it has.
	none := []api.Entry{{Row: []api.Value{{Int: 7}}, Many: 1}, {Row: []api.Value{{Kind: 9, Int: 7}}, Many: 1}, {Row: []api.Value{{Kind: api.Text, Int: 7}}, Many: 1}}
	if got, why := Fold(api.Sum, 0, none...); got != value.Int(0) || why != api.OK {
		t.Error(got, why)
	}
	if got, why := Fold(api.Most, 0, none...); got != none[1].Row[0] || why != api.OK {
		t.Error(got, why)
	}
}

// P19.2
func TestHolds(t *testing.T) {
	r := cells(t, `5 null "a" 5 7`)
	is := func(left, op int, v api.Value) api.Cond { return api.Cond{Left: left, Op: op, Right: -1, Val: v} }
	as := func(left, op, right int) api.Cond {
		return api.Cond{Left: left, Op: op, Right: right, Val: value.Int(5)}
	}
	for _, x := range []struct {
		c    api.Cond
		want bool
	}{
		{is(0, api.Eq, value.Int(5)), true}, {is(0, api.Eq, value.Int(6)), false}, {is(0, api.Ne, value.Int(6)), true}, {is(0, api.Ne, value.Int(5)), false},
		{is(0, api.Lt, value.Int(6)), true}, {is(0, api.Lt, value.Int(5)), false}, {is(0, api.Le, value.Int(5)), true}, {is(0, api.Le, value.Int(4)), false},
		{is(0, api.Gt, value.Int(4)), true}, {is(0, api.Gt, value.Int(5)), false}, {is(0, api.Ge, value.Int(5)), true}, {is(0, api.Ge, value.Int(6)), false},
		{is(1, api.Eq, value.Null()), true}, {is(1, api.Lt, value.Int(math.MinInt64)), true}, {is(2, api.Gt, value.Int(math.MaxInt64)), true}, {is(2, api.Eq, value.Text("a")), true},
		{is(0, 0, value.Int(5)), false}, {is(0, 7, value.Int(5)), false}, {is(0, -1, value.Int(5)), false}, {is(0, math.MinInt, value.Int(5)), false},
		{is(-1, api.Eq, value.Null()), false}, {is(5, api.Ne, value.Int(5)), false}, {is(math.MaxInt, api.Eq, value.Null()), false}, {is(math.MinInt, api.Eq, value.Null()), false}, {is(-2, api.Ne, value.Null()), false},
		{as(0, api.Eq, 3), true}, {as(0, api.Eq, 0), true}, {as(0, api.Eq, 4), false}, {as(0, api.Lt, 4), true}, {as(4, api.Lt, 0), false}, {as(4, api.Gt, 0), true}, {as(1, api.Le, 2), true}, {as(3, api.Ge, 0), true}, {as(3, api.Ne, 0), false},
		{as(0, 0, 3), false}, {as(0, 7, 3), false}, {as(0, api.Eq, 5), false}, {as(0, api.Ne, 5), false}, {as(0, api.Ne, math.MaxInt), false}, {as(5, api.Ne, 0), false}, {as(-1, api.Eq, -1), false}, {as(-1, api.Ne, 0), false},
		// Any Right below 0 asks the value.
		{as(0, api.Eq, -2), true}, {as(0, api.Eq, math.MinInt), true}, {as(4, api.Eq, math.MinInt), false}, {as(4, api.Ne, -7), true},
	} {
		if got := Holds(r, x.c); got != x.want {
			t.Error(x.c, got)
		}
		// All of them must hold.
		yes, no := is(0, api.Eq, value.Int(5)), is(0, api.Eq, value.Int(6))
		if Holds(r, yes, x.c) != x.want || Holds(r, x.c, yes) != x.want || Holds(r, x.c, x.c, yes, x.c) != x.want || Holds(r, x.c, no) || Holds(r, no, x.c) {
			t.Error("of several", x.c)
		}
		if Holds(nil, x.c) || Holds([]api.Value{}, x.c) {
			t.Error("of no cells", x.c)
		}
	}
	if !Holds(r) || !Holds(nil) || !Holds(nil, []api.Cond{}...) {
		t.Error("no conditions")
	}
	if Holds(nil, api.Cond{}) || Holds(r, api.Cond{}) {
		t.Error("no operation")
	}
	// Values that can not be are compared, too.
	if !Holds([]api.Value{{Kind: 9, Int: 3}}, is(0, api.Eq, api.Value{Kind: 9})) || !Holds([]api.Value{{Kind: -1}}, is(0, api.Lt, value.Null())) {
		t.Error("values that can not be")
	}
}

// P19.3: with its sides turned a Meet tells the same, but for the columns.
func TestTurned(t *testing.T) {
	base := pods(t)
	for _, x := range [][2]string{
		{"meet 1 0 0 scan pod 3 scan tenant 2", "take 5 2 3 4 0 1 meet 1 0 0 scan tenant 2 scan pod 3"},
		{"meet 0 scan pod 3 scan tenant 2", "take 5 2 3 4 0 1 meet 0 scan tenant 2 scan pod 3"},
		{"meet 2 0 1 1 0 scan pod 3 scan tenant 2", "take 5 2 3 4 0 1 meet 2 1 0 0 1 scan tenant 2 scan pod 3"},
		{"meet 1 0 0 scan pod 3 scan pod 3", "take 6 3 4 5 0 1 2 meet 1 0 0 scan pod 3 scan pod 3"},
		{"once scan pod 3", "once once once scan pod 3"},
	} {
		a, why := Eval(node(t, x[0]), base...)
		if why != api.OK {
			t.Error(x, why)
		}
		checkTold(t, x[1], a, base...)
	}
}

// Rules 4 and 5: nothing that is handed in is changed, and no row that is answered is that of an argument, of another row, or of another answer.
func TestNothingShared(t *testing.T) {
	for _, key := range []string{"scan pod 3", "where 1 0 1 0 scan pod 3", "meet 0 scan pod 3 scan tenant 2", "miss 0 scan pod 3 scan none 2", "take 3 0 1 2 scan pod 3", "once scan pod 3", "group 2 0 1 1 0 scan pod 3", "take 6 0 1 2 0 1 2 once scan pod 3"} {
		for times := 1; times <= 2; times++ {
			// One slice may stand in more than one entry, and have room behind it.
			shared := append(make([]api.Value, 0, 8), cells(t, `"c" "c" 1`)...)
			base := pods(t)
			base[0].Rows = append(base[0].Rows, slices.Repeat([]api.Entry{{Row: shared, Many: 1}}, times)...)
			checkApart(t, key, base)
			if !slices.Equal(shared[:8][3:], make([]api.Value, 5)) {
				t.Error(key, "behind a row")
			}
		}
	}
	conds := []api.Cond{{Op: api.Ne, Right: -1}}
	l := rows(t, "1 2", "3 4")
	Holds(l[0].Row, conds...)
	for agg := api.Count; agg <= api.Most; agg++ {
		Fold(agg, 1, l...)
	}
	if conds[0] != (api.Cond{Op: api.Ne, Right: -1}) || !sameEntries(l, rows(t, "1 2", "3 4")) {
		t.Error("conditions, rows")
	}
}

// checkApart writes into an answer, then into what was handed in, and looks at all else.
func checkApart(t *testing.T, key string, base []Rel) {
	t.Helper()
	n := node(t, key)
	before := slices.Clone(base[0].Rows)
	for i := range before {
		before[i].Row = slices.Clone(before[i].Row)
	}
	got, _ := Eval(n, base...)
	want, why := Eval(n, base...)
	if why != api.OK || len(want) == 0 || !sameEntries(got, want) {
		t.Fatal(key, got, want, why)
	}
	for i := range got {
		_ = append(got[i].Row, value.Bool(true), value.Bool(true), value.Bool(true))
		clear(got[i].Row)
		got[i].Many = 99
		for k := i + 1; k < len(got); k++ {
			if !sameEntry(got[k], want[k]) {
				t.Fatal(key, "rows share", i, k)
			}
		}
	}
	_ = append(got[:0], api.Entry{})
	if shape.Key(n) != key || !sameEntries(base[0].Rows, before) {
		t.Error(key, "changed")
	}
	checkTold(t, key, want, base...)
	again, _ := Eval(n, base...)
	for i := range base[0].Rows {
		clear(base[0].Rows[i].Row)
	}
	if !sameEntries(again, want) {
		t.Error(key, "kept")
	}
}

// P6: it ends soon, of great plans and of many rows.
func TestGreat(t *testing.T) {
	full := rel("a", numbers(0, 1500)...)
	checkTold(t, strings.Repeat("once ", 399)+"scan a 1", full.Rows, full)
	checkTold(t, strings.Repeat("take 1 0 where 1 0 1 0 ", 199)+"scan a 1", full.Rows, full)
	checkTold(t, strings.Repeat("group 0 1 0 ", 399)+"scan a 1", rows(t, "1"), full)
	checkTold(t, strings.Repeat("miss 0 ", 199)+"scan b 1"+strings.Repeat(" scan a 1", 199), nil, full)
	checkTold(t, strings.Repeat("miss 1 0 0 ", 199)+"scan b 1"+strings.Repeat(" scan a 1", 199), numbers(1500, 5), full, rel("b", numbers(1500, 5)...))
	checkTold(t, strings.Repeat("miss 1 0 0 ", 5)+"scan b 1"+strings.Repeat(" scan a 1", 5), numbers(1500, 1500), full, rel("b", numbers(1500, 1500)...))
	wide := "meet 0 " + strings.Repeat("meet 0 ", 38) + "scan b 1" + strings.Repeat(" scan b 1", 39)
	if got, why := Eval(node(t, wide), rel("b", rows(t, "7")...)); why != api.OK || len(got) != 1 || len(got[0].Row) != 40 {
		t.Error(got, why)
	}
	many := slices.Repeat(numbers(0, 1000), 200)
	if got, why := Eval(node(t, "scan a 1"), rel("a", many...)); why != api.OK || len(got) != 1000 || got[0].Many != 200 {
		t.Error(len(got), why)
	}
	checkRefused(t, "scan a 1", api.ErrFull, rel("a", numbers(0, 200000)...))
	base := slices.Repeat([]Rel{rel("b", rows(t, "1")...)}, 200000)
	checkTold(t, "once scan a 1", nil, base...)
	if got, why := Fold(api.Sum, 0, many...); got != value.Int(200*999*500) || why != api.OK {
		t.Error(got, why)
	}
	conds := slices.Repeat([]api.Cond{{Op: api.Eq, Right: 0}}, 1<<20)
	if !Holds(cells(t, "1"), conds...) {
		t.Error("many conditions")
	}
}

// P6: a plan whose nodes stand in it more than once, each the same node.
func TestSharedNodes(t *testing.T) {
	n := node(t, "scan a 1")
	for range 7 {
		n = &api.Node{Kind: api.Miss, Pairs: []api.Pair{{}}, Left: n, Right: n}
	}
	if got, why := Eval(n, rel("a", rows(t, "1")...)); plan.Many(n) != 255 || len(got) != 0 || why != api.OK {
		t.Error(plan.Many(n), got, why)
	}
	n = &api.Node{Kind: api.Miss, Left: n, Right: n}
	if _, why := Eval(n, rel("a", rows(t, "1")...)); why != api.ErrArg {
		t.Error(plan.Many(n), why)
	}
}
