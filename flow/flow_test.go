package flow

import (
	"math"
	"slices"
	"strconv"
	"strings"
	"testing"

	"verderer/api"
	"verderer/facts"
	"verderer/row"
	"verderer/schema"
	"verderer/shape"
	"verderer/value"
)

const (
	scanA      = "scan a 3"
	scanB      = "scan b 2"
	scanTenant = "scan tenant 2"
)

// kinds has a, whose rows have three cells, and b, whose have two, as those of tenant have.
func kinds(t *testing.T) *schema.Set {
	t.Helper()
	s, why := schema.New(api.Schema{Name: "a", Cols: []api.Column{{Name: "n", Kind: api.Int}}}, api.Schema{Name: "b"})
	if why != api.OK {
		t.Fatal("kinds", why)
	}
	return s
}

func flowOf(t *testing.T, s *schema.Set) *Flow {
	t.Helper()
	f, why := New(s)
	if f == nil || why != api.OK {
		t.Fatal("New", why)
	}
	return f
}

// plans answers the plans of keys.
func plans(t *testing.T, keys ...string) []*api.Node {
	t.Helper()
	var out []*api.Node
	for _, key := range keys {
		n, why := shape.Read(key)
		if why != api.OK {
			t.Fatal("no key:", key)
		}
		out = append(out, n)
	}
	return out
}

// cells answers the row of values' words with blanks between.
func cells(t *testing.T, words string) []api.Value {
	t.Helper()
	var r []api.Value
	for w := range strings.FieldsSeq(words) {
		v, why := value.Read(w)
		if why != api.OK {
			t.Fatal("no value:", w)
		}
		r = append(r, v)
	}
	return r
}

// changes answers those of a text with commas between: each how often, a relation, a colon, and values.
func changes(t *testing.T, l string) []facts.Change {
	t.Helper()
	var out []facts.Change
	for s := range strings.SplitSeq(l, ",") {
		head, words, is := strings.Cut(s, ":")
		if !is {
			continue
		}
		many, rel, _ := strings.Cut(strings.TrimSpace(head), " ")
		n, err := strconv.ParseInt(many, 10, 64)
		if err != nil {
			t.Fatal(err)
		}
		out = append(out, facts.Change{Rel: rel, Row: cells(t, words), Many: n})
	}
	return out
}

// entries answers those of a text with commas between: each how often, a colon, and values.
func entries(t *testing.T, l string) []api.Entry {
	t.Helper()
	var out []api.Entry
	for s := range strings.SplitSeq(l, ",") {
		many, words, is := strings.Cut(strings.TrimSpace(s), ":")
		if !is {
			continue
		}
		n, err := strconv.ParseInt(many, 10, 64)
		if err != nil {
			t.Fatal(err)
		}
		out = append(out, api.Entry{Row: cells(t, words), Many: n})
	}
	return out
}

// numbers answers that rows of a come, whose first cells are the numbers from one group on up to another, and the second ones likewise those from one on.
func numbers(group, groups, from, to int) []facts.Change {
	var out []facts.Change
	for g := group; g < groups; g++ {
		for i := from; i < to; i++ {
			out = append(out, facts.Change{Rel: "a", Row: row.Of(value.Int(int64(g)), value.Int(int64(i)), value.Int(1)), Many: 1})
		}
	}
	return out
}

func back(l []facts.Change) []facts.Change {
	out := slices.Clone(l)
	for i := range out {
		out[i].Many = -out[i].Many
	}
	return out
}

func set(t *testing.T, f *Flow, keys ...string) {
	t.Helper()
	if why := f.Set(plans(t, keys...)...); why != api.OK {
		t.Fatal("Set", keys, why)
	}
}

func apply(t *testing.T, f *Flow, l ...facts.Change) {
	t.Helper()
	if why := f.Apply(l...); why != api.OK {
		t.Fatal("Apply", why)
	}
}

func sameEntries(a, b []api.Entry) bool {
	return slices.EqualFunc(a, b, func(x, y api.Entry) bool { return x.Many == y.Many && slices.Equal(x.Row, y.Row) })
}

// told is what is to be told of a part.
type told struct{ key, rows, last string }

// checkTold holds a flow against its parts, all of them.
func checkTold(t *testing.T, f *Flow, want ...told) {
	t.Helper()
	all := 0
	for _, x := range want {
		rows := entries(t, x.rows)
		all += len(rows)
		if got, there := f.Rows(x.key); !there || !sameEntries(got, rows) {
			t.Errorf("Rows(%q): %v, %v, not %s", x.key, got, there, x.rows)
		}
		if got := f.Last(x.key); !sameEntries(got, entries(t, x.last)) {
			t.Errorf("Last(%q): %v, not %s", x.key, got, x.last)
		}
	}
	if f.Len() != len(want) || f.Entries() != all {
		t.Errorf("Len: %d, not %d, Entries: %d, not %d", f.Len(), len(want), f.Entries(), all)
	}
}

// state is all that a flow answers of its parts.
type state struct {
	len, entries int
	rows, last   map[string][]api.Entry
}

func stateOf(f *Flow, keys ...string) state {
	s := state{len: f.Len(), entries: f.Entries(), rows: map[string][]api.Entry{}, last: map[string][]api.Entry{}}
	for _, key := range keys {
		if rows, there := f.Rows(key); there {
			s.rows[key] = rows
		}
		s.last[key] = f.Last(key)
	}
	return s
}

func checkState(t *testing.T, f *Flow, was state) {
	t.Helper()
	if f.Len() != was.len || f.Entries() != was.entries {
		t.Fatal("Len, Entries", f.Len(), f.Entries(), was.len, was.entries)
	}
	for key, last := range was.last {
		if got := f.Last(key); !sameEntries(got, last) {
			t.Fatal("Last", key, got, last)
		}
		rows, is := was.rows[key]
		if got, there := f.Rows(key); there != is || !sameEntries(got, rows) {
			t.Fatal("Rows", key, there, len(got), is, len(rows))
		}
	}
}

// wrong has rows that can not be.
func wrong() [][]api.Value {
	return [][]api.Value{
		make([]api.Value, api.MaxWide+1), make([]api.Value, 1<<16), row.Of(value.Text(strings.Repeat("x", api.MaxText+1)), value.Null()),
		{value.Null(), {Int: 7}}, {{Kind: 9}, value.Null()}, {value.Int(1), {Kind: -1}}, {value.Int(0), {Kind: api.Bool, Text: "x"}}, {value.Null(), {Kind: api.Int, Flag: true}}, {value.Null(), {Kind: api.Text, Text: "a", Int: 1}},
	}
}

// The example of chapter 25.
func TestExample(t *testing.T) {
	f := flowOf(t, kinds(t))
	set(t, f, "once "+scanTenant)
	apply(t, f, changes(t, `1 tenant: "a" ""`)...)
	checkTold(t, f, told{scanTenant, `1: "a" ""`, `1: "a" ""`}, told{"once " + scanTenant, `1: "a" ""`, `1: "a" ""`})
}

// P25.1
func TestNew(t *testing.T) {
	if f, why := New(nil); f != nil || why != api.ErrNil {
		t.Error("nil", f, why)
	}
	f, other := flowOf(t, kinds(t)), flowOf(t, kinds(t))
	checkTold(t, f)
	set(t, f, scanA)
	apply(t, f, changes(t, "1 a: 1 2 3")...)
	checkTold(t, other)
	set(t, other, scanA)
	checkTold(t, other, told{scanA, "", ""})
	// Without kinds there are tenants alone.
	none, _ := schema.New()
	f = flowOf(t, none)
	checkTold(t, f)
	apply(t, f, changes(t, `1 tenant: "a" ""`)...)
	set(t, f, scanTenant)
	checkTold(t, f, told{scanTenant, `1: "a" ""`, ""})
	if f.Set(plans(t, scanA)...) != api.ErrKind || f.Apply(changes(t, "1 a: 1 2 3")...) != api.ErrKind {
		t.Error("no kinds")
	}
}

// P25.1, P25.3 and P25.5: what parts tell of rows that are there already; parts that come, go, and are shared.
func TestSet(t *testing.T) {
	const (
		where = "where 1 2 3 -1 038000000000000005 " + scanA
		both  = "meet 1 0 0 " + scanA + " " + scanB
		take  = "take 1 0 " + both
		once  = "once " + take
		alone = "miss 1 0 0 " + scanB + " " + where
		sums  = "group 1 0 2 2 " + scanA
	)
	f := flowOf(t, kinds(t))
	apply(t, f, changes(t, "1 a: 1 1 3, 1 a: 1 2 5, 1 b: 1 7, 1 a: 2 1 4, 1 a: 3 1 9, 1 b: 1 8, 1 b: 3 7")...)
	a := told{scanA, "1: 1 1 3, 1: 1 2 5, 1: 2 1 4, 1: 3 1 9", ""}
	b := told{scanB, "1: 1 7, 1: 1 8, 1: 3 7", ""}
	toldWhere := told{where, "1: 1 1 3, 1: 2 1 4", ""}
	toldBoth := told{both, "1: 1 1 3 1 7, 1: 1 1 3 1 8, 1: 1 2 5 1 7, 1: 1 2 5 1 8, 1: 3 1 9 3 7", ""}
	toldTake, toldOnce := told{take, "4: 1, 1: 3", ""}, told{once, "1: 1, 1: 3", ""}
	toldAlone, toldSums := told{alone, "1: 3 7", ""}, told{sums, "1: 1 8, 1: 2 4, 1: 3 9", ""}
	checkTold(t, f)
	for _, x := range []struct {
		l    []string
		want []told
	}{
		{[]string{once}, []told{a, b, toldBoth, toldTake, toldOnce}},
		{[]string{once}, []told{a, b, toldBoth, toldTake, toldOnce}},
		// More that share parts, and one that is held twice.
		{[]string{alone, once, sums, once}, []told{b, a, toldWhere, toldAlone, toldBoth, toldTake, toldOnce, toldSums}},
		{[]string{sums, take, alone}, []told{a, toldSums, b, toldBoth, toldTake, toldWhere, toldAlone}},
		// What one plan shared with another that goes stays.
		{[]string{sums}, []told{a, toldSums}},
		{[]string{alone}, []told{b, a, toldWhere, toldAlone}},
		{[]string{scanB, scanTenant}, []told{b, {scanTenant, "", ""}}},
		{nil, nil},
		{[]string{once, alone}, []told{a, b, toldBoth, toldTake, toldOnce, toldWhere, toldAlone}},
	} {
		set(t, f, x.l...)
		checkTold(t, f, x.want...)
		for _, key := range []string{"", "scan a", "a", scanA + " ", "once " + scanA, "\x00"} {
			if rows, there := f.Rows(key); len(rows) > 0 || there || len(f.Last(key)) > 0 {
				t.Errorf("%q: %v, %v, %v", key, rows, there, f.Last(key))
			}
		}
	}
}

// P25.2 and P25.3: each kind of part, as rows come and go.
func TestApply(t *testing.T) {
	const (
		where = "where 1 2 3 -1 038000000000000005 " + scanA
		take  = "take 1 0 " + scanA
		once  = "once " + take
		both  = "meet 1 0 0 " + take + " " + scanB
		alone = "miss 1 0 0 " + scanA + " " + scanB
		sums  = "group 1 0 2 2 " + scanA
	)
	f := flowOf(t, kinds(t))
	set(t, f, where, once, both, alone, sums)
	for _, x := range []struct {
		l    string
		want []told
	}{
		{"1 a: 1 1 3, 1 b: 1 7, 1 a: 2 1 5", []told{
			{scanA, "1: 1 1 3, 1: 2 1 5", "1: 1 1 3, 1: 2 1 5"}, {scanB, "1: 1 7", "1: 1 7"}, {where, "1: 1 1 3", "1: 1 1 3"}, {take, "1: 1, 1: 2", "1: 1, 1: 2"}, {once, "1: 1, 1: 2", "1: 1, 1: 2"},
			{both, "1: 1 1 7", "1: 1 1 7"}, {alone, "1: 2 1 5", "1: 2 1 5"}, {sums, "1: 1 3, 1: 2 5", "1: 1 3, 1: 2 5"},
		}},
		// What a part tells may change while what stands on it does not.
		{"1 a: 1 2 8", []told{
			{scanA, "1: 1 1 3, 1: 1 2 8, 1: 2 1 5", "1: 1 2 8"}, {scanB, "1: 1 7", ""}, {where, "1: 1 1 3", ""}, {take, "2: 1, 1: 2", "1: 1"}, {once, "1: 1, 1: 2", ""},
			{both, "2: 1 1 7", "1: 1 1 7"}, {alone, "1: 2 1 5", ""}, {sums, "1: 1 11, 1: 2 5", "-1: 1 3, 1: 1 11"},
		}},
		// A row that comes and goes, and one that goes and comes.
		{"1 b: 2 2, -1 a: 1 1 3, -1 b: 2 2, 1 a: 1 1 3", []told{
			{scanA, "1: 1 1 3, 1: 1 2 8, 1: 2 1 5", ""}, {scanB, "1: 1 7", ""}, {where, "1: 1 1 3", ""}, {take, "2: 1, 1: 2", ""}, {once, "1: 1, 1: 2", ""},
			{both, "2: 1 1 7", ""}, {alone, "1: 2 1 5", ""}, {sums, "1: 1 11, 1: 2 5", ""},
		}},
		{"-1 b: 1 7, 5 b: 2 9, -1 a: 1 1 3, -4 b: 2 9, 0 a: 9 9 9, 1 a: 1 1 4", []told{
			{scanA, "1: 1 1 4, 1: 1 2 8, 1: 2 1 5", "-1: 1 1 3, 1: 1 1 4"}, {scanB, "1: 2 9", "-1: 1 7, 1: 2 9"}, {where, "1: 1 1 4", "-1: 1 1 3, 1: 1 1 4"}, {take, "2: 1, 1: 2", ""}, {once, "1: 1, 1: 2", ""},
			{both, "1: 2 2 9", "-2: 1 1 7, 1: 2 2 9"}, {alone, "1: 1 1 4, 1: 1 2 8", "1: 1 1 4, 1: 1 2 8, -1: 2 1 5"}, {sums, "1: 1 12, 1: 2 5", "-1: 1 11, 1: 1 12"},
		}},
		// A relation of which there is no Scan.
		{`1 tenant: "a" ""`, []told{
			{scanA, "1: 1 1 4, 1: 1 2 8, 1: 2 1 5", ""}, {scanB, "1: 2 9", ""}, {where, "1: 1 1 4", ""}, {take, "2: 1, 1: 2", ""}, {once, "1: 1, 1: 2", ""},
			{both, "1: 2 2 9", ""}, {alone, "1: 1 1 4, 1: 1 2 8", ""}, {sums, "1: 1 12, 1: 2 5", ""},
		}},
		{"-1 a: 1 2 8, -1 a: 1 1 4, -1 a: 2 1 5", []told{
			{scanA, "", "-1: 1 1 4, -1: 1 2 8, -1: 2 1 5"}, {scanB, "1: 2 9", ""}, {where, "", "-1: 1 1 4"}, {take, "", "-2: 1, -1: 2"}, {once, "", "-1: 1, -1: 2"},
			{both, "", "-1: 2 2 9"}, {alone, "", "-1: 1 1 4, -1: 1 2 8"}, {sums, "", "-1: 1 12, -1: 2 5"},
		}},
		{"", []told{{scanA, "", ""}, {scanB, "1: 2 9", ""}, {where, "", ""}, {take, "", ""}, {once, "", ""}, {both, "", ""}, {alone, "", ""}, {sums, "", ""}}},
	} {
		apply(t, f, changes(t, x.l)...)
		checkTold(t, f, x.want...)
	}
	set(t, f, scanTenant)
	checkTold(t, f, told{scanTenant, `1: "a" ""`, ""})
}

// P25.3: Last is of the last Apply that went well, if no Set that did was behind it.
func TestLast(t *testing.T) {
	f := flowOf(t, kinds(t))
	set(t, f, scanA)
	checkTold(t, f, told{scanA, "", ""})
	apply(t, f, changes(t, "1 a: 1 1 1")...)
	one := told{scanA, "1: 1 1 1", "1: 1 1 1"}
	checkTold(t, f, one)
	// Refused: what was told last stays.
	for _, l := range []string{"1 a: 1 1 1", "-1 a: 2 2 2", "1 a: 1 1", "1 c: 1 1 1", "1 a: 2 2 2, 1 c: 1"} {
		if f.Apply(changes(t, l)...) == api.OK {
			t.Error(l)
		}
		checkTold(t, f, one)
	}
	for _, l := range [][]string{{scanA, "scan c 1"}, {"scan a 2"}, slices.Repeat([]string{scanA}, 13)} {
		if f.Set(plans(t, l...)...) == api.OK {
			t.Error(l)
		}
		checkTold(t, f, one)
	}
	// A Set that went well, of the same plans, too, and then an Apply that did not.
	set(t, f, scanA)
	checkTold(t, f, told{scanA, "1: 1 1 1", ""})
	if f.Apply(changes(t, "1 a: 1 1 1")...) == api.OK {
		t.Error("twice")
	}
	checkTold(t, f, told{scanA, "1: 1 1 1", ""})
	apply(t, f, changes(t, "-1 a: 1 1 1")...)
	checkTold(t, f, told{scanA, "", "-1: 1 1 1"})
	apply(t, f)
	checkTold(t, f, told{scanA, "", ""})
	// A part that goes and comes back has no Last, nor has one that comes.
	apply(t, f, changes(t, "1 a: 1 1 1, 1 b: 2 2")...)
	set(t, f)
	checkTold(t, f)
	if len(f.Last(scanA)) > 0 {
		t.Error("Last of a part that is gone")
	}
	set(t, f, scanA, scanB)
	checkTold(t, f, told{scanA, "1: 1 1 1", ""}, told{scanB, "1: 2 2", ""})
	apply(t, f, changes(t, "1 b: 3 3")...)
	checkTold(t, f, told{scanA, "1: 1 1 1", ""}, told{scanB, "1: 2 2, 1: 3 3", "1: 3 3"})
}

// P25.1: what is refused ahead of what parts tell, in the first plan and in the last, and which of several errors is told.
func TestSetRefuses(t *testing.T) {
	const (
		noRelation = "once scan c 3"
		tooNarrow  = "take 1 0 scan a 2"
		tooWide    = "scan b 3"
		narrow     = "scan tenant 1"
		kindFirst  = "meet 0 scan c 2 scan a 1"
		wideFirst  = "meet 0 scan a 1 scan c 2"
	)
	f := flowOf(t, kinds(t))
	apply(t, f, numbers(0, 1, 0, 1400)...)
	set(t, f, "once "+scanA, scanB)
	apply(t, f, numbers(0, 1, 1400, 1500)...)
	apply(t, f, changes(t, "1 b: 1 1")...)
	was := stateOf(f, scanA, "once "+scanA, scanB, "scan c 3", "scan a 2", scanTenant, "")
	// Two parts that can not be told: both go behind all that is asked here.
	full := "meet 0 " + scanA + " take 1 1 " + scanA
	for _, x := range []struct {
		l    []string
		want api.Errno
	}{
		{[]string{noRelation}, api.ErrKind},
		{[]string{tooNarrow}, api.ErrArg},
		{[]string{tooWide}, api.ErrArg},
		{[]string{narrow}, api.ErrArg},
		{[]string{"scan a 40"}, api.ErrArg},
		{[]string{scanA, scanB, noRelation}, api.ErrKind},
		{[]string{scanA, scanB, tooWide}, api.ErrArg},
		{[]string{noRelation, scanA, scanB}, api.ErrKind},
		{[]string{tooNarrow, scanA}, api.ErrArg},
		{[]string{noRelation, tooNarrow}, api.ErrKind},
		{[]string{tooNarrow, noRelation}, api.ErrArg},
		{[]string{kindFirst}, api.ErrKind},
		{[]string{wideFirst}, api.ErrArg},
		{[]string{kindFirst, tooWide}, api.ErrKind},
		{[]string{scanTenant, wideFirst, noRelation}, api.ErrArg},
		{[]string{full, noRelation}, api.ErrKind},
		{[]string{full, tooWide}, api.ErrArg},
		{[]string{noRelation, full}, api.ErrKind},
		{[]string{full}, api.ErrFull},
		{[]string{scanTenant, full}, api.ErrFull},
		{[]string{full, scanTenant}, api.ErrFull},
		{slices.Repeat([]string{scanA}, 13), api.ErrLong},
		{slices.Repeat([]string{noRelation}, 13), api.ErrLong},
		{slices.Repeat([]string{full}, 40), api.ErrLong},
	} {
		if why := f.Set(plans(t, x.l...)...); why != x.want {
			t.Errorf("%q: %v, not %v", x.l, why, x.want)
		}
		checkState(t, f, was)
	}
	bad := []*api.Node{nil, {}, {Kind: 8}, {Kind: -1}, {Kind: api.Scan, Name: "A", Wide: 1}, {Kind: api.Scan, Name: "a"}, {Kind: api.Once}, {Kind: api.Miss, Left: plans(t, scanA)[0]}, {Kind: math.MinInt}}
	for _, n := range bad {
		for _, l := range [][]*api.Node{{n}, {n, plans(t, noRelation)[0]}, append(plans(t, noRelation, full), n), append(slices.Repeat(plans(t, scanA), 13), n)} {
			if why := f.Set(l...); why != api.ErrArg {
				t.Error(n, why)
			}
			checkState(t, f, was)
		}
	}
	set(t, f, slices.Repeat([]string{scanB}, 12)...)
	checkTold(t, f, told{scanB, "1: 1 1", ""})
}

// powers are plans over a: of the groups, which of k rows has k times k, or k times as often as there are rows of all groups together; and so on.
func powers() (one, two, four string) {
	one = "take 1 0 " + scanA
	two = "take 1 0 meet 1 0 0 " + one + " " + one
	four = "take 1 0 meet 1 0 0 " + two + " " + two
	return one, two, four
}

// P25.1 and P25.2: a part that would have too many rows, or one too often, or a sum that does not fit, at Set and at Apply, in the first plan and in the last; of several such parts the first one is told of.
func TestCanNotBeTold(t *testing.T) {
	one, two, four := powers()
	pair := "meet 0 " + one + " " + one
	crossed := "meet 0 " + two + " " + two
	count := "group 0 1 0 " + four
	sum := "group 0 2 2 " + scanA
	large := facts.Change{Rel: "a", Row: row.Of(value.Int(77), value.Int(0), value.Int(math.MaxInt64-1)), Many: 1}
	fewGroups, oneGroup, moreOfIt := numbers(0, 38, 0, 1), numbers(38, 39, 0, 1), numbers(0, 1, 1, 182)
	for _, x := range []struct {
		name      string
		was, come []facts.Change
		l         []string
		want      api.Errno
	}{
		{"1500 rows", numbers(0, 1, 0, 1499), numbers(0, 1, 1499, 1500), []string{scanA}, api.OK},
		{"1501 rows", numbers(0, 1, 0, 1500), numbers(0, 1, 1500, 1501), []string{scanA}, api.ErrFull},
		{"1501 rows, below the last plan", numbers(0, 1, 0, 1500), numbers(0, 1, 1500, 1501), []string{"once " + scanTenant, scanB, "once " + one}, api.ErrFull},
		{"1501 rows, of which no plan asks", numbers(0, 1, 0, 1500), numbers(0, 1, 1500, 1501), []string{"once " + scanTenant, scanB}, api.OK},
		{"rows that go together", fewGroups, oneGroup, []string{pair}, api.ErrFull},
		{"rows that go together, below others", fewGroups, oneGroup, []string{one, "group 0 1 0 miss 0 " + pair + " " + scanB, scanB}, api.ErrFull},
		{"too often", numbers(0, 1, 0, 181), numbers(0, 1, 181, 182), []string{four}, api.ErrOver},
		{"too often, below the last plan", numbers(0, 1, 0, 181), numbers(0, 1, 181, 182), []string{scanB, "once " + two, "once " + four}, api.ErrOver},
		{"too often, below the first plan", numbers(0, 1, 0, 181), numbers(0, 1, 181, 182), []string{"once " + four, "once " + two, scanB}, api.ErrOver},
		{"not too often yet", numbers(0, 2, 0, 152), numbers(0, 2, 152, 153), []string{crossed, four}, api.OK},
		{"a Take", numbers(0, 2, 0, 152), numbers(0, 2, 152, 153), []string{"take 1 0 " + crossed}, api.ErrOver},
		{"a count", numbers(0, 2, 0, 152), numbers(0, 2, 152, 153), []string{scanB, count}, api.ErrOver},
		{"a sum that fits", []facts.Change{large}, numbers(0, 1, 0, 1), []string{sum}, api.OK},
		{"a sum", []facts.Change{large}, numbers(0, 1, 0, 2), []string{scanB, sum}, api.ErrOver},
		{"a sum, in the first plan", []facts.Change{large}, numbers(0, 1, 0, 2), []string{sum, "once " + scanA, scanB}, api.ErrOver},
		{"over, then full", fewGroups, slices.Concat(oneGroup, moreOfIt), []string{four, pair}, api.ErrOver},
		{"full, then over", fewGroups, slices.Concat(oneGroup, moreOfIt), []string{pair, four}, api.ErrFull},
		{"full and over at once", slices.Concat(fewGroups, moreOfIt[:63]), slices.Concat(oneGroup, moreOfIt[63:64]), []string{"meet 0 " + four + " " + one}, api.ErrFull},
		{"full of the Scan, then over", slices.Concat(numbers(0, 1, 0, 100), numbers(1, 2, 0, 1400)), numbers(1, 2, 1400, 1401), []string{scanB, "take 1 0 where 1 0 1 -1 038000000000000000 " + scanA}, api.ErrFull},
	} {
		checkComes(t, x.name, x.was, x.come, x.l, x.want)
		checkPlansCome(t, x.name, x.was, x.come, x.l, x.want)
	}
}

func others(t *testing.T) []facts.Change { return changes(t, "1 b: 1 1, 1 tenant: 1 2") }

func keysOf(t *testing.T, l ...string) []string {
	t.Helper()
	keys := []string{scanA, scanB, scanTenant}
	for _, n := range shape.Parts(plans(t, l...)...) {
		keys = append(keys, shape.Key(n))
	}
	return keys
}

// checkComes has rows come to a flow with plans. What is refused changes nothing, also not what is seen later.
func checkComes(t *testing.T, name string, was, come []facts.Change, l []string, want api.Errno) {
	t.Helper()
	f := flowOf(t, kinds(t))
	set(t, f, l...)
	apply(t, f, was...)
	if want == api.OK {
		apply(t, f, come...)
		return
	}
	before := stateOf(f, keysOf(t, l...)...)
	for _, rows := range [][]facts.Change{come, slices.Concat(others(t), come), slices.Concat(come, others(t))} {
		if why := f.Apply(rows...); why != want {
			t.Fatal(name, "Apply", why, want)
		}
		checkState(t, f, before)
	}
	apply(t, f, others(t)...)
	apply(t, f, back(others(t))...)
	after := stateOf(f, keysOf(t, l...)...)
	after.last = before.last
	apply(t, f, back(was)...)
	apply(t, f, was...)
	checkState(t, f, after)
	apply(t, f, back(was)...)
	if f.Entries() != 0 {
		t.Fatal(name, "rows stay", f.Entries())
	}
}

// checkPlansCome has plans come to a flow with all rows; likewise.
func checkPlansCome(t *testing.T, name string, was, come []facts.Change, l []string, want api.Errno) {
	t.Helper()
	f := flowOf(t, kinds(t))
	set(t, f, scanB, "once "+scanTenant)
	apply(t, f, slices.Concat(was, come, others(t))...)
	before := stateOf(f, append(keysOf(t, l...), "once "+scanTenant)...)
	for range 2 {
		if why := f.Set(plans(t, l...)...); why != want {
			t.Fatal(name, "Set", why, want)
		}
		if want == api.OK {
			return
		}
		checkState(t, f, before)
	}
	apply(t, f, back(come)...)
	set(t, f, l...)
}

// P25.2: changes that may not be, each ahead of what goes behind it.
func TestApplyRefuses(t *testing.T) {
	f := flowOf(t, kinds(t))
	set(t, f, "once "+scanA, "group 0 2 2 "+scanA, scanB)
	apply(t, f, numbers(0, 1, 0, 1499)...)
	apply(t, f, changes(t, "1 a: 1 2 3, 1 b: 1 2")...)
	was := stateOf(f, scanA, "once "+scanA, "group 0 2 2 "+scanA, scanB, scanTenant)
	const (
		most = api.MaxCount
		full = "1 a: 9 9 9"
	)
	check := func(want api.Errno, l ...facts.Change) {
		t.Helper()
		if why := f.Apply(l...); why != want {
			t.Errorf("Apply: %v, not %v", why, want)
		}
		checkState(t, f, was)
	}
	for _, x := range []struct {
		l    string
		want api.Errno
	}{
		{"1 c: 1 2 3", api.ErrKind}, {"1 : 1 2", api.ErrKind}, {"1 A: 1 2 3", api.ErrKind}, {"0 c:", api.ErrKind}, {"1 scan a 3: 1 2 3", api.ErrKind},
		{"1 a: 1 2", api.ErrArg}, {"1 a: 1 2 3 4", api.ErrArg}, {"1 a:", api.ErrArg}, {"0 b: 1", api.ErrArg}, {"-1 b: 1 2 3", api.ErrArg}, {"1 tenant: 1", api.ErrArg}, {"1 tenant: 1 2 3", api.ErrArg},
		// The first change that may not be.
		{"1 b: 3 4, 1 a: 4 5 6, 1 c: 1", api.ErrKind}, {"1 c: 1, 1 a: 1", api.ErrKind}, {"1 a: 1, 1 c: 1", api.ErrArg},
		// Ahead of nets, and of how often rows would be there.
		{"9 a: 1 2 3, -9 b: 1 2, 1 b: 1", api.ErrArg}, {"9000000000 a: 1 2 3, 1 b: 1 2, 1 c: 1", api.ErrKind}, {full + ", 1 tenant: 1", api.ErrArg},
		// Nets: of a relation that stands first, or last, or alone; ahead of what plans tell.
		{"1073741825 a: 4 5 6", api.ErrOver}, {"1073741824 a: 4 5 6, 1 a: 4 5 6, -1073741824 a: 4 5 6", api.ErrOver}, {"-1073741825 tenant: 4 5", api.ErrOver}, {full + ", 1073741825 tenant: 1 2", api.ErrOver},
		{"9223372036854775807 b: 3 4", api.ErrOver}, {"-9223372036854775808 b: 3 4, 1 a: 3 4 5", api.ErrOver}, {"1 b: 3 4, 9223372036854775807 b: 3 4", api.ErrOver},
		// Fewer than 0 times, or more than once; ahead of what plans tell.
		{"1 a: 1 2 3", api.ErrOver}, {"2 a: 4 5 6", api.ErrOver}, {"1 a: 4 5 6, 1 a: 4 5 6", api.ErrOver}, {"-1 a: 4 5 6", api.ErrOver}, {"-2 a: 1 2 3", api.ErrOver}, {"-1 b: 1 2, -1 b: 1 2", api.ErrOver},
		{"1073741824 a: 4 5 6", api.ErrOver}, {"-1073741824 a: 1 2 3", api.ErrOver}, {full + ", 2 tenant: 1 2", api.ErrOver}, {full + ", -1 b: 3 4", api.ErrOver}, {"-1 tenant: 1 2, " + full, api.ErrOver},
		// What plans tell.
		{full, api.ErrFull}, {"1 b: 3 4, 1 tenant: 1 2, " + full, api.ErrFull}, {"-1 a: 1 2 3, " + full + ", 1 a: 8 8 8", api.ErrFull},
		{"-1 a: 1 2 3, 1 a: 9 9 9223372036854775807, 1 b: 3 4", api.ErrOver},
	} {
		check(x.want, changes(t, x.l)...)
	}
	for _, r := range wrong() {
		for _, many := range []int64{1, 0, -1, most + 1, math.MinInt64} {
			for _, rel := range []string{"a", "b", "tenant"} {
				check(api.ErrArg, facts.Change{Rel: rel, Row: r, Many: many})
			}
			check(api.ErrKind, facts.Change{Rel: "c", Row: r, Many: many})
			// Ahead of a later change, and of a net, whichever relation these are of.
			bad := facts.Change{Rel: "b", Row: r, Many: many}
			check(api.ErrArg, append([]facts.Change{bad}, changes(t, "1 c: 1")...)...)
			check(api.ErrKind, append(changes(t, "1 c: 1"), bad)...)
			check(api.ErrArg, append(changes(t, "1073741825 a: 4 5 6"), bad)...)
			check(api.ErrArg, append(changes(t, "2 a: 1 2 3, "+full), bad)...)
		}
	}
	// Of a row that may be, the net alone counts, if no sum up to it is too great.
	apply(t, f, changes(t, "1 a: 1 2 3, -1 a: 1 2 3, -1073741824 b: 1 2, 1073741824 b: 1 2, 1073741824 b: 3 4, -1073741823 b: 3 4")...)
	if rows, _ := f.Rows(scanB); !sameEntries(rows, entries(t, "1: 1 2, 1: 3 4")) || !sameEntries(f.Last(scanB), entries(t, "1: 3 4")) || len(f.Last(scanA)) > 0 {
		t.Error(rows, f.Last(scanB), f.Last(scanA))
	}
}

// nil, and a Flow that New did not make.
func TestNil(t *testing.T) {
	var f *Flow
	for _, l := range [][]*api.Node{nil, plans(t, scanA), {nil}, slices.Repeat(plans(t, "scan c 1"), 13)} {
		if why := f.Set(l...); why != api.ErrNil {
			t.Error("Set", why)
		}
	}
	for _, l := range []string{"", "1 a: 1 2 3", "1 c: 1", "2 tenant: 1"} {
		if why := f.Apply(changes(t, l)...); why != api.ErrNil {
			t.Error("Apply", why)
		}
	}
	zero := new(Flow)
	for range 2 {
		for _, f := range []*Flow{f, zero} {
			for _, key := range []string{"", scanA, "a"} {
				if rows, there := f.Rows(key); len(rows) > 0 || there || len(f.Last(key)) > 0 {
					t.Error(key, rows, there)
				}
			}
			if f.Len() != 0 || f.Entries() != 0 {
				t.Error(f.Len(), f.Entries())
			}
		}
		zero.Set()
		zero.Apply()
		if zero.Set(plans(t, scanA)...) == api.OK || zero.Set(plans(t, scanTenant)...) == api.OK || zero.Apply(changes(t, "1 tenant: 1 2")...) == api.OK {
			t.Error("no kinds at all")
		}
	}
}

// Rules 4 and 5: what is handed in is neither changed nor kept (but for nodes), and what is answered shares nothing.
func TestNothingShared(t *testing.T) {
	const where, take, once = "where 1 2 3 -1 038000000000000005 " + scanA, "take 2 0 1 " + scanA, "once " + scanA
	const both, alone, most = "meet 1 0 0 " + scanA + " " + scanB, "miss 1 0 1 " + scanA + " " + scanB, "group 1 0 4 2 " + scanA
	want := []told{
		{scanA, "1: 1 1 3, 1: 1 2 4", "1: 1 2 4"}, {where, "1: 1 1 3, 1: 1 2 4", "1: 1 2 4"}, {take, "1: 1 1, 1: 1 2", "1: 1 2"}, {once, "1: 1 1 3, 1: 1 2 4", "1: 1 2 4"},
		{scanB, "1: 1 7", ""}, {both, "1: 1 1 3 1 7, 1: 1 2 4 1 7", "1: 1 2 4 1 7"}, {alone, "1: 1 1 3, 1: 1 2 4", "1: 1 2 4"}, {most, "1: 1 4", "-1: 1 3, 1: 1 4"},
	}
	f := flowOf(t, kinds(t))
	keys := []string{where, take, once, both, alone, most}
	list := append(make([]*api.Node, 0, 8), plans(t, keys...)...)
	held := slices.Clone(list)
	if why := f.Set(list...); why != api.OK || !slices.Equal(list, held) || list[:8][6] != nil {
		t.Error("changed", why)
	}
	clear(list)
	for _, l := range []string{"1 a: 1 1 3, 1 b: 1 7, 1 a: 9 9 9", "1 a: 1 2 4, -1 a: 9 9 9"} {
		rows := changes(t, l)
		apply(t, f, rows...)
		again := changes(t, l)
		for i := range rows {
			if rows[i].Rel != again[i].Rel || rows[i].Many != again[i].Many || !slices.Equal(rows[i].Row, again[i].Row) {
				t.Error("changed", rows[i])
			}
			clear(rows[i].Row)
		}
		clear(rows)
	}
	want[0].last, want[1].last, want[2].last, want[3].last = "1: 1 2 4, -1: 9 9 9", "1: 1 2 4", "1: 1 2, -1: 9 9", "1: 1 2 4, -1: 9 9 9"
	want[6].last, want[7].last = "1: 1 2 4, -1: 9 9 9", "-1: 1 3, 1: 1 4, -1: 9 9"
	for range 2 {
		checkTold(t, f, want...)
		for _, x := range want {
			rows, _ := f.Rows(x.key)
			for _, l := range [][]api.Entry{rows, f.Last(x.key)} {
				for i := range l {
					_ = append(l[i].Row, value.Int(99))
					clear(l[i].Row)
				}
				clear(l)
			}
		}
	}
	for i, n := range held {
		if shape.Key(n) != keys[i] {
			t.Error("changed", shape.Key(n))
		}
	}
	apply(t, f, changes(t, "-1 a: 1 1 3, -1 a: 1 2 4, -1 b: 1 7")...)
	if f.Entries() != 0 {
		t.Error("rows stay")
	}
}
