package quota

import (
	"fmt"
	"math"
	"slices"
	"strings"
	"testing"

	"verderer/api"
	"verderer/tenant"
	"verderer/usage"
	"verderer/value"
)

const (
	high = math.MaxInt64
	low  = math.MinInt64
)

// use is one of the tenant of that name, of the rule q.
func use(name string, used, limit int64) api.Use {
	return api.Use{Rule: "q", Tenant: name, Used: used, Limit: limit}
}

// brief is the beginning of what there is to tell, as some lists are long.
func brief(l ...any) string {
	s := fmt.Sprint(l...)
	return s[:min(len(s), 400)]
}

func some(l ...api.Use) []api.Use { return l }

func checkOver(t *testing.T, l []api.Use, want ...api.Use) {
	t.Helper()
	if got := Over(l...); !slices.Equal(got, want) {
		t.Error("Over", brief(l), "is", brief(got), "not", brief(want))
	}
}

// checkWell has uses be judged well behind others.
func checkWell(t *testing.T, was, now []api.Use) {
	t.Helper()
	if u, why := Judge(was, now); u != (api.Use{}) || why != api.OK {
		t.Error("Judge", brief(was), brief(now), "is", brief(u), why)
	}
}

func checkBad(t *testing.T, was, now []api.Use, want api.Use) {
	t.Helper()
	if u, why := Judge(was, now); u != want || why != api.ErrQuota {
		t.Error("Judge", brief(was), brief(now), "is", brief(u), why, "not", brief(want))
	}
}

// P28.1
func TestOver(t *testing.T) {
	checkOver(t, nil)
	checkOver(t, some())
	for _, limit := range []int64{0, 1, -1, 20, -20, high - 1, low + 1, api.MaxCount} {
		at, above, below := use("a", limit, limit), use("b", limit+1, limit), use("c", limit-1, limit)
		checkOver(t, some(at))
		checkOver(t, some(below))
		checkOver(t, some(above), above)
		checkOver(t, some(above, at, below), above)
		checkOver(t, some(at, below, above), above)
	}
	// The ends of 64 bits, at which a difference does not fit.
	for _, x := range []struct {
		used, limit int64
		over        bool
	}{
		{high, low, true}, {low, high, false}, {high, -1, true}, {-1, high, false}, {0, low, true}, {low, 0, false}, {low + 1, low, true}, {low, low, false}, {low, low + 1, false}, {high, high, false}, {high, high - 1, true}, {high - 1, high, false}, {1, low, true}, {low, 1, false}, {-2, high, false}, {high, -2, true},
	} {
		u := use("a", x.used, x.limit)
		if x.over {
			checkOver(t, some(u), u)
		} else {
			checkOver(t, some(u))
		}
	}
	// Several, in their order, whatever their rules, tenants and numbers are; also one that is there twice.
	b, a, c, odd := use("b", 9, 3), use("a", 4, 3), use("c", high, 0), api.Use{Rule: "p", Tenant: "\xff", Used: -1, Limit: -2}
	checkOver(t, some(b, use("b", 3, 3), a, use("z", 0, 3), c, odd), b, a, c, odd)
	checkOver(t, some(odd, c, a, b), odd, c, a, b)
	checkOver(t, some(a, b, a, a), a, b, a, a)
	checkOver(t, some(api.Use{}, api.Use{Used: 1}), api.Use{Used: 1})
}

// P28.1: nothing was ahead, or nothing is now.
func TestJudgeAlone(t *testing.T) {
	for _, was := range [][]api.Use{nil, some(), some(use("z", 3, 2)), some(use("", high, low), api.Use{})} {
		checkWell(t, was, nil)
		checkWell(t, was, some())
		checkWell(t, was, some(use("a", 3, 3), use("b", 2, 3), use("c", -1, 0), use("d", low, high), use("e", high, high), use("f", low, low)))
		checkBad(t, was, some(use("a", 4, 3)), use("a", 4, 3))
		checkBad(t, was, some(use("a", 3, 3), use("b", 4, 3), use("c", 5, 3)), use("b", 4, 3))
		checkBad(t, was, some(use("a", high, low)), use("a", high, low))
		checkBad(t, was, some(use("a", 0, -1)), use("a", 0, -1))
	}
}

// P28.1: a use of one tenant, ahead and now, around its limit.
func TestJudge(t *testing.T) {
	for _, limit := range []int64{5, 0, -5, high - 2, low + 2} {
		is := func(more int64) []api.Use { return some(use("a", limit+more, limit)) }
		// It was not over, and is now.
		for _, was := range []int64{-2, -1, 0} {
			for _, now := range []int64{-2, -1, 0} {
				checkWell(t, is(was), is(now))
			}
			checkBad(t, is(was), is(1), is(1)[0])
			checkBad(t, is(was), is(2), is(2)[0])
		}
		// It was over: it may be less, or the same, but not more.
		for _, now := range []int64{-2, -1, 0, 1} {
			checkWell(t, is(1), is(now))
			checkWell(t, is(2), is(now))
		}
		checkWell(t, is(2), is(2))
		checkBad(t, is(1), is(2), is(2)[0])
	}
	checkWell(t, some(use("a", high, low)), some(use("a", high, low)))
	checkWell(t, some(use("a", high, low)), some(use("a", high-1, low)))
	checkWell(t, some(use("a", low+1, low)), some(use("a", low+1, low)))
	checkBad(t, some(use("a", high-1, low)), some(use("a", high, low)), use("a", high, low))
	checkBad(t, some(use("a", low+1, low)), some(use("a", low+2, low)), use("a", low+2, low))
	checkBad(t, some(use("a", low, high)), some(use("a", high, high-1)), use("a", high, high-1))
}

// P28.1: what was of another rule, or another tenant, says nothing.
func TestJudgeOther(t *testing.T) {
	now := use("a", 7, 5)
	for _, was := range []api.Use{
		use("b", 9, 5), use("", 9, 5), use("A", 9, 5), use("aa", 9, 5), use("a ", 9, 5), {Rule: "r", Tenant: "a", Used: 9, Limit: 5}, {Tenant: "a", Used: 9, Limit: 5}, {Rule: "a", Tenant: "q", Used: 9, Limit: 5}, {Rule: "qa", Used: 9, Limit: 5}, {},
	} {
		checkBad(t, some(was), some(now), now)
		checkBad(t, some(was, use("a", 6, 5), was), some(now), now)
		checkWell(t, some(was, use("a", 7, 5), was), some(now))
		// One that is within its limit asks for none ahead.
		checkWell(t, some(was), some(use("a", 5, 5)))
	}
	both := some(api.Use{Rule: "r", Tenant: "a", Used: 9, Limit: 8}, use("a", 7, 5))
	checkWell(t, both, both)
	checkWell(t, some(both[1], both[0]), both)
	checkBad(t, both, some(both[1], api.Use{Rule: "r", Tenant: "a", Used: 10, Limit: 8}), api.Use{Rule: "r", Tenant: "a", Used: 10, Limit: 8})
}

// P28.1: of two of the same ahead the first one counts; now each is judged.
func TestJudgeTwice(t *testing.T) {
	now := some(use("a", 7, 5))
	checkWell(t, some(use("a", 7, 5), use("a", 6, 5)), now)
	checkWell(t, some(use("b", 9, 5), use("a", 8, 5), use("a", 0, 5)), now)
	checkBad(t, some(use("a", 6, 5), use("a", 7, 5)), now, now[0])
	checkBad(t, some(use("a", 0, 5), use("a", 9, 5), use("a", 9, 5)), now, now[0])
	was := some(use("a", 7, 5))
	checkWell(t, was, some(use("a", 7, 5), use("a", 6, 5), use("a", 7, 5)))
	checkBad(t, was, some(use("a", 7, 5), use("a", 8, 5)), use("a", 8, 5))
	checkBad(t, was, some(use("a", 3, 5), use("a", 9, 5), use("a", 8, 5)), use("a", 9, 5))
}

// P28.1: the Limit changed in between: now's alone is asked.
func TestJudgeLimit(t *testing.T) {
	for _, limit := range []int64{low, -1, 0, 4, 5, 6, 7, 8, high} {
		was := some(use("a", 7, limit))
		checkWell(t, was, some(use("a", 7, 5)))
		checkWell(t, was, some(use("a", 6, 5)))
		checkWell(t, was, some(use("a", 5, 5)))
		checkWell(t, was, some(use("a", 7, low)))
		checkWell(t, was, some(use("a", 8, 8)))
		checkBad(t, was, some(use("a", 8, 5)), use("a", 8, 5))
		checkBad(t, was, some(use("a", 8, 7)), use("a", 8, 7))
		checkBad(t, was, some(use("a", 9, 8)), use("a", 9, 8))
		checkBad(t, was, some(use("a", high, high-1)), use("a", high, high-1))
	}
	// It was above its own limit then, but not above that of now, or as much as that.
	checkBad(t, some(use("a", 4, 3)), some(use("a", 6, 5)), use("a", 6, 5))
	checkBad(t, some(use("a", 5, 3)), some(use("a", 6, 5)), use("a", 6, 5))
}

// P28.1: which of several is told: the first of now that may not be, with its numbers of now.
func TestJudgeFirst(t *testing.T) {
	was := some(use("a", 9, 5), use("b", 3, 5), use("c", 6, 5), use("d", 5, 5))
	a, b, c, d := use("a", 9, 5), use("b", 6, 4), use("c", 7, 5), use("d", 6, 5)
	checkBad(t, was, some(a, b, c, d), b)
	checkBad(t, was, some(a, c, b, d), c)
	checkBad(t, was, some(d, c, b, a), d)
	checkBad(t, was, some(use("b", 5, 5), use("c", 6, 5), a, d), d)
	checkBad(t, was, some(use("e", 1, 0), b), use("e", 1, 0))
	checkBad(t, was, some(a, use("e", 0, 0), use("e", 1, 0), b), use("e", 1, 0))
	checkWell(t, was, some(a, use("b", 5, 5), use("c", 6, 5), use("d", 5, 5), use("e", 0, 0)))
	checkWell(t, was, was)
	// The one that is the furthest above, or that rose the most, is not asked for.
	checkBad(t, was, some(use("d", 6, 5), use("b", high, low)), use("d", 6, 5))
}

// P28.2
func TestRoom(t *testing.T) {
	for _, x := range []struct {
		used, limit, want int64
		why               api.Errno
	}{
		{0, 0, 0, api.OK}, {3, 5, 2, api.OK}, {5, 5, 0, api.OK}, {6, 5, -1, api.OK}, {-3, 5, 8, api.OK}, {3, -5, -8, api.OK}, {-5, -3, 2, api.OK},
		{0, high, high, api.OK}, {0, low, low, api.OK}, {high, high, 0, api.OK}, {low, low, 0, api.OK}, {high, 0, -high, api.OK}, {low, -1, high, api.OK}, {high, -1, low, api.OK}, {1, high, high - 1, api.OK}, {-1, low, low + 1, api.OK}, {low + 1, 0, high, api.OK}, {1, low + 1, low, api.OK}, {-1, high - 1, high, api.OK},
		// Above.
		{-1, high, 0, api.ErrOver}, {low, 0, 0, api.ErrOver}, {low, high, 0, api.ErrOver}, {low + 1, 1, 0, api.ErrOver}, {-2, high - 1, 0, api.ErrOver}, {-1 << 62, 1 << 62, 0, api.ErrOver},
		// Below.
		{1, low, 0, api.ErrOver}, {high, -2, 0, api.ErrOver}, {high, low, 0, api.ErrOver}, {2, low + 1, 0, api.ErrOver}, {1<<62 + 1, -1 << 62, 0, api.ErrOver},
	} {
		u := use("a", x.used, x.limit)
		if got, why := Room(u); got != x.want || why != x.why {
			t.Errorf("Room(%v): %d, %d, not %d, %d", u, got, why, x.want, x.why)
		}
		if got, why := Room(api.Use{Used: x.used, Limit: x.limit}); got != x.want || why != x.why {
			t.Errorf("Room of no names: %d, %d", got, why)
		}
	}
}

func checkWorst(t *testing.T, l []api.Use, want api.Use) {
	t.Helper()
	if got, why := Worst(l...); got != want || why != api.OK {
		t.Error("Worst", brief(l), "is", brief(got), why, "not", brief(want))
	}
}

// P28.2
func TestWorst(t *testing.T) {
	for _, l := range [][]api.Use{nil, some()} {
		if u, why := Worst(l...); u != (api.Use{}) || why != api.ErrNone {
			t.Error(u, why)
		}
	}
	for _, u := range some(use("a", 3, 5), use("b", 6, 5), use("c", high, low), use("d", low, high), api.Use{}) {
		checkWorst(t, some(u), u)
		checkWorst(t, some(u, u), u)
	}
	// In order of how much room there is: the difference counts, not what is used, or the limit.
	rising := some(use("a", high, low), use("b", high, low+1), use("c", high-1, low+1), use("d", 2, low), use("e", 1, low), use("f", 0, low), use("g", high, 0), use("h", 10, 1), use("i", 6, 5), use("j", -4, -4), use("k", 100, 101), use("l", -1, 1), use("m", 0, high-1), use("n", 0, high), use("o", -1, high), use("p", low, 1), use("q", low+1, high), use("r", low, high))
	for i, a := range rising {
		for _, b := range rising[i+1:] {
			checkWorst(t, some(a, b), a)
			checkWorst(t, some(b, a), a)
			checkWorst(t, some(b, b, a, b), a)
		}
		checkWorst(t, rising[i:], a)
		back := slices.Clone(rising[i:])
		slices.Reverse(back)
		checkWorst(t, back, a)
	}
	// Of those with as much room the first one, also where that does not fit.
	for _, l := range [][]api.Use{
		some(use("b", 3, 5), use("a", 1, 3), use("c", -2, 0), use("d", 3, 5)),
		some(use("b", high, low), use("a", high, low)),
		some(use("b", high-1, low), use("a", high, low+1)),
		some(use("b", low, high-1), use("a", low+1, high)),
		some(use("b", 2, low), use("a", 3, low+1), use("c", high, -3)),
		some(use("b", 0, low), use("a", high, -1)),
	} {
		for i := range l {
			ahead := slices.Concat(l[i:], l[:i])
			checkWorst(t, ahead, ahead[0])
			checkWorst(t, slices.Insert(slices.Clone(ahead), 0, use("z", low, high)), ahead[0])
		}
	}
}

// P28.1 and P28.3, of the uses that a tree has as rows change: what would rise above its limit is refused.
func TestOfUsage(t *testing.T) {
	tree := tenant.New()
	tree.Add("a", "")
	tree.Add("b", "a")
	uses := func(a, b int64) []api.Use {
		l, why := usage.Of("q", 20, tree, api.Entry{Row: []api.Value{value.Text("a"), value.Int(a)}, Many: 1}, api.Entry{Row: []api.Value{value.Text("b"), value.Int(b)}, Many: 1})
		if why != api.OK {
			t.Fatal(why)
		}
		return l
	}
	checkWell(t, uses(10, 9), uses(10, 10))
	checkBad(t, uses(10, 10), uses(10, 11), use("a", 21, 20))
	checkBad(t, uses(0, 10), uses(0, 21), use("a", 21, 20))
	checkBad(t, uses(5, 20), uses(4, 21), use("b", 21, 20))
	checkWell(t, uses(5, 20), uses(4, 20))
	checkOver(t, uses(5, 21), use("a", 26, 20), use("b", 21, 20))
	checkWorst(t, uses(5, 3), use("a", 8, 20))
	checkWorst(t, uses(-5, 3), use("b", 3, 20))
}

// Rules 3 to 5: what is handed in stays as it is, and is not kept; what is answered is shared with nothing.
func TestNothingShared(t *testing.T) {
	all := some(use("b", 9, 5), use("a", 3, 5), use("c", 7, 5), use("d", 8, 5), use("e", 9, 5))
	also := some(use("c", 8, 5), use("b", 8, 5), use("d", 0, 5), use("z", 3, 5))
	was := fmt.Sprint(all, also)
	stays := func(what string) {
		t.Helper()
		if fmt.Sprint(all, also) != was {
			t.Error(what, all, also)
		}
	}
	l, ahead := all[:3], also[:2]
	first, second := Over(l...), Over(l...)
	stays("Over")
	Judge(ahead, l)
	stays("Judge")
	Judge(l, ahead)
	Worst(l...)
	stays("Worst")
	want := some(use("b", 9, 5), use("c", 7, 5))
	clear(first)
	_ = append(first[:1], use("x", 1, 1), use("y", 2, 2), use("z", 3, 3))
	if !slices.Equal(second, want) {
		t.Error("spoilt", second)
	}
	checkOver(t, l, want...)
	stays("spoilt")
	clear(all)
	if !slices.Equal(second, want) {
		t.Error("kept", second)
	}
	checkOver(t, l)
}

// P6: many uses, long names.
func TestEnds(t *testing.T) {
	long := strings.Repeat("q", 1<<16)
	u := api.Use{Rule: long, Tenant: long, Used: 3, Limit: 2}
	checkBad(t, slices.Repeat(some(api.Use{Rule: long, Tenant: long + "a", Used: 9}, api.Use{}), 1<<10), some(api.Use{}, u), u)
	many := slices.Repeat(some(use("a", 9, 5), use("b", 3, 5), use("c", high, low), use("d", low, high)), 1<<12)
	if got := Over(many...); len(got) != 1<<13 {
		t.Error(len(got))
	}
	checkWell(t, many, many)
	checkWorst(t, many, use("c", high, low))
	checkBad(t, many, append(slices.Clone(many), use("a", 10, 5)), use("a", 10, 5))
}
