package quota

import (
	"math"
	"math/big"
	"math/rand"
	"slices"
	"testing"

	"verderer/api"
)

// chance makes uses, of few names and of numbers that are close to each other.
type chance struct{ *rand.Rand }

func (c chance) number() int64 {
	switch c.Intn(10) {
	case 0:
		return int64(c.Uint64()) >> c.Intn(64)
	case 1:
		return math.MaxInt64 - int64(c.Intn(3))
	case 2:
		return math.MinInt64 + int64(c.Intn(3))
	}
	return int64(c.Intn(7)) - 3
}

func (c chance) use() api.Use {
	return api.Use{Rule: []string{"q", "r"}[c.Intn(2)], Tenant: []string{"a", "b", "c"}[c.Intn(3)], Used: c.number(), Limit: c.number()}
}

func (c chance) uses() []api.Use {
	l := make([]api.Use, c.Intn(6))
	for i := range l {
		l[i] = c.use()
	}
	return l
}

func roomOf(u api.Use) *big.Int { return new(big.Int).Sub(big.NewInt(u.Limit), big.NewInt(u.Used)) }

func sameOwner(a, b api.Use) bool { return a.Rule == b.Rule && a.Tenant == b.Tenant }

// mayBe: is a use within its limit, or was it, as the first one of was tells, above that already, and does not rise?
func mayBe(was []api.Use, u api.Use) bool {
	if u.Used <= u.Limit {
		return true
	}
	for _, old := range was {
		if sameOwner(old, u) {
			return old.Used > u.Limit && !(old.Used < u.Used)
		}
	}
	return false
}

func judge(was, now []api.Use) (api.Use, api.Errno) {
	for _, u := range now {
		if !mayBe(was, u) {
			return u, api.ErrQuota
		}
	}
	return api.Use{}, api.OK
}

// worst is the first use with which no other one's room is less.
func worst(l []api.Use) (api.Use, api.Errno) {
	for _, u := range l {
		if !slices.ContainsFunc(l, func(other api.Use) bool { return roomOf(other).Cmp(roomOf(u)) < 0 }) {
			return u, api.OK
		}
	}
	return api.Use{}, api.ErrNone
}

// P28.1 and P28.2, of many uses.
func TestAsDefined(t *testing.T) {
	c := chance{rand.New(rand.NewSource(28))}
	done := map[api.Errno]int{}
	for range 100000 {
		was, now := c.uses(), c.uses()
		got, why := Judge(was, now)
		if want, wantWhy := judge(was, now); got != want || why != wantWhy {
			t.Fatal("Judge", was, now, got, why, want, wantWhy)
		}
		done[why]++
		got, why = Worst(now...)
		if want, wantWhy := worst(now); got != want || why != wantWhy {
			t.Fatal("Worst", now, got, why, want, wantWhy)
		}
		over := slices.DeleteFunc(slices.Clone(now), func(u api.Use) bool { return roomOf(u).Sign() >= 0 })
		if l := Over(now...); !slices.Equal(l, over) {
			t.Fatal("Over", now, l, over)
		}
		checkRoom(t, c.use())
	}
	if done[api.OK] < 10000 || done[api.ErrQuota] < 10000 {
		t.Error(done)
	}
}

func checkRoom(t *testing.T, u api.Use) {
	t.Helper()
	var want int64
	wantWhy := api.ErrOver
	if room := roomOf(u); room.IsInt64() {
		want, wantWhy = room.Int64(), api.OK
	}
	if got, why := Room(u); got != want || why != wantWhy {
		t.Fatal("Room", u, got, why, want, wantWhy)
	}
}

// owned has each rule and tenant once at most, with limits that stay.
func (c chance) owned(limits map[[2]string]int64) []api.Use {
	var out []api.Use
	for range c.Intn(8) {
		u := c.use()
		if slices.ContainsFunc(out, func(other api.Use) bool { return sameOwner(other, u) }) {
			continue
		}
		at := [2]string{u.Rule, u.Tenant}
		if _, there := limits[at]; !there {
			limits[at] = u.Limit
		}
		u.Limit = limits[at]
		out = append(out, u)
	}
	return out
}

// P28.3: what is within its limit stays so behind all steps that are judged well, also if it goes and comes again in between; what is above it does not rise.
func TestSteps(t *testing.T) {
	c := chance{rand.New(rand.NewSource(28))}
	taken, fell := 0, 0
	for range 3000 {
		limits := map[[2]string]int64{}
		was := c.owned(limits)
		bound := map[[2]string]int64{}
		for _, u := range was {
			bound[[2]string{u.Rule, u.Tenant}] = max(u.Used, u.Limit)
		}
		for range 30 {
			now := c.owned(limits)
			if _, why := Judge(was, now); why != api.OK {
				continue
			}
			taken++
			for _, u := range now {
				at := [2]string{u.Rule, u.Tenant}
				if most, there := bound[at]; u.Used > u.Limit && (!there || u.Used > most) {
					t.Fatal("rose", u, was, now)
				}
				if bound[at] > max(u.Used, u.Limit) {
					fell++
				}
				bound[at] = max(u.Used, u.Limit)
			}
			was = now
		}
	}
	if taken < 10000 || fell < 100 {
		t.Error(taken, fell)
	}
}

// P28.3, a single step: whatever the limits were ahead, what was within that of now is so now.
func TestStep(t *testing.T) {
	c := chance{rand.New(rand.NewSource(28))}
	held := 0
	for range 100000 {
		was, now := c.uses(), c.uses()
		if _, why := Judge(was, now); why != api.OK {
			continue
		}
		for _, u := range now {
			at := slices.IndexFunc(was, func(old api.Use) bool { return sameOwner(old, u) })
			if at < 0 || was[at].Used > u.Limit {
				continue
			}
			held++
			if u.Used > u.Limit {
				t.Fatal("above", u, was, now)
			}
		}
	}
	if held < 10000 {
		t.Error(held)
	}
}

// P28.4: uses that are not above others, each, are judged well behind these, if there are no more; in whatever order they are, and whatever the limits are.
func TestNoneAbove(t *testing.T) {
	c := chance{rand.New(rand.NewSource(28))}
	less := 0
	for range 50000 {
		was := c.owned(map[[2]string]int64{})
		now := slices.Clone(was)
		for i := range now {
			if n := c.number(); n < now[i].Used {
				now[i].Used = n
				less++
			}
			if c.Intn(3) == 0 {
				now[i].Limit = c.number()
			}
		}
		c.Shuffle(len(now), func(i, k int) { now[i], now[k] = now[k], now[i] })
		now = now[:len(now)-c.Intn(len(now)+1)]
		checkWell(t, was, now)
		checkWell(t, was, was)
	}
	if less < 10000 {
		t.Error(less)
	}
}
