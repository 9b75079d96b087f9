package usage

import (
	"math"
	"math/big"
	"math/rand"
	"slices"
	"testing"

	"verderer/api"
	"verderer/row"
	"verderer/tenant"
	"verderer/value"
)

// chance makes trees and rows, mostly such as may be.
type chance struct{ *rand.Rand }

var names = []string{"a", "b", "c", "d", "e", "f", "a1", "a_", "ab", "z"}

func (c chance) name() string { return names[c.Intn(len(names))] }

// change has one thing done to a tree, or refused.
func (c chance) change(t *tenant.Tree) {
	parent := c.name()
	if c.Intn(4) == 0 {
		parent = ""
	}
	switch c.Intn(5) {
	case 0, 1, 2:
		t.Add(c.name(), parent)
	case 3:
		t.Move(c.name(), parent)
	case 4:
		t.Drop(c.name())
	}
}

// number is one that is small, or such that few of it do not fit.
func (c chance) number() int64 {
	switch c.Intn(12) {
	case 0:
		return int64(c.Uint64()) >> c.Intn(64)
	case 1:
		return math.MaxInt64 - int64(c.Intn(20))
	case 2:
		return math.MinInt64 + int64(c.Intn(20))
	}
	return int64(c.Intn(41)) - 20
}

func (c chance) value() api.Value {
	v := api.Value{Kind: c.Intn(6) - 1}
	if c.Intn(2) == 0 {
		v.Text = c.name()
	}
	if c.Intn(2) == 0 {
		v.Int = c.number()
	}
	v.Flag = c.Intn(3) == 0
	return v
}

func (c chance) row() []api.Value {
	r := row.Of(value.Text(c.name()), value.Int(c.number()))
	switch c.Intn(8) {
	case 0:
		r[c.Intn(2)] = c.value()
	case 1:
		r = r[:c.Intn(3)]
	case 2:
		r = append(r, c.value())
	}
	return r
}

func (c chance) rows() []api.Entry {
	l := make([]api.Entry, c.Intn(20))
	for i := range l {
		l[i] = api.Entry{Row: c.row(), Many: c.number()}
	}
	return l
}

// ownOf is what chapter 27 says of Own, field by field.
func ownOf(name string, l []api.Entry) (int64, bool) {
	for _, e := range l {
		if len(e.Row) != 2 {
			continue
		}
		first, second := e.Row[0], e.Row[1]
		if first.Kind == 3 && !first.Flag && first.Int == 0 && first.Text == name && second.Kind == 2 {
			return second.Int, true
		}
	}
	return 0, false
}

// sumOf is how much a tenant uses, without bounds: what it uses alone, and what those use whose parent it is.
func sumOf(name string, all []api.Tenant, l []api.Entry) *big.Int {
	own, _ := ownOf(name, l)
	out := big.NewInt(own)
	for _, x := range all {
		if x.Parent == name {
			out.Add(out, sumOf(x.Name, all, l))
		}
	}
	return out
}

// usesOf is what Of is to answer, tenant by tenant.
func usesOf(rule string, limit int64, all []api.Tenant, l []api.Entry) ([]api.Use, api.Errno) {
	var out []api.Use
	for _, x := range all {
		sum := sumOf(x.Name, all, l)
		if !sum.IsInt64() {
			return nil, api.ErrOver
		}
		out = append(out, api.Use{Rule: rule, Tenant: x.Name, Used: sum.Int64(), Limit: limit})
	}
	return out, api.OK
}

// P27.1 and P27.2, of many trees and rows.
func TestAsDefined(t *testing.T) {
	c := chance{rand.New(rand.NewSource(27))}
	done, deepest := map[api.Errno]int{}, 0
	for range 400 {
		tree := tenant.New()
		for range 60 {
			c.change(tree)
			all, l, limit := tree.All(), c.rows(), c.number()
			want, wantWhy := usesOf("q", limit, all, l)
			got, why := Of("q", limit, tree, l...)
			if !slices.Equal(got, want) || why != wantWhy {
				t.Fatal("Of", all, l, got, why, want, wantWhy)
			}
			for _, name := range names {
				n, there := Own(name, l...)
				if want, is := ownOf(name, l); n != want || there != is {
					t.Fatal("Own", name, l, n, there)
				}
				deepest = max(deepest, tree.Depth(name))
			}
			checkParts(t, tree, l, got)
			done[why]++
		}
	}
	if done[api.OK] < 5000 || done[api.ErrOver] < 500 || deepest != api.MaxDepth {
		t.Error(done, deepest)
	}
}

// checkParts holds each use that was told against Own, and the uses that were told of those whose parent that tenant is.
func checkParts(t *testing.T, tree *tenant.Tree, l []api.Entry, uses []api.Use) {
	t.Helper()
	for _, u := range uses {
		own, _ := Own(u.Tenant, l...)
		sum := big.NewInt(own)
		for _, x := range tree.All() {
			if x.Parent != u.Tenant {
				continue
			}
			low, there := Find("q", x.Name, uses...)
			if !there {
				t.Fatal("no use", x, uses)
			}
			sum.Add(sum, big.NewInt(low.Used))
		}
		if sum.Cmp(big.NewInt(u.Used)) != 0 {
			t.Fatal("parts", u, sum, uses)
		}
	}
}

// P27.1: Find of many uses tells the first one, or none.
func TestFindAsDefined(t *testing.T) {
	c := chance{rand.New(rand.NewSource(27))}
	found := 0
	for range 5000 {
		l := make([]api.Use, c.Intn(12))
		for i := range l {
			l[i] = api.Use{Rule: c.name(), Tenant: c.name(), Used: c.number(), Limit: c.number()}
		}
		rule, name := c.name(), c.name()
		var want api.Use
		at := slices.IndexFunc(l, func(u api.Use) bool { return [2]string{u.Rule, u.Tenant} == [2]string{rule, name} })
		if at >= 0 {
			want = l[at]
			found++
		}
		if got, there := Find(rule, name, l...); got != want || there != (at >= 0) {
			t.Fatal(rule, name, l, got, there)
		}
	}
	if found < 100 {
		t.Error(found)
	}
}
