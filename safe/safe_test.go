package safe

import (
	"math"
	"math/big"
	"math/rand"
	"slices"
	"testing"

	"verderer/api"
)

const most = api.MaxCount

// edges has numbers at which sums, differences and products begin not to fit.
func edges() []int64 {
	l := []int64{0, math.MaxInt64, math.MinInt64, math.MaxInt64 / 2, math.MinInt64 / 2, math.MaxInt64 / 3, math.MinInt64 / 3, 3037000499, 3037000500, -3037000499, -3037000500}
	for _, bit := range []int{0, 1, 2, 29, 30, 31, 32, 33, 61, 62} {
		n := int64(1) << bit
		l = append(l, n, n-1, n+1, -n, -n-1, -n+1)
	}
	return append(l, math.MaxInt64-1, math.MinInt64+1)
}

// fitting answers what a call is to answer whose result, without bounds, is n.
func fitting(n *big.Int) (int64, api.Errno) {
	if !n.IsInt64() {
		return 0, api.ErrOver
	}
	return n.Int64(), api.OK
}

// checkPair holds Add, Sub and Mul of a and b against numbers without bounds.
func checkPair(t *testing.T, a, b int64) {
	t.Helper()
	x, y := big.NewInt(a), big.NewInt(b)
	for _, c := range []struct {
		name string
		call func(a, b int64) (int64, api.Errno)
		want *big.Int
	}{
		{"Add", Add, new(big.Int).Add(x, y)},
		{"Sub", Sub, new(big.Int).Sub(x, y)},
		{"Mul", Mul, new(big.Int).Mul(x, y)},
	} {
		n, why := c.call(a, b)
		if want, wantWhy := fitting(c.want); n != want || why != wantWhy {
			t.Error(c.name, a, b, n, why)
		}
	}
}

// P3.1
func TestEdges(t *testing.T) {
	for _, a := range edges() {
		for _, b := range edges() {
			checkPair(t, a, b)
		}
	}
}

// P3.1
func TestAnyNumbers(t *testing.T) {
	r := rand.New(rand.NewSource(3))
	for range 100000 {
		checkPair(t, int64(r.Uint64())>>r.Intn(64), int64(r.Uint64())>>r.Intn(64))
		if t.Failed() {
			return
		}
	}
}

// P3.1: some that are plain to see.
func TestPlain(t *testing.T) {
	for _, x := range []struct {
		call       func(a, b int64) (int64, api.Errno)
		a, b, want int64
		why        api.Errno
	}{
		{Add, 2, 3, 5, api.OK},
		{Add, -2, -3, -5, api.OK},
		{Add, math.MaxInt64, 0, math.MaxInt64, api.OK},
		{Add, math.MaxInt64, 1, 0, api.ErrOver},
		{Add, math.MinInt64, -1, 0, api.ErrOver},
		{Add, math.MinInt64, math.MinInt64, 0, api.ErrOver},
		{Add, math.MinInt64, math.MaxInt64, -1, api.OK},
		{Sub, 2, 3, -1, api.OK},
		{Sub, -1, math.MinInt64, math.MaxInt64, api.OK},
		{Sub, 0, math.MinInt64, 0, api.ErrOver},
		{Sub, math.MinInt64, math.MinInt64, 0, api.OK},
		{Sub, math.MinInt64, 1, 0, api.ErrOver},
		{Sub, math.MaxInt64, -1, 0, api.ErrOver},
		{Mul, 2, -3, -6, api.OK},
		{Mul, 0, math.MinInt64, 0, api.OK},
		{Mul, math.MinInt64, 1, math.MinInt64, api.OK},
		{Mul, math.MinInt64, -1, 0, api.ErrOver},
		{Mul, -1, math.MinInt64, 0, api.ErrOver},
		{Mul, 1 << 32, 1 << 32, 0, api.ErrOver},
		{Mul, 1 << 32, -1 << 31, math.MinInt64, api.OK},
	} {
		if n, why := x.call(x.a, x.b); n != x.want || why != x.why {
			t.Error(x.a, x.b, n, why)
		}
	}
}

// checkSum holds all that a Sum answers against a sum without bounds.
func checkSum(t *testing.T, s *Sum, want *big.Int) {
	t.Helper()
	n, why := s.Value()
	if w, wantWhy := fitting(want); n != w || why != wantWhy {
		t.Error("Value", n, why, want)
	}
	if s.Sign() != want.Sign() {
		t.Error("Sign", s.Sign(), want)
	}
}

// P3.2
func TestZero(t *testing.T) {
	var s Sum
	checkSum(t, &s, new(big.Int))
	checkSum(t, new(Sum), new(big.Int))
}

// P3.2
func TestNil(t *testing.T) {
	var s *Sum
	for _, times := range []int64{0, 1, -1, most, most + 1, math.MinInt64} {
		if why := s.Put(7, times); why != api.ErrNil {
			t.Error("Put", times, why)
		}
	}
	if n, why := s.Value(); n != 0 || why != api.ErrNil {
		t.Error("Value", n, why)
	}
	if s.Sign() != 0 {
		t.Error("Sign", s.Sign())
	}
}

// P3.2
func TestTimes(t *testing.T) {
	for _, times := range []int64{0, 1, -1, most - 1, most, -most + 1, -most} {
		for _, n := range edges() {
			var s Sum
			if why := s.Put(n, times); why != api.OK {
				t.Error(n, times, why)
			}
			checkSum(t, &s, new(big.Int).Mul(big.NewInt(n), big.NewInt(times)))
		}
	}
	for _, times := range []int64{most + 1, -most - 1, 1 << 31, 1 << 62, math.MaxInt64, math.MinInt64} {
		for _, n := range edges() {
			var s Sum
			s.Put(5, 1)
			if why := s.Put(n, times); why != api.ErrArg {
				t.Error(n, times, why)
			}
			// A refused call changes nothing (rule 3).
			checkSum(t, &s, big.NewInt(5))
		}
	}
}

// P3.2: the sum is exact whatever it is, and is told again as soon as it fits.
func TestExact(t *testing.T) {
	var s Sum
	s.Put(1<<62, 4)
	if n, why := s.Value(); n != 0 || why != api.ErrOver || s.Sign() != 1 {
		t.Error("above", n, why)
	}
	s.Put(1<<62, -3)
	if n, why := s.Value(); n != 1<<62 || why != api.OK || s.Sign() != 1 {
		t.Error("back", n, why)
	}
	s.Put(math.MinInt64, 1)
	s.Put(1<<62, -1)
	if n, why := s.Value(); n != math.MinInt64 || why != api.OK || s.Sign() != -1 {
		t.Error("least", n, why)
	}
	s.Put(-1, 1)
	if n, why := s.Value(); n != 0 || why != api.ErrOver || s.Sign() != -1 {
		t.Error("below", n, why)
	}
}

// put has a number that is put so many times.
type put struct{ n, times int64 }

// puts has some whose sum passes the bounds of 64 and of 96 bits, both ways.
func puts() []put {
	l := []put{{0, 0}, {1, 1}, {-1, 1}, {1, -1}, {0, most}, {5, 0}, {math.MinInt64, 0}}
	for _, n := range []int64{math.MaxInt64, math.MinInt64, math.MinInt64 + 1, 1 << 62, -1 << 62, 1 << 34, 3} {
		for _, times := range []int64{most, -most, most - 1, 1, -1, 7} {
			l = append(l, put{n, times})
		}
	}
	return l
}

// P3.2: behind each of many Puts the sum is that without bounds.
func TestAlong(t *testing.T) {
	r := rand.New(rand.NewSource(4))
	for range 200 {
		var s Sum
		want := new(big.Int)
		for range 60 {
			p := puts()[r.Intn(len(puts()))]
			if r.Intn(2) == 0 {
				p = put{int64(r.Uint64()) >> r.Intn(64), r.Int63n(2*most+1) - most}
			}
			if why := s.Put(p.n, p.times); why != api.OK {
				t.Error(p, why)
			}
			want.Add(want, new(big.Int).Mul(big.NewInt(p.n), big.NewInt(p.times)))
			checkSum(t, &s, want)
		}
	}
}

// P3.2: the greatest and the least number go in as often as may be, a hundred thousand times, and out again.
func TestFar(t *testing.T) {
	for _, n := range []int64{math.MaxInt64, math.MinInt64} {
		var s Sum
		step := new(big.Int).Mul(big.NewInt(n), big.NewInt(most))
		for range 100000 {
			s.Put(n, most)
		}
		checkSum(t, &s, new(big.Int).Mul(step, big.NewInt(100000)))
		for range 99999 {
			s.Put(n, -most)
		}
		checkSum(t, &s, step)
		s.Put(n, 1-most)
		checkSum(t, &s, big.NewInt(n))
	}
}

// P3.3
func TestAnyOrder(t *testing.T) {
	r := rand.New(rand.NewSource(5))
	l := puts()
	var first Sum
	for _, p := range l {
		first.Put(p.n, p.times)
	}
	for range 200 {
		r.Shuffle(len(l), func(i, k int) { l[i], l[k] = l[k], l[i] })
		var s Sum
		for _, p := range l {
			s.Put(p.n, p.times)
		}
		if s != first {
			t.Fatal("another order, another sum", s, first)
		}
	}
}

// P3.3
func TestOpposite(t *testing.T) {
	l := puts()
	for _, before := range l {
		var s Sum
		s.Put(before.n, before.times)
		was := s
		for _, p := range l {
			s.Put(p.n, p.times)
		}
		slices.Reverse(l)
		for _, p := range l {
			s.Put(p.n, -p.times)
		}
		if s != was {
			t.Error("not as it was", before, s, was)
		}
	}
	// One number in pieces is the same as in one.
	var pieces, one Sum
	pieces.Put(math.MinInt64, most-2)
	pieces.Put(math.MinInt64, 1)
	pieces.Put(-1<<62, 2)
	one.Put(math.MinInt64, most)
	if pieces != one {
		t.Error("pieces", pieces, one)
	}
}

// A Sum that is copied goes its own way.
func TestCopied(t *testing.T) {
	var a Sum
	a.Put(3, 1)
	b := a
	b.Put(4, 1)
	checkSum(t, &a, big.NewInt(3))
	checkSum(t, &b, big.NewInt(7))
}
