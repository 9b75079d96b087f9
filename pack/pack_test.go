package pack

import (
	"bytes"
	"math"
	"math/rand"
	"slices"
	"strings"
	"testing"

	"verderer/api"
	"verderer/value"
)

var null = api.Value{}

// text answers bytes of a text's value: its mark, s as it stands, its end.
func text(s string) string { return "\x04" + s + "\x00\x01" }

// full has as many bytes as a text may.
var full = strings.Repeat("x", api.MaxText)

// inOrder has values, each ahead of the next, with their bytes.
func inOrder() []struct {
	v api.Value
	b string
} {
	return []struct {
		v api.Value
		b string
	}{
		{value.Null(), "\x01"},
		{value.Bool(false), "\x02\x00"},
		{value.Bool(true), "\x02\x01"},
		{value.Int(math.MinInt64), "\x03\x00\x00\x00\x00\x00\x00\x00\x00"},
		{value.Int(math.MinInt64 + 1), "\x03\x00\x00\x00\x00\x00\x00\x00\x01"},
		{value.Int(-256), "\x03\x7f\xff\xff\xff\xff\xff\xff\x00"},
		{value.Int(-1), "\x03\x7f\xff\xff\xff\xff\xff\xff\xff"},
		{value.Int(0), "\x03\x80\x00\x00\x00\x00\x00\x00\x00"},
		{value.Int(1), "\x03\x80\x00\x00\x00\x00\x00\x00\x01"},
		{value.Int(256), "\x03\x80\x00\x00\x00\x00\x00\x01\x00"},
		{value.Int(0x0102030405060708), "\x03\x81\x02\x03\x04\x05\x06\x07\x08"},
		{value.Int(math.MaxInt64), "\x03\xff\xff\xff\xff\xff\xff\xff\xff"},
		{value.Text(""), text("")},
		{value.Text("\x00"), text("\x00\xff")},
		{value.Text("\x00\x00"), text("\x00\xff\x00\xff")},
		{value.Text("\x00\x00a"), text("\x00\xff\x00\xffa")},
		{value.Text("\x00\x01"), text("\x00\xff\x01")},
		{value.Text("\x00\xff"), text("\x00\xff\xff")},
		{value.Text("\x01"), text("\x01")},
		{value.Text("a"), text("a")},
		{value.Text("a\x00"), text("a\x00\xff")},
		{value.Text("a\x00b"), text("a\x00\xffb")},
		{value.Text("a\x01"), text("a\x01")},
		{value.Text("ab"), text("ab")},
		{value.Text(full), text(full)},
		{value.Text("é"), text("\xc3\xa9")},
		{value.Text("\xff"), text("\xff")},
		{value.Text("\xff\x00"), text("\xff\x00\xff")},
		{value.Text("\xff\xff"), text("\xff\xff")},
	}
}

// zeros has as many zeros as a text may.
var zeros = strings.Repeat("\x00", api.MaxText)

// wrong has values that can not be.
func wrong() []api.Value {
	return []api.Value{
		{Kind: -1}, {Kind: 4}, {Kind: math.MinInt64}, {Kind: math.MaxInt64},
		{Int: 1}, {Flag: true}, {Text: "x"}, {Kind: api.Bool, Int: 1}, {Kind: api.Int, Text: "x"}, {Kind: api.Text, Flag: true},
		value.Text(full + "x"), value.Text(strings.Repeat("x", 1<<16)),
	}
}

// P4.1
func TestValue(t *testing.T) {
	for _, x := range inOrder() {
		if b := Value(x.v); string(b) != x.b {
			t.Errorf("%v: %x", x.v, b)
		}
	}
	if b := Value(value.Text(zeros)); string(b) != text(strings.Repeat("\x00\xff", api.MaxText)) {
		t.Errorf("zeros: %x", b)
	}
	for _, v := range wrong() {
		if b := Value(v); len(b) != 0 {
			t.Errorf("%v: %x", v, b)
		}
	}
}

// P4.1
func TestRow(t *testing.T) {
	for _, x := range []struct {
		r []api.Value
		b string
	}{
		{nil, "\x00"},
		{[]api.Value{}, "\x00"},
		{[]api.Value{null}, "\x01\x00"},
		{[]api.Value{null, value.Bool(true)}, "\x01\x02\x01\x00"},
		{[]api.Value{value.Text("\x00"), value.Int(-1), value.Text("")}, text("\x00\xff") + "\x03\x7f\xff\xff\xff\xff\xff\xff\xff" + text("") + "\x00"},
		// How wide a row may be (2) is not asked here.
		{make([]api.Value, 41), strings.Repeat("\x01", 41) + "\x00"},
		{make([]api.Value, 1000), strings.Repeat("\x01", 1000) + "\x00"},
	} {
		if b := Row(x.r); string(b) != x.b {
			t.Errorf("%v: %x", x.r, b)
		}
	}
	for _, v := range wrong() {
		for _, r := range [][]api.Value{{v}, {v, null}, {null, v}, {null, v, value.Int(1)}} {
			if b := Row(r); len(b) != 0 {
				t.Errorf("%v: %x", r, b)
			}
		}
	}
}

// P4.2
func TestFirst(t *testing.T) {
	for _, x := range inOrder() {
		for _, behind := range []string{"", "\x00", "\x01", "\x07", "\xff", "anything"} {
			if v, n, why := First([]byte(x.b + behind)); v != x.v || n != len(x.b) || why != api.OK {
				t.Errorf("%x %q: %v %d %d", x.b, behind, v, n, why)
			}
		}
		// While a byte is wanting no other error is to be seen.
		for n := range len(x.b) {
			checkFirst(t, x.b[:n], api.ErrShort)
		}
	}
}

func checkFirst(t *testing.T, s string, want api.Errno) {
	t.Helper()
	if v, n, why := First([]byte(s)); v != null || n != 0 || why != want {
		t.Errorf("%q: %v %d %d", s, v, n, why)
	}
}

// P4.2
func TestFirstForm(t *testing.T) {
	for c := range 256 {
		b := string([]byte{byte(c)})
		if c < 1 || c > 4 {
			checkFirst(t, b, api.ErrForm)
			checkFirst(t, b+"\x01\x00", api.ErrForm)
		}
		if c > 1 {
			checkFirst(t, "\x02"+b, api.ErrForm)
			checkFirst(t, "\x02"+b+"\x01", api.ErrForm)
		}
		if c != 1 && c != 255 {
			checkFirst(t, "\x04\x00"+b, api.ErrForm)
			checkFirst(t, "\x04a\x00\xff\x00"+b+"\x00\x01", api.ErrForm)
			// Of the 61st byte, too, a 0 is one only with a 255 behind.
			checkFirst(t, "\x04"+full+"\x00"+b, api.ErrForm)
		}
	}
	if _, _, why := First(nil); why != api.ErrShort {
		t.Error("nil", why)
	}
}

// P4.2: too long is seen as soon as the 61st byte is there, whole; not ahead of it, and whatever is behind it.
func TestFirstLong(t *testing.T) {
	twice := strings.Repeat("\x00\xff", api.MaxText)
	for _, s := range []string{full, full[1:] + "\x00\xff", "\x00\xff" + full[1:], twice} {
		s = "\x04" + s
		checkFirst(t, s, api.ErrShort)
		checkFirst(t, s+"\x00", api.ErrShort)
		for _, behind := range []string{"", "\x00", "\x00\x01", "\x00\x07", strings.Repeat("y", 1000)} {
			checkFirst(t, s+"y"+behind, api.ErrLong)
			checkFirst(t, s+"\x01"+behind, api.ErrLong)
			checkFirst(t, s+"\xff"+behind, api.ErrLong)
			checkFirst(t, s+"\x00\xff"+behind, api.ErrLong)
		}
		if v, n, why := First([]byte(s + "\x00\x01")); len(v.Text) != api.MaxText || n != len(s)+2 || why != api.OK {
			t.Errorf("%q: %v %d %d", s, v, n, why)
		}
	}
	// A form that is wrong ahead of the 61st byte is seen first.
	checkFirst(t, "\x04a\x00\x07"+full+full, api.ErrForm)
}

func checkBack(t *testing.T, s string, want api.Errno) {
	t.Helper()
	if r, why := Back([]byte(s)); len(r) != 0 || why != want {
		t.Errorf("%q: %v %d", s, r, why)
	}
}

// P4.2
func TestBackRefuses(t *testing.T) {
	good := "\x01\x02\x01" + text("a")
	for _, s := range []string{"", "\x01", good, "\x02", "\x01\x02", "\x03\x80", "\x04", good + "\x04", good + "\x04abc", good + "\x04abc\x00", "\x02\x00"} {
		checkBack(t, s, api.ErrShort)
	}
	for _, s := range []string{"\x05", "\xff\x00", good + "\x05\x00", good + "\x02\x02", good + "\x04\x00\x00", "\x00\x00", "\x00\x01", good + "\x00\x00", good + "\x00\x04", good + "\x00" + good + "\x00", "\x00\x05", "\x00" + text(full+"x")} {
		checkBack(t, s, api.ErrForm)
	}
	for _, s := range []string{text(full+"x") + "\x00", good + "\x04" + full + "x", "\x04" + full + "x\x05\x05"} {
		checkBack(t, s, api.ErrLong)
	}
	// The first value that has an error tells it.
	checkBack(t, text(full+"x")+"\x05", api.ErrLong)
	checkBack(t, "\x02\x07"+text(full+"x"), api.ErrForm)
	checkBack(t, "\x01\x06\x02", api.ErrForm)
	if _, why := Back(nil); why != api.ErrShort {
		t.Error("nil", why)
	}
}

// rows has rows whose values can be, in some order.
func rows() [][]api.Value {
	out := [][]api.Value{nil}
	l := inOrder()
	for _, x := range l {
		out = append(out, []api.Value{x.v})
		for _, y := range l {
			out = append(out, []api.Value{x.v, y.v}, []api.Value{x.v, y.v, null}, []api.Value{null, x.v, y.v})
		}
	}
	return append(out, make([]api.Value, 40), make([]api.Value, 41), []api.Value{value.Text(zeros), value.Text(zeros)})
}

// P4.3
func TestBackOfRow(t *testing.T) {
	for _, r := range rows() {
		b := Row(r)
		if got, why := Back(b); !slices.Equal(got, r) || why != api.OK {
			t.Error(r, got, why)
		}
		for n := range b {
			checkBack(t, string(b[:n]), api.ErrShort)
		}
		checkBack(t, string(b)+"\x00", api.ErrForm)
		if t.Failed() {
			return
		}
	}
}

// checkBytes holds what First and Back tell of any bytes against Value and Row.
func checkBytes(t *testing.T, b []byte) {
	t.Helper()
	v, n, why := First(b)
	if why == api.OK && (!value.Right(v) || n > len(b) || !bytes.Equal(Value(v), b[:n])) || why != api.OK && (v != null || n != 0) {
		t.Errorf("First %x: %v %d %d", b, v, n, why)
	}
	r, whyRow := Back(b)
	if whyRow == api.OK && !bytes.Equal(Row(r), b) || whyRow != api.OK && len(r) != 0 {
		t.Errorf("Back %x: %v %d", b, r, whyRow)
	}
	for _, e := range []api.Errno{why, whyRow} {
		if e != api.OK && e != api.ErrShort && e != api.ErrForm && e != api.ErrLong {
			t.Errorf("%x: %d", b, e)
		}
	}
}

// P4.3: of all short bytes over those that mean anything just those are taken that Row tells.
func TestAllShort(t *testing.T) {
	all := [][]byte{nil}
	for i := 0; i < len(all) && !t.Failed(); i++ {
		checkBytes(t, all[i])
		if len(all[i]) < 5 {
			for _, c := range []byte{0, 1, 2, 3, 4, 5, 'a', 255} {
				all = append(all, append(slices.Clip(all[i]), c))
			}
		}
	}
}

// P4.3: bytes of rows of which some are others.
func TestSpoilt(t *testing.T) {
	r := rand.New(rand.NewSource(6))
	l := rows()
	for range 50000 {
		b := Row(l[r.Intn(len(l))])
		for range r.Intn(4) {
			b[r.Intn(len(b))] = [...]byte{0, 1, 2, 3, 4, 5, 'a', 255}[r.Intn(8)]
		}
		checkBytes(t, b)
		checkBytes(t, b[:r.Intn(len(b)+1)])
		if t.Failed() {
			return
		}
	}
}

// P4.4
func TestOrder(t *testing.T) {
	l := inOrder()
	for i, x := range l[1:] {
		if bytes.Compare(Value(l[i].v), Value(x.v)) != -1 {
			t.Error(l[i].v, x.v)
		}
	}
	all := rows()
	for i := 0; i < len(all); i += 9 {
		a := all[i]
		for _, b := range all {
			if bytes.Compare(Row(a), Row(b)) != slices.CompareFunc(a, b, value.Compare) {
				t.Fatal(a, b)
			}
		}
	}
}

// P4.4
func TestOrderOfAny(t *testing.T) {
	r := rand.New(rand.NewSource(7))
	anyValue := func() api.Value {
		switch r.Intn(4) {
		case 0:
			return inOrder()[r.Intn(len(inOrder()))].v
		case 1:
			return value.Int(int64(r.Uint64()) >> r.Intn(64))
		}
		b := make([]byte, r.Intn(4))
		for i := range b {
			b[i] = [...]byte{0, 1, 'a', 254, 255}[r.Intn(5)]
		}
		return value.Text(string(b))
	}
	for range 100000 {
		var a, b []api.Value
		for range r.Intn(3) {
			v := anyValue()
			a, b = append(a, v), append(b, v)
		}
		for range r.Intn(3) {
			a = append(a, anyValue())
		}
		for range r.Intn(3) {
			b = append(b, anyValue())
		}
		if bytes.Compare(Row(a), Row(b)) != slices.CompareFunc(a, b, value.Compare) {
			t.Fatal(a, b)
		}
	}
}

// Rules 4 and 5: what is handed in is not changed, and shares nothing with what is answered.
func TestNothingShared(t *testing.T) {
	r := []api.Value{value.Text("a\x00"), null, value.Bool(true), value.Int(5)}
	calls := []func() []byte{
		func() []byte { return Row(r) },
		func() []byte { return Row(nil) },
		func() []byte { return Value(null) },
		func() []byte { return Value(r[0]) },
		func() []byte { return Value(r[2]) },
		func() []byte { return Value(r[3]) },
	}
	for i, call := range calls {
		want, b := call(), call()
		for k := range b {
			b[k] = 9
		}
		_ = append(b, 9)
		if !bytes.Equal(call(), want) {
			t.Error("seen later", i)
		}
	}
	if !slices.Equal(r, []api.Value{value.Text("a\x00"), null, value.Bool(true), value.Int(5)}) {
		t.Error("changed", r)
	}
	b := Row(r)
	was := bytes.Clone(b)
	first, _, _ := First(b)
	back, _ := Back(b)
	if !bytes.Equal(b, was) {
		t.Errorf("changed %x", b)
	}
	for k := range b {
		b[k] = 9
	}
	if first != r[0] || !slices.Equal(back, r) {
		t.Error("kept", first, back)
	}
	back[0] = null
	if again, _ := Back(was); !slices.Equal(again, r) {
		t.Error("seen later", again)
	}
}

func FuzzBytes(f *testing.F) {
	for _, r := range rows()[:100] {
		f.Add(Row(r))
	}
	f.Fuzz(checkBytes)
}
