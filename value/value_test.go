package value

import (
	"cmp"
	"math"
	"strings"
	"testing"

	"verderer/api"
)

// inOrder has values that can be, each ahead of the next.
func inOrder() []api.Value {
	return []api.Value{
		Null(),
		Bool(false), Bool(true),
		Int(math.MinInt64), Int(-10), Int(-9), Int(-1), Int(0), Int(1), Int(9), Int(10), Int(math.MaxInt64),
		Text(""), Text("\x00"), Text("\x00\x00"), Text("10"), Text("9"), Text("Z"), Text("a"), Text("a\x00"), Text("a "), Text("ab"), Text("b"),
		Text(strings.Repeat("b", api.MaxText)), Text("\x7f"), Text("\x80"), Text("é"), Text("\xff"),
	}
}

// wrong has values that can not be.
func wrong() []api.Value {
	return []api.Value{
		{Kind: math.MinInt64}, {Kind: -1}, {Kind: 4}, {Kind: math.MaxInt64}, {Kind: 4, Int: 3, Text: "x", Flag: true},
		{Flag: true}, {Int: 1}, {Text: "x"}, {Text: strings.Repeat("x", 100)},
		{Kind: api.Bool, Int: 1}, {Kind: api.Bool, Flag: true, Int: -1}, {Kind: api.Bool, Text: "x"},
		{Kind: api.Int, Flag: true}, {Kind: api.Int, Int: 5, Flag: true}, {Kind: api.Int, Text: "x"},
		{Kind: api.Text, Flag: true}, {Kind: api.Text, Text: "a", Flag: true}, {Kind: api.Text, Int: 1}, {Kind: api.Text, Text: "a", Int: 1},
		Text(strings.Repeat("x", api.MaxText+1)), Text(strings.Repeat("x", 1<<16)),
	}
}

func all() []api.Value { return append(inOrder(), wrong()...) }

// P1.1
func TestMakers(t *testing.T) {
	if Null() != (api.Value{}) || Null().Kind != 0 {
		t.Error("Null", Null())
	}
	for _, b := range []bool{false, true} {
		if Bool(b) != (api.Value{Kind: 1, Flag: b}) {
			t.Error("Bool", Bool(b))
		}
	}
	for _, n := range []int64{0, 1, -1, math.MinInt64, math.MaxInt64} {
		if Int(n) != (api.Value{Kind: 2, Int: n}) {
			t.Error("Int", Int(n))
		}
	}
	for _, s := range []string{"", "x", "\xff\x00", strings.Repeat("x", 60), strings.Repeat("x", 61)} {
		if Text(s) != (api.Value{Kind: 3, Text: s}) {
			t.Error("Text", Text(s))
		}
	}
}

// P1.1
func TestRight(t *testing.T) {
	for _, v := range inOrder() {
		if !Right(v) {
			t.Error("can be", v)
		}
	}
	for _, v := range wrong() {
		if Right(v) {
			t.Error("can not be", v)
		}
	}
	// The bound is of bytes: 30 letters of two bytes each are as many as there may be.
	if !Right(Text(strings.Repeat("é", 30))) || Right(Text(strings.Repeat("é", 30)+"x")) {
		t.Error("bytes")
	}
}

// P1.1
func TestCompareInOrder(t *testing.T) {
	l := inOrder()
	for i, a := range l {
		for k, b := range l {
			if Compare(a, b) != cmp.Compare(i, k) {
				t.Error(a, b, Compare(a, b))
			}
		}
	}
}

// P1.1
func TestCompareWrong(t *testing.T) {
	long := strings.Repeat("x", 100)
	for _, x := range []struct {
		a, b api.Value
		want int
	}{
		{api.Value{Kind: -1, Int: 9}, Null(), -1},
		{api.Value{Kind: math.MinInt64}, api.Value{Kind: math.MaxInt64}, -1},
		{api.Value{Kind: 4}, Text(long), 1},
		{api.Value{Kind: 4, Int: 1, Text: "a"}, api.Value{Kind: 4, Int: 2, Text: "b", Flag: true}, 0},
		{api.Value{Kind: -7, Int: 1}, api.Value{Kind: -7}, 0},
		{api.Value{Int: 1}, api.Value{Int: 2, Text: "x", Flag: true}, 0},
		{api.Value{Flag: true}, Null(), 0},
		{api.Value{Text: "x"}, Bool(false), -1},
		{api.Value{Kind: api.Bool, Int: 5}, api.Value{Kind: api.Bool, Int: 1}, 0},
		{api.Value{Kind: api.Bool, Int: 5}, api.Value{Kind: api.Bool, Flag: true}, -1},
		{api.Value{Kind: api.Int, Int: 5, Text: "a"}, api.Value{Kind: api.Int, Int: 5, Text: "b"}, 0},
		{api.Value{Kind: api.Int, Int: 6, Text: "a"}, api.Value{Kind: api.Int, Int: 5, Text: "b"}, 1},
		{api.Value{Kind: api.Text, Text: "a", Int: 9}, api.Value{Kind: api.Text, Text: "a", Flag: true}, 0},
		{Text(long), Text(long + "x"), -1},
		{Text(long), Text("y"), -1},
	} {
		if c := Compare(x.a, x.b); c != x.want {
			t.Error(x.a, x.b, c)
		}
		if c := Compare(x.b, x.a); c != -x.want {
			t.Error("the other way", x.a, x.b, c)
		}
	}
}

// P1.2
func TestTest(t *testing.T) {
	l := all()
	for _, a := range l {
		for _, b := range l {
			c := Compare(a, b)
			for op, want := range [...]bool{false, c == 0, c != 0, c == -1, c != 1, c == 1, c != -1, false} {
				if Test(op, a, b) != want {
					t.Error(op, a, b)
				}
			}
		}
	}
	for _, op := range []int{math.MinInt64, -1, 0, 7, 8, math.MaxInt64} {
		if Test(op, Int(1), Int(1)) || Test(op, Int(1), Int(2)) || Test(op, Int(2), Int(1)) {
			t.Error("no such comparison", op)
		}
	}
}

// words has values' words.
func words() map[string]api.Value {
	return map[string]api.Value{
		"null": Null(), "true": Bool(true), "false": Bool(false),
		"0": Int(0), "7": Int(7), "-1": Int(-1), "100": Int(100), "-120": Int(-120),
		"9223372036854775807": Int(math.MaxInt64), "-9223372036854775808": Int(math.MinInt64),
		`""`: Text(""), `"x"`: Text("x"), `" "`: Text(" "), `"~"`: Text("~"), `"null"`: Text("null"), `"-5"`: Text("-5"),
		`"\""`: Text(`"`), `"\\"`: Text(`\`), `"\\\""`: Text(`\"`), `"\\x41"`: Text(`\x41`), `"'"`: Text("'"), `"a,b(c)"`: Text("a,b(c)"),
		`"a\"\x0a"`: Text("a\"\n"), `"\x00"`: Text("\x00"), `"\x1f"`: Text("\x1f"), `"\x7f"`: Text("\x7f"), `"\x80\xff"`: Text("\x80\xff"), `"\xc3\xa9"`: Text("é"),
	}
}

// P1.3
func TestWords(t *testing.T) {
	for s, v := range words() {
		if w := Show(v); w != s {
			t.Error("Show", v, w)
		}
		if w, e := Read(s); e != api.OK || w != v {
			t.Error("Read", s, w, e)
		}
	}
	for _, v := range wrong() {
		if w := Show(v); w != "" {
			t.Error("Show", v, w)
		}
	}
}

// P1.3
func TestBytesOfWords(t *testing.T) {
	const digits = "0123456789abcdef"
	for c := range 256 {
		want := string([]byte{byte(c)})
		switch {
		case c == 34 || c == 92:
			want = `\` + want
		case c < 32 || c > 126:
			want = `\x` + digits[c/16:c/16+1] + digits[c%16:c%16+1]
		}
		if w := Show(Text(string([]byte{byte(c)}))); w != `"`+want+`"` {
			t.Error(c, w)
		}
	}
}

// P1.3
func TestReadRefuses(t *testing.T) {
	long := strings.Repeat("x", 61)
	for _, s := range []string{
		"", " ", "nul", "nulll", "Null", "NULL", "null ", " null", "True", "TRUE", "t", "1 ", " 1", "true,", "falsetrue",
		"-", "+", "+1", "-0", "+0", "00", "01", "-01", "--1", "1_0", "0x1", "1e3", "1.0", "1.", "٣", "9223372036854775808", "-9223372036854775809", strings.Repeat("9", 1000),
		`"`, `"a`, `a"`, `a`, `""a`, `"""`, `"a"b"`, `"\"`, `"\\\"`, `\"`, `'a'`, "`a`",
		`"\n"`, `"\a"`, `"\'"`, `"\ "`, `"\x"`, `"\x4"`, `"\x41"`, `"\x22"`, `"\x5c"`, `"\x0A"`, `"\xZZ"`, `"\x0"`, `"\x0`, `"\x0g"`, `"\xg0"`, `"\x7e"`, `"\x20"`, `"\X0a"`, `"\u000a"`, `"\012"`,
		"\"\n\"", "\"\x00\"", "\"\x7f\"", "\"\x80\"", "\"é\"",
		`"` + long + `"`, `"` + strings.Repeat(`\x00`, 61) + `"`, `"` + strings.Repeat("x", 1<<20) + `"`, long, strings.Repeat(`\`, 500),
	} {
		if v, e := Read(s); e != api.ErrForm || v != (api.Value{}) {
			t.Errorf("Read(%q): %v %v", s, v, e)
		}
	}
}

// P1.3: of all short texts over the signs that words are made of just those are taken that are the word of what they are read as.
func TestReadShort(t *testing.T) {
	short := []string{""}
	for i := 0; i < len(short); i++ {
		s := short[i]
		v, e := Read(s)
		if e == api.OK && Show(v) != s || e != api.OK && (e != api.ErrForm || v != (api.Value{})) {
			t.Errorf("Read(%q): %v %v", s, v, e)
		}
		if len(s) < 6 {
			for _, c := range []byte("\"\\x0f1-\n") {
				short = append(short, s+string([]byte{c}))
			}
		}
	}
}

// P1.4
func TestReadOfShow(t *testing.T) {
	l := inOrder()
	for c := range 256 {
		l = append(l, Text(strings.Repeat(string([]byte{byte(c)}), api.MaxText)), Text("a"+string([]byte{byte(c)})+"\""))
	}
	for i := range 63 {
		l = append(l, Int(1<<i), Int(1<<i-1), Int(-1<<i))
	}
	for _, v := range l {
		if w, e := Read(Show(v)); e != api.OK || w != v {
			t.Error(v, w, e)
		}
	}
}

// P1.5
func TestOneOrder(t *testing.T) {
	l := all()
	for _, a := range l {
		for _, b := range l {
			ab := Compare(a, b)
			if ab != -Compare(b, a) || ab < -1 || ab > 1 {
				t.Error("both ways", a, b)
			}
			if Right(a) && Right(b) && (ab == 0) != (a == b) {
				t.Error("one", a, b)
			}
			for _, c := range l {
				if bc := Compare(b, c); ab <= 0 && bc <= 0 && Compare(a, c) != min(ab, bc) {
					t.Error("three", a, b, c)
				}
			}
		}
	}
}

func FuzzRead(f *testing.F) {
	for s := range words() {
		f.Add(s)
	}
	f.Fuzz(func(t *testing.T, s string) {
		if v, e := Read(s); e == api.OK && (!Right(v) || Show(v) != s) || e != api.OK && v != (api.Value{}) {
			t.Errorf("Read(%q): %v %v", s, v, e)
		}
		if v := Text(s); Right(v) {
			if w, e := Read(Show(v)); w != v || e != api.OK {
				t.Errorf("%q: %v %v", s, w, e)
			}
		}
	})
}
