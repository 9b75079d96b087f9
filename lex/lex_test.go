package lex

import (
	"math"
	"math/rand"
	"regexp"
	"slices"
	"strings"
	"testing"

	"verderer/api"
	"verderer/value"
)

var reserved = []string{"deny", "view", "quota", "limit", "if", "not", "count", "sum", "least", "most"}

func a(word string, at int) Token { return Token{Kind: Word, Text: word, At: at} }

func sg(sign string, at int) Token { return Token{Kind: Sign, Text: sign, At: at} }

func val(word string, v api.Value, at int) Token {
	return Token{Kind: Const, Text: word, Val: v, At: at}
}

func num(word string, n int64, at int) Token { return val(word, value.Int(n), at) }

func end(at int) Token { return Token{Kind: End, At: at} }

func checkRead(t *testing.T, text string, want ...Token) {
	t.Helper()
	if got, at, why := Read(text); !slices.Equal(got, want) || at != 0 || why != api.OK {
		t.Errorf("Read(%q): %v %v %v, not %v", text, got, at, why, want)
	}
}

func checkRefused(t *testing.T, text string, where int, how api.Errno) {
	t.Helper()
	if got, at, why := Read(text); got != nil || at != where || why != how {
		t.Errorf("Read(%q): %v %v %v, not %v %v", text, got, at, why, where, how)
	}
}

// P11.1
func TestRead(t *testing.T) {
	checkRead(t, "a<=-3", a("a", 0), sg("<=", 1), num("-3", -3, 3), end(5))
	checkRead(t, " deny big(s,\n n)if pod ( s,n,_ ) , n!=\"a b\" ",
		a("deny", 1), a("big", 6), sg("(", 9), a("s", 10), sg(",", 11), a("n", 14), sg(")", 15), a("if", 16), a("pod", 19),
		sg("(", 23), a("s", 25), sg(",", 26), a("n", 27), sg(",", 28), sg("_", 29), sg(")", 31), sg(",", 33), a("n", 35), sg("!=", 36), val(`"a b"`, value.Text("a b"), 38), end(44))
}

// P11.1: where nothing stands, or blanks alone, the End does.
func TestBlanks(t *testing.T) {
	for _, c := range []string{"", " ", "\n", " \n\n  ", strings.Repeat(" ", api.MaxRule), strings.Repeat("\n", api.MaxRule)} {
		checkRead(t, c, end(len(c)))
	}
	checkRead(t, "a ", a("a", 0), end(2))
	checkRead(t, "\n a", a("a", 2), end(3))
	checkRead(t, "a\n1 _", a("a", 0), num("1", 1, 2), sg("_", 4), end(5))
	for _, c := range []string{"\t", "\r", "\v", "\f", "\x00", "\x85", "\xa0", "\u00a0", "\u2028", "\ufeff"} {
		checkRefused(t, c, 0, api.ErrForm)
		checkRefused(t, " \n"+c+" a", 2, api.ErrForm)
		checkRefused(t, "a"+c, 1, api.ErrForm)
	}
}

// P11.1: words, of whatever length, and those that are values.
func TestReadWords(t *testing.T) {
	for _, w := range append([]string{"a", "z", "a_", "a0", "a__9z", "nul", "nulll", "null_", "true1", "falsefalse", "x41", "tenant", strings.Repeat("a", api.MaxName+1), strings.Repeat("z", api.MaxRule)}, reserved...) {
		checkRead(t, w, a(w, 0), end(len(w)))
	}
	for w, v := range map[string]api.Value{"null": value.Null(), "true": value.Bool(true), "false": value.Bool(false)} {
		checkRead(t, w, val(w, v, 0), end(len(w)))
		checkRead(t, w+","+w, val(w, v, 0), sg(",", len(w)), val(w, v, len(w)+1), end(2*len(w)+1))
		checkRead(t, w+"0 "+"a"+w, a(w+"0", 0), a("a"+w, len(w)+2), end(2*len(w)+3))
	}
	checkRead(t, "_a", sg("_", 0), a("a", 1), end(2))
	checkRead(t, "a-1", a("a", 0), num("-1", -1, 1), end(3))
	for _, c := range []string{"A", "Z", "é", "\xff", "ß", "٣", "#", "$", "%", "&", "'", "*", "+", ".", "/", ":", ";", "?", "@", "[", "\\", "]", "^", "`", "{", "|", "}", "~", "\x7f"} {
		checkRefused(t, c, 0, api.ErrForm)
		checkRefused(t, "aa"+c+"a", 2, api.ErrForm)
		checkRefused(t, "a(3 "+c, 4, api.ErrForm)
	}
}

// P11.1
func TestReadNumbers(t *testing.T) {
	for w, n := range map[string]int64{"0": 0, "7": 7, "-1": -1, "10": 10, "1234567890": 1234567890, "9223372036854775807": math.MaxInt64, "-9223372036854775808": math.MinInt64} {
		checkRead(t, w, num(w, n, 0), end(len(w)))
		checkRead(t, " "+w+`(`, num(w, n, 1), sg("(", len(w)+1), end(len(w)+2))
		checkRead(t, w+`"x"`, num(w, n, 0), val(`"x"`, value.Text("x"), len(w)), end(len(w)+3))
		checkRead(t, "a "+w+"-"+"5", a("a", 0), num(w, n, 2), num("-5", -5, len(w)+2), end(len(w)+4))
		// A letter is one from a to z; what is none, and begins no token, is wrong itself.
		checkRefused(t, w+"A", len(w), api.ErrForm)
		checkRefused(t, w+".0", len(w), api.ErrForm)
		for _, c := range []string{"a", "z", "_", "x10", "e3", "_000", "null", "a-1"} {
			checkRefused(t, w+c, 0, api.ErrForm)
			checkRefused(t, "a < "+w+c, 4, api.ErrForm)
		}
	}
	for _, w := range []string{"-", "--1", "-0", "00", "01", "-01", "007", "0000", "9223372036854775808", "-9223372036854775809", "1" + strings.Repeat("0", 200), strings.Repeat("9", api.MaxRule-4), "- 1", "-a", "-_", "-(", `-"1"`, "-\n"} {
		checkRefused(t, w, 0, api.ErrForm)
		checkRefused(t, "a,b "+w, 4, api.ErrForm)
	}
	checkRefused(t, "5-", 1, api.ErrForm)
	checkRefused(t, "5--5", 1, api.ErrForm)
	checkRefused(t, "5-05", 1, api.ErrForm)
	checkRefused(t, "+5", 0, api.ErrForm)
}

// P11.1
func TestReadTexts(t *testing.T) {
	long := strings.Repeat("x", api.MaxText)
	for _, s := range []string{"", "x", " ", "\n", "a\"\n", `\`, `\\`, `"`, `"""`, `\"`, "a b, c) if", "null", "é", "\x00\x7f\xff", long, strings.Repeat("\xff", api.MaxText), strings.Repeat(`"`, api.MaxText)} {
		w := value.Show(value.Text(s))
		checkRead(t, w, val(w, value.Text(s), 0), end(len(w)))
		checkRead(t, "a"+w+"a", a("a", 0), val(w, value.Text(s), 1), a("a", len(w)+1), end(len(w)+2))
		checkRead(t, w+"_\n5", val(w, value.Text(s), 0), sg("_", len(w)), num("5", 5, len(w)+2), end(len(w)+3))
		checkRefused(t, w+`"`, len(w), api.ErrForm)
		checkRefused(t, " "+w[:len(w)-1], 1, api.ErrForm)
	}
	checkRead(t, `"""a"`, val(`""`, value.Text(""), 0), val(`"a"`, value.Text("a"), 2), end(5))
	for _, w := range []string{
		`"`, `"a`, `"\`, `"\"`, `"a\"`, `"\\\"`, `"a, b) if`,
		`"\n"`, `"\a"`, `"\x"`, `"\x4"`, `"\x41"`, `"\x22"`, `"\x5c"`, `"\x0A"`, `"\x0`, `"\x0"`, `"\xg0"`, `"\x20"`,
		"\"\n\"", "\"a\nb\"", "\"\t\"", "\"\x00\"", "\"\x7f\"", "\"\x80\"", "\"é\"",
		`"` + long + `x"`, `"` + strings.Repeat(`\x00`, api.MaxText+1) + `"`, `"` + strings.Repeat("x", api.MaxRule-5),
	} {
		checkRefused(t, w, 0, api.ErrForm)
		checkRefused(t, "a (\n"+w, 4, api.ErrForm)
		checkRefused(t, w+" ,", 0, api.ErrForm)
	}
	for _, c := range []string{"'a'", "`a`", `\"a\"`} {
		checkRefused(t, c, 0, api.ErrForm)
	}
}

// P11.1: of signs that begin alike the longest one stands.
func TestReadSigns(t *testing.T) {
	for _, s := range []string{"(", ")", ",", "_", "==", "!=", "<", "<=", ">", ">="} {
		checkRead(t, s, sg(s, 0), end(len(s)))
		checkRead(t, s+s, sg(s, 0), sg(s, len(s)), end(2*len(s)))
		checkRead(t, "8 "+s+"-1", num("8", 8, 0), sg(s, 2), num("-1", -1, len(s)+2), end(len(s)+4))
	}
	checkRead(t, "<>", sg("<", 0), sg(">", 1), end(2))
	checkRead(t, "<=>", sg("<=", 0), sg(">", 2), end(3))
	checkRead(t, "<<=", sg("<", 0), sg("<=", 1), end(3))
	checkRead(t, "()", sg("(", 0), sg(")", 1), end(2))
	for text, at := range map[string]int{"=": 0, "!": 0, "= =": 0, "! =": 0, "=<": 0, "=>": 0, "!<": 0, "===": 2, "!==": 2, "<==": 2, ">==": 2, "< =": 2, "<!": 1, "(=": 1, "a=1": 1, "a !b": 2} {
		checkRefused(t, text, at, api.ErrForm)
	}
}

// P11.1: a text that is too long is refused whatever stands in it.
func TestReadLong(t *testing.T) {
	for _, c := range []string{"a", " ", "\n", "_", "(", "A", "\xff", "1 ", `"`, `"a"`} {
		for _, many := range []int{api.MaxRule + 1, api.MaxRule + 2, 1 << 16, 1 << 20} {
			checkRefused(t, strings.Repeat(c, many)[:many], 0, api.ErrLong)
		}
	}
	checkRefused(t, strings.Repeat(" ", api.MaxRule-1)+"A", api.MaxRule-1, api.ErrForm)
	checkRefused(t, strings.Repeat("_", api.MaxRule)+" ", 0, api.ErrLong)
	if l, _, why := Read(strings.Repeat("_", api.MaxRule)); why != api.OK || len(l) != api.MaxRule+1 || l[api.MaxRule] != end(api.MaxRule) {
		t.Error("as long as may be", len(l), why)
	}
}

// P11.2
func TestReserved(t *testing.T) {
	for _, w := range reserved {
		if !Reserved(w) {
			t.Error(w)
		}
		for _, other := range []string{w + "s", w[1:], " " + w, w + " ", strings.ToUpper(w), w + "\x00", w + w} {
			if Reserved(other) {
				t.Errorf("%q", other)
			}
		}
	}
	for _, w := range []string{"", "null", "true", "false", "tenant", "a", "or", "and", "any", "rule", "plain", "max", "min", "_", "(", "\xff", strings.Repeat("deny", 1<<16)} {
		if Reserved(w) {
			t.Errorf("%q", w)
		}
	}
}

// P11.2
func TestOpAndSgn(t *testing.T) {
	for op, sign := range map[int]string{1: "==", 2: "!=", 3: "<", 4: "<=", 5: ">", 6: ">="} {
		if Op(sign) != op || Sgn(op) != sign {
			t.Error(op, sign, Op(sign), Sgn(op))
		}
	}
	for _, sign := range []string{"", " ", "=", "!", "===", "<>", "=<", "=>", "<<", " ==", "== ", "(", ")", ",", "_", "eq", "1", "\x00", "\xff", strings.Repeat("=", 1<<16)} {
		if Op(sign) != 0 {
			t.Errorf("Op(%q): %v", sign, Op(sign))
		}
	}
	for _, op := range []int{math.MinInt64, -1, 0, 7, 8, math.MaxInt64} {
		if Sgn(op) != "" {
			t.Error("Sgn", op, Sgn(op))
		}
	}
}

var (
	wholeWord = regexp.MustCompile(`^[a-z][a-z0-9_]*$`)
	wholeSign = regexp.MustCompile(`^([(),_<>]|[=!<>]=)$`)
	goesOn    = regexp.MustCompile(`^[a-z0-9_]`)
)

// byDefinition reads a text of at most MaxRule bytes piece by piece: at each place the longest piece that is a token.
func byDefinition(text string) ([]Token, int, api.Errno) {
	var out []Token
	for at := 0; at < len(text); {
		if text[at] == ' ' || text[at] == '\n' {
			at++
			continue
		}
		x := longest(text[at:])
		if x.Kind == 0 {
			return nil, at, api.ErrForm
		}
		x.At = at
		out = append(out, x)
		at += len(x.Text)
	}
	return append(out, end(len(text))), 0, api.OK
}

func longest(rest string) Token {
	for to := len(rest); to > 0; to-- {
		x := whole(rest[:to])
		switch {
		case x.Kind == 0:
			continue
		case x.Val.Kind == api.Int && goesOn.MatchString(rest[to:]):
			return Token{}
		}
		return x
	}
	return Token{}
}

func whole(s string) Token {
	v, why := value.Read(s)
	switch {
	case why == api.OK:
		return Token{Kind: Const, Text: s, Val: v}
	case wholeWord.MatchString(s):
		return Token{Kind: Word, Text: s}
	case wholeSign.MatchString(s):
		return Token{Kind: Sign, Text: s}
	}
	return Token{}
}

func checkByDefinition(t *testing.T, text string) {
	t.Helper()
	got, at, why := Read(text)
	want, where, how := byDefinition(text)
	if !slices.Equal(got, want) || at != where || why != how {
		t.Errorf("Read(%q): %v %v %v, not %v %v %v", text, got, at, why, want, where, how)
	}
}

// P11.1: all short texts over some bytes of each sort.
func TestReadShort(t *testing.T) {
	short := []string{""}
	for i := 0; i < len(short); i++ {
		s := short[i]
		checkByDefinition(t, s)
		if len(s) < 5 {
			for _, c := range []byte("ax_01-\"\\<=!( \nA") {
				short = append(short, s+string([]byte{c}))
			}
		}
	}
}

// some answers a text of pieces by chance, most of which are tokens or blanks.
func some(r *rand.Rand) string {
	pieces := []string{"a", "deny", "null", "true", "x1_", "0", "-7", "12", "(", ")", ",", "_", "==", "!=", "<", "<=", ">", ">=", `""`, `"a\x0ab"`, `"\""`, " ", " ", " ", "\n", "  "}
	if r.Intn(2) == 0 {
		pieces = append(pieces, "=", "-", `"`, `\`, "A", "\xff", "00")
	}
	var out string
	for range r.Intn(30) {
		out += pieces[r.Intn(len(pieces))]
	}
	return out
}

// P11.3
func TestApart(t *testing.T) {
	r := rand.New(rand.NewSource(1))
	read := 0
	for range 4000 {
		text := some(r)
		checkByDefinition(t, text)
		l, _, why := Read(text)
		if why == api.OK {
			read++
			checkApart(t, text, l)
		}
	}
	if read < 400 {
		t.Error("too few are read", read)
	}
}

// checkApart: each token's bytes are the text's, none is another one's, and all the others are blanks and line feeds.
func checkApart(t *testing.T, text string, l []Token) {
	t.Helper()
	to := 0
	for i, x := range l {
		if x.At < to || x.At > len(text) || strings.Trim(text[to:x.At], " \n") != "" || !strings.HasPrefix(text[x.At:], x.Text) || (x.Text == "") != (i == len(l)-1) || (x.Kind == End) != (x.Text == "") {
			t.Fatalf("%q: %v", text, l)
		}
		to = x.At + len(x.Text)
	}
	if to != len(text) {
		t.Fatalf("%q: %v", text, l)
	}
}

// P6: whatever stands behind one another, it ends, and none panics.
func TestAnyBytes(t *testing.T) {
	r := rand.New(rand.NewSource(2))
	for range 20000 {
		b := make([]byte, r.Intn(12))
		for i := range b {
			b[i] = byte(r.Intn(256))
		}
		checkByDefinition(t, string(b))
		Op(string(b))
		Reserved(string(b))
	}
}

// Rules 4 and 6: what is written into an answer is seen by no later one.
func TestNothingShared(t *testing.T) {
	const text = `deny d(s) if p(s, 3, "x")`
	l, _, _ := Read(text)
	want := slices.Clone(l)
	again, _, _ := Read(text)
	for i := range l {
		l[i] = Token{Kind: 9}
	}
	_ = append(l[:0], Token{}, Token{})
	checkRead(t, text, want...)
	if !slices.Equal(again, want) {
		t.Error(again)
	}
}

func FuzzRead(f *testing.F) {
	r := rand.New(rand.NewSource(3))
	for range 100 {
		f.Add(some(r))
	}
	f.Fuzz(func(t *testing.T, text string) {
		if len(text) > api.MaxRule {
			checkRefused(t, text, 0, api.ErrLong)
			return
		}
		checkByDefinition(t, text)
		if l, _, why := Read(text); why == api.OK {
			checkApart(t, text, l)
		}
	})
}
