// Package value is layer 1: values, their order, and their words. See shared/doc/01-value.md.
package value

import (
	"cmp"
	"strconv"
	"strings"

	"verderer/api"
)

const (
	digits = "0123456789abcdef"
	// Each byte of a text takes at most four in its word: a backslash, x, and two digits.
	maxWord = 4*api.MaxText + 2
)

func Null() api.Value { return api.Value{} }

func Bool(b bool) api.Value { return api.Value{Kind: api.Bool, Flag: b} }

func Int(n int64) api.Value { return api.Value{Kind: api.Int, Int: n} }

// Text takes a text that is too long as well: Right tells that it can not be.
func Text(s string) api.Value { return api.Value{Kind: api.Text, Text: s} }

func Right(v api.Value) bool {
	switch v.Kind {
	case api.Null:
		return v == Null()
	case api.Bool:
		return v == Bool(v.Flag)
	case api.Int:
		return v == Int(v.Int)
	case api.Text:
		return len(v.Text) <= api.MaxText && v == Text(v.Text)
	}
	return false
}

// Compare asks only what a's and b's kind has, so that values that can not be have a place in the order too.
func Compare(a, b api.Value) int {
	if a.Kind != b.Kind {
		return cmp.Compare(a.Kind, b.Kind)
	}
	switch a.Kind {
	case api.Bool:
		return compareFlags(a.Flag, b.Flag)
	case api.Int:
		return cmp.Compare(a.Int, b.Int)
	case api.Text:
		return cmp.Compare(a.Text, b.Text)
	}
	return 0
}

func compareFlags(a, b bool) int {
	switch {
	case a == b:
		return 0
	case b:
		return -1
	}
	return 1
}

func Test(op int, a, b api.Value) bool {
	c := Compare(a, b)
	equal, orEqual := c == 0, false
	switch op {
	case api.Le:
		orEqual = equal
		fallthrough
	case api.Lt:
		return c < 0 || orEqual
	case api.Ge:
		orEqual = equal
		fallthrough
	case api.Gt:
		return c > 0 || orEqual
	case api.Eq:
		return equal
	case api.Ne:
		return !equal
	}
	return false
}

func Show(v api.Value) string {
	if !Right(v) {
		return ""
	}
	switch v.Kind {
	case api.Bool:
		return strconv.FormatBool(v.Flag)
	case api.Int:
		return strconv.FormatInt(v.Int, 10)
	case api.Text:
		return quote(v.Text)
	}
	return "null"
}

func quote(s string) string {
	b := []byte{'"'}
	for i := range len(s) {
		b = appendByte(b, s[i])
	}
	return string(append(b, '"'))
}

func appendByte(b []byte, c byte) []byte {
	switch {
	case c == '"' || c == '\\':
		return append(b, '\\', c)
	case c < 32 || c > 126:
		return append(b, '\\', 'x', digits[c>>4], digits[c&15])
	}
	return append(b, c)
}

func Read(s string) (api.Value, api.Errno) {
	if len(s) > maxWord {
		return api.Value{}, api.ErrForm
	}
	v := guess(s)
	// A value has one word only, so what is another way to write it, or no word, is seen here.
	if Show(v) != s {
		return api.Value{}, api.ErrForm
	}
	return v, api.OK
}

// guess answers the only value whose word s may be; whether it is, Read asks Show.
func guess(s string) api.Value {
	switch {
	case s == "null":
		return Null()
	case s == "true", s == "false":
		return Bool(s == "true")
	case strings.HasPrefix(s, `"`):
		return Text(unquote(s))
	}
	n, _ := strconv.ParseInt(s, 10, 64)
	return Int(n)
}

// unquote undoes quote; of what quote does not make it answers any text.
func unquote(s string) string {
	var b []byte
	for i := 1; i < len(s)-1; i++ {
		c := s[i]
		switch {
		case c == '\\' && i+3 < len(s) && s[i+1] == 'x':
			c = digit(s[i+2])<<4 | digit(s[i+3])
			i += 3
		case c == '\\':
			i++
			c = s[i]
		}
		b = append(b, c)
	}
	return string(b)
}

func digit(c byte) byte { return byte(strings.IndexByte(digits, c)) }
