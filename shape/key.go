package shape

import (
	"strconv"
	"strings"

	"verderer/api"
	"verderer/pack"
)

const (
	blank  = " "
	digits = "0123456789abcdef"
)

// kinds are the words of nodes' kinds; no kind has the first one.
var kinds = [...]string{"", "scan", "where", "meet", "miss", "take", "once", "group"}

func Key(n *api.Node) string {
	if !Right(n) {
		return ""
	}
	var words []string
	var put func(n *api.Node)
	put = func(n *api.Node) {
		if n != nil {
			words = append(words, own(n))
			put(n.Left)
			put(n.Right)
		}
	}
	put(n)
	return strings.Join(words, blank)
}

// kindOf answers the kind of that word; 0, if there is none.
func kindOf(word string) int {
	for kind, w := range kinds {
		if w == word {
			return kind
		}
	}
	return 0
}

// own answers the words of n alone, of a plan that can be.
func own(n *api.Node) string {
	w := writer{kinds[n.Kind]}
	switch n.Kind {
	case api.Scan:
		w.word(n.Name)
		w.number(n.Wide)
	case api.Where:
		writeAll(&w, w.cond, n.Conds...)
	case api.Meet, api.Miss:
		writeAll(&w, w.pair, n.Pairs...)
	case api.Take:
		writeAll(&w, w.number, n.Cols...)
	case api.Group:
		writeAll(&w, w.number, n.Cols...)
		w.number(n.Agg)
		w.number(n.Of)
	}
	return strings.Join(w, blank)
}

// writer has the words that were written.
type writer []string

func (w *writer) word(s string) { *w = append(*w, s) }

func (w *writer) number(n int) { w.word(strconv.Itoa(n)) }

func (w *writer) pair(p api.Pair) {
	w.number(p.Left)
	w.number(p.Right)
}

func (w *writer) cond(c api.Cond) {
	w.number(c.Left)
	w.number(c.Op)
	w.number(c.Right)
	if c.Right == noColumn {
		w.word(hex(pack.Value(c.Val)))
	}
}

// writeAll writes how many things there are, and each by a method of w.
func writeAll[T any](w *writer, write func(T), l ...T) {
	w.number(len(l))
	for _, x := range l {
		write(x)
	}
}

func hex(b []byte) string {
	var out []byte
	for _, c := range b {
		out = append(out, digits[c>>4], digits[c&15])
	}
	return string(out)
}

func Read(key string) (*api.Node, api.Errno) {
	r := reader{rest: key, nodes: maxNodes}
	n := r.node()
	// A plan has one key only, so what is no key is seen here; "" is what Key says of what can not be.
	if key == "" || Key(n) != key {
		return nil, api.ErrForm
	}
	return n, api.OK
}

// reader reads the only plan whose key a text may be; whether it is, Read asks Key. Of what is no word it reads anything.
type reader struct {
	rest  string // what was not read yet
	nodes int    // how many may still come
}

func (r *reader) node() *api.Node {
	if r.nodes == 0 {
		return nil
	}
	r.nodes--
	n := &api.Node{Kind: kindOf(r.word())}
	switch n.Kind {
	case api.Scan:
		n.Name = r.word()
		n.Wide = r.number()
	case api.Where:
		n.Conds = readAll(r, r.cond)
	case api.Meet, api.Miss:
		n.Pairs = readAll(r, r.pair)
	case api.Take:
		n.Cols = readAll(r, r.number)
	case api.Group:
		n.Cols = readAll(r, r.number)
		n.Agg = r.number()
		n.Of = r.number()
	}
	below := sides(n.Kind)
	if below > 0 {
		n.Left = r.node()
	}
	if below > 1 {
		n.Right = r.node()
	}
	return n
}

func (r *reader) word() string {
	word, rest, _ := strings.Cut(r.rest, blank)
	r.rest = rest
	return word
}

func (r *reader) number() int {
	n, _ := strconv.Atoi(r.word())
	return n
}

func (r *reader) pair() api.Pair { return api.Pair{Left: r.number(), Right: r.number()} }

func (r *reader) cond() api.Cond {
	c := api.Cond{Left: r.number(), Op: r.number(), Right: r.number()}
	if c.Right == noColumn {
		c.Val, _, _ = pack.First(unhex(r.word()))
	}
	return c
}

// readAll reads as many things as the next word says, each by a method of r; fewer, if the text ends.
func readAll[T any](r *reader, read func() T) []T {
	var out []T
	for n := r.number(); n > 0 && r.rest != ""; n-- {
		out = append(out, read())
	}
	return out
}

// unhex undoes hex; of what hex does not make it answers any bytes.
func unhex(s string) []byte {
	var out []byte
	for i := 1; i < len(s); i += 2 {
		out = append(out, digit(s[i-1])<<4|digit(s[i]))
	}
	return out
}

func digit(c byte) byte { return byte(strings.IndexByte(digits, c)) }
