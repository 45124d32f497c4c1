// Package syntax is layer 6: see shared/doc/06-syntax.md.
package syntax

import (
	"slices"

	"rexmill/api"
	"rexmill/ast"
	"rexmill/text"
)

// Flags are how a pattern is read.
type Flags struct {
	Fold  bool // letters stand for both cases
	Dot   bool // . matches line ends, too
	Multi bool // ^ and $ are those of lines
	Runes bool // over code points
}

// malformed is what a reader panics with where the text leaves the grammar; parse recovers it.
type malformed struct{}

// name is a place that needs a capture, which can come after it.
type name struct {
	offset, digit int
}

// fault is what is wrong at an offset; faults at one offset come in the order of their ranks.
type fault struct {
	offset, rank int
	err          api.Errno
}

// reader reads a pattern text symbol by symbol, under the flags in force.
type reader struct {
	Flags
	symbols []int
	offsets []int // of the symbols, and of the end
	at      int
	caps    int // greatest number of a capture so far
	names   []name
	note    func(offset, rank int, err api.Errno)
}

// The ranks of faults at one offset.
const (
	tooOften = iota
	wrongBounds
	wrongNumber
	wrongRange
	tooManySpans
	tooManyCaps
	noCapture
)

// Parse reads a pattern; with an error it returns the offset.
func Parse(s string, f Flags) (api.Pattern, int, api.Errno) {
	if len(s) > api.MaxPattern {
		return api.Pattern{}, 0, api.ErrLimit
	}
	symbols, offset := decode(s, f.Runes)
	if offset >= 0 {
		return api.Pattern{}, offset, api.ErrUtf
	}
	var first *fault
	r := &reader{Flags: f, symbols: symbols, offsets: offsets(symbols, f.Runes)}
	r.note = func(offset, rank int, err api.Errno) {
		if first == nil || offset < first.offset || offset == first.offset && rank < first.rank {
			first = &fault{offset, rank, err}
		}
	}
	p, good := r.parse()
	if !good {
		return api.Pattern{}, r.offset(), api.ErrForm
	}
	for _, n := range r.names {
		if n.digit > p.Caps {
			r.note(n.offset, noCapture, api.ErrName)
		}
	}
	if first != nil {
		return api.Pattern{}, first.offset, first.err
	}
	if err := ast.Valid(p); err != api.OK {
		return api.Pattern{}, 0, err
	}
	return p, 0, api.OK
}

// decode returns the symbols of a text, and -1 or the offset of what is no symbol.
func decode(s string, runes bool) ([]int, int) {
	symbols, err := text.Decode([]byte(s), runes)
	if err == api.OK {
		return symbols, -1
	}
	at := 0
	for at < len(s) {
		n := 1
		for n <= 4 && at+n <= len(s) {
			if _, err := text.Decode([]byte(s[at:at+n]), runes); err == api.OK {
				break
			}
			n++
		}
		if n > 4 || at+n > len(s) {
			return nil, at
		}
		at += n
	}
	return nil, at
}

// offsets returns the offsets of symbols, and that of the end.
func offsets(symbols []int, runes bool) []int {
	l := []int{0}
	for i, s := range symbols {
		n := 1
		if runes && s >= 128 {
			b, _ := text.Encode([]int{s}, true)
			n = len(b)
		}
		l = append(l, l[i]+n)
	}
	return l
}

// offset returns the offset of the next symbol.
func (r *reader) offset() int {
	return r.offsets[r.at]
}

// top returns the greatest symbol.
func (r *reader) top() int {
	if r.Runes {
		return api.MaxSymbol
	}
	return 255
}

// parse reads the whole text; it returns false if the text leaves the grammar, at the symbol where it does so.
func (r *reader) parse() (p api.Pattern, good bool) {
	defer func() {
		if x := recover(); x != nil {
			if _, expected := x.(malformed); !expected {
				panic(x)
			}
			p, good = api.Pattern{}, false
		}
	}()
	least := 0
	if r.ahead("(?#") {
		r.at += 3
		least = r.digit()
		r.expect(')')
	}
	re := r.alt()
	if r.at < len(r.symbols) {
		r.fail()
	}
	return api.Pattern{Re: re, Caps: max(least, r.caps), Runes: r.Runes}, true
}

// fail leaves the grammar at the next symbol.
func (r *reader) fail() {
	panic(malformed{})
}

// peek returns the next symbol; -1 at the end.
func (r *reader) peek() int {
	if r.at == len(r.symbols) {
		return -1
	}
	return r.symbols[r.at]
}

// ahead reports whether the text goes on with some symbols.
func (r *reader) ahead(s string) bool {
	for i := range len(s) {
		if r.at+i >= len(r.symbols) || r.symbols[r.at+i] != int(s[i]) {
			return false
		}
	}
	return true
}

// take reads the next symbol if it is the one that is given.
func (r *reader) take(symbol int) bool {
	if r.peek() != symbol {
		return false
	}
	r.at++
	return true
}

// expect reads the only symbol that can follow.
func (r *reader) expect(symbol int) {
	if !r.take(symbol) {
		r.fail()
	}
}

// digit reads a digit from 1 to 9.
func (r *reader) digit() int {
	c := r.peek()
	if c < '1' || c > '9' {
		r.fail()
	}
	r.at++
	return c - '0'
}

// joined returns the only one of some trees, or a tree that consists of them.
func joined(op int, l []api.Re) api.Re {
	if len(l) == 1 {
		return l[0]
	}
	return api.Re{Op: op, Kids: l}
}

func (r *reader) alt() api.Re {
	l := []api.Re{r.cat()}
	for r.take('|') {
		l = append(l, r.cat())
	}
	return joined(api.OpAlt, l)
}

func (r *reader) cat() api.Re {
	var l []api.Re
	for {
		c := r.peek()
		if c < 0 || c == '|' || c == ')' {
			break
		}
		l = append(l, r.item())
	}
	if len(l) == 0 {
		return api.Re{}
	}
	return joined(api.OpCat, l)
}

func (r *reader) item() api.Re {
	re := r.atom()
	least, most := 0, -1
	switch r.peek() {
	case '*':
		r.at++
	case '+':
		r.at++
		least = 1
	case '?':
		r.at++
		most = 1
	case '{':
		least, most = r.bounds()
	default:
		return re
	}
	mode := api.Greedy
	if r.take('?') {
		mode = api.Lazy
	} else if r.take('+') {
		mode = api.Possessive
	}
	return api.Re{Op: api.OpRep, Min: least, Max: most, Mode: mode, Kids: []api.Re{re}}
}

// bounds reads a quantifier in braces.
func (r *reader) bounds() (int, int) {
	offset := r.offset()
	r.at++
	least := r.number()
	most, second := least, false
	if r.take(',') {
		most = -1
		if r.peek() != '}' {
			most, second = r.number(), true
		}
	}
	r.expect('}')
	if least > api.MaxRepeat || most > api.MaxRepeat {
		r.note(offset, tooOften, api.ErrLimit)
	}
	if most == 0 || second && most < least {
		r.note(offset, wrongBounds, api.ErrRange)
	}
	return least, most
}

// number reads one or two digits.
func (r *reader) number() int {
	n, from := 0, r.at
	for c := r.peek(); '0' <= c && c <= '9' && r.at < from+2; c = r.peek() {
		n = 10*n + c - '0'
		r.at++
	}
	if r.at == from {
		r.fail()
	}
	return n
}

func assert(n int) api.Re {
	return api.Re{Op: api.OpAssert, N: n}
}

func (r *reader) atom() api.Re {
	c := r.peek()
	switch c {
	case '\\':
		return r.escape()
	case '(':
		return r.group()
	case '[':
		return r.class()
	case '.':
		r.at++
		if r.Dot {
			return set(api.Span{Lo: 0, Hi: r.top()})
		}
		return set(api.Span{Lo: 0, Hi: 9}, api.Span{Lo: 11, Hi: r.top()})
	case '^', '$':
		r.at++
		kinds := []int{api.AtBegin, api.AtEnd, api.AtLineBegin, api.AtLineEnd}
		if r.Multi {
			kinds = kinds[2:]
		}
		if c == '^' {
			return assert(kinds[0])
		}
		return assert(kinds[1])
	case ']', '{', '}', '*', '+', '?', '|', ')':
		r.fail()
	}
	r.at++
	return r.symbol(c)
}

// set returns the tree for spans.
func set(l ...api.Span) api.Re {
	return api.Re{Op: api.OpSet, Set: slices.Clone(l)}
}
