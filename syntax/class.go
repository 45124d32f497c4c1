package syntax

import (
	"cmp"
	"slices"

	"rexmill/api"
	"rexmill/sets"
)

// kinds returns the sets of the escapes d, w and s.
func kinds() map[int][]api.Span {
	return map[int][]api.Span{
		'd': {{Lo: '0', Hi: '9'}},
		'w': {{Lo: '0', Hi: '9'}, {Lo: 'A', Hi: 'Z'}, {Lo: '_', Hi: '_'}, {Lo: 'a', Hi: 'z'}},
		's': {{Lo: 9, Hi: 13}, {Lo: 32, Hi: 32}},
	}
}

// kind reads the letter of a kind, if there is one; capital letters stand for all other symbols.
func (r *reader) kind() ([]api.Span, bool) {
	c := r.peek()
	if l, known := kinds()[c]; known {
		r.at++
		return l, true
	}
	if l, known := kinds()[c+'a'-'A']; known && c < 'a' {
		r.at++
		others, _ := sets.Not(l, r.top())
		return others, true
	}
	return nil, false
}

// symbol returns the tree of a single symbol. A number that is too great has been noted already.
func (r *reader) symbol(c int) api.Re {
	l := []api.Span{{Lo: c, Hi: c}}
	if folded, err := sets.Fold(l); r.Fold && err == api.OK {
		l = folded
	}
	return api.Re{Op: api.OpSet, Set: l}
}

func isPunctuation(c int) bool {
	letter := 'a' <= c && c <= 'z' || 'A' <= c && c <= 'Z'
	return 33 <= c && c <= 126 && !letter && (c < '0' || c > '9')
}

// hex reads up to most digits of a hexadecimal number, and at least some.
func (r *reader) hex(least, most int) int {
	n, from := 0, r.at
	for r.at < from+most {
		c := r.peek()
		switch {
		case '0' <= c && c <= '9':
			n = 16*n + c - '0'
		case 'a' <= c && c <= 'f':
			n = 16*n + c - 'a' + 10
		case 'A' <= c && c <= 'F':
			n = 16*n + c - 'A' + 10
		case r.at < from+least:
			r.fail()
		default:
			return n
		}
		r.at++
	}
	return n
}

// one reads what follows a \ that stands for one symbol; offset is that of the \.
func (r *reader) one(offset int) int {
	c := r.peek()
	if !isPunctuation(c) && c != 'n' && c != 'r' && c != 't' && c != 'x' && c != 'u' {
		r.fail()
	}
	r.at++
	n := c
	switch c {
	case 'n':
		n = 10
	case 'r':
		n = 13
	case 't':
		n = 9
	case 'x':
		n = r.hex(2, 2)
	case 'u':
		r.expect('{')
		n = r.hex(1, 6)
		r.expect('}')
	}
	if n > r.top() {
		r.note(offset, wrongNumber, api.ErrRange)
	}
	return n
}

// escape reads an atom that begins with \.
func (r *reader) escape() api.Re {
	offset := r.offset()
	r.at++
	if l, is := r.kind(); is {
		if r.Fold {
			l, _ = sets.Fold(l)
		}
		return set(l...)
	}
	c := r.peek()
	if '1' <= c && c <= '9' {
		r.names = append(r.names, name{offset, c - '0'})
		r.at++
		return api.Re{Op: api.OpRef, N: c - '0'}
	}
	kind := -1
	switch c {
	case 'A':
		kind = api.AtBegin
	case 'z':
		kind = api.AtEnd
	case 'b':
		kind = api.AtWord
	case 'B':
		kind = api.NotAtWord
	}
	if kind >= 0 {
		r.at++
		return assert(kind)
	}
	return r.symbol(r.one(offset))
}

// single reads a symbol of a class.
func (r *reader) single() int {
	c := r.peek()
	offset := r.offset()
	switch c {
	case -1, ']', '[', '^', '-':
		r.fail()
	}
	r.at++
	if c == '\\' {
		return r.one(offset)
	}
	return c
}

// part reads a part of a class.
func (r *reader) part() []api.Span {
	offset := r.offset()
	if r.peek() == '\\' {
		r.at++
		if l, is := r.kind(); is {
			return l
		}
		r.at--
	}
	from := r.single()
	to := from
	if r.take('-') {
		to = r.single()
	}
	if to < from {
		r.note(offset, wrongRange, api.ErrRange)
		return nil
	}
	return []api.Span{{Lo: from, Hi: to}}
}

func (r *reader) class() api.Re {
	offset := r.offset()
	r.at++
	not := r.take('^')
	var l []api.Span
	for !r.take(']') {
		l = append(l, r.part()...)
	}
	all, err := r.classSet(l, not)
	if err != api.OK {
		r.note(offset, tooManySpans, api.ErrLimit)
	}
	return api.Re{Op: api.OpSet, Set: all}
}

// classSet returns the symbols of a class with the spans of its parts.
func (r *reader) classSet(l []api.Span, not bool) ([]api.Span, api.Errno) {
	if seams(l) > api.MaxSpans {
		return nil, api.ErrLimit
	}
	// A number that is too great has been noted, and is an error anyway.
	l = slices.DeleteFunc(l, func(s api.Span) bool { return s.Hi > api.MaxSymbol })
	all, err := sets.Normal(l)
	if err == api.OK && r.Fold {
		all, err = sets.Fold(all)
	}
	if err == api.OK && not {
		all, err = sets.Not(all, r.top())
	}
	return all, err
}

// seams returns how many spans the symbols of spans make up.
func seams(l []api.Span) int {
	sorted := slices.Clone(l)
	slices.SortFunc(sorted, func(a, b api.Span) int { return cmp.Compare(a.Lo, b.Lo) })
	n, end := 0, -2
	for _, s := range sorted {
		if s.Lo > end+1 {
			n++
		}
		end = max(end, s.Hi)
	}
	return n
}
