// Package define is the definition of section 7, written down as directly as possible, for tests. It is no layer.
package define

import (
	"iter"
	"slices"

	"rexmill/api"
	"rexmill/text"
)

// Definition is section 7 as it stands: a list of results is an iterator, which is evaluated as far as it is asked for.
type Definition struct {
	Steps   int
	Deepest int // the greatest number of choices that were open at the same time
	open    int
	text    []int
}

// New returns a definition for a text.
func New(text []int) *Definition {
	return &Definition{text: text}
}

// enter opens a choice; leave closes it.
func (x *Definition) enter() {
	x.open++
	x.Deepest = max(x.Deepest, x.open)
}

func (x *Definition) leave() {
	x.open--
}

type result = iter.Seq2[int, []int]

func none(func(int, []int) bool) {}

func one(j int, d []int) result {
	return func(yield func(int, []int) bool) { yield(j, d) }
}

// list begins to evaluate M.
func (x *Definition) list(re api.Re, i int, c []int) result {
	return func(yield func(int, []int) bool) {
		if re.Op != api.OpRep {
			x.Steps++
		}
		for j, d := range x.results(re, i, c) {
			if !yield(j, d) {
				return
			}
		}
	}
}

// choice does something while a choice is open, if it is one.
func (x *Definition) choice(is bool, do func() bool) bool {
	if is {
		x.enter()
		defer x.leave()
	}
	return do()
}

// kid hands on the results of a kid of OpAlt; false: no more are asked for.
func (x *Definition) kid(kid api.Re, choice bool, i int, c []int, yield func(int, []int) bool) bool {
	return x.choice(choice, func() bool {
		for j, d := range x.list(kid, i, c) {
			if !yield(j, d) {
				return false
			}
		}
		return true
	})
}

// head returns the first result, with the end want, if that is not negative.
func (x *Definition) head(l result, want int) (int, []int, bool) {
	for j, d := range l {
		if want < 0 || j == want {
			return j, d, true
		}
	}
	return 0, nil, false
}

func (x *Definition) results(re api.Re, i int, c []int) result {
	switch re.Op {
	case api.OpEmpty:
		return one(i, c)
	case api.OpSet:
		if i < len(x.text) && slices.ContainsFunc(re.Set, func(s api.Span) bool { return s.Lo <= x.text[i] && x.text[i] <= s.Hi }) {
			return one(i+1, c)
		}
	case api.OpAssert:
		if text.Assert(re.N, x.text, i) {
			return one(i, c)
		}
	case api.OpCat:
		return x.sequence(re.Kids, i, c)
	case api.OpAlt:
		return func(yield func(int, []int) bool) {
			for n, kid := range re.Kids {
				if !x.kid(kid, n < len(re.Kids)-1, i, c, yield) {
					return
				}
			}
		}
	case api.OpCap:
		return func(yield func(int, []int) bool) {
			for j, d := range x.list(re.Kids[0], i, c) {
				d = slices.Clone(d)
				d[2*re.N-2], d[2*re.N-1] = i, j
				if !yield(j, d) {
					return
				}
			}
		}
	case api.OpRef:
		f, t := c[2*re.N-2], c[2*re.N-1]
		if f >= 0 && i+t-f <= len(x.text) && slices.Equal(x.text[f:t], x.text[i:i+t-f]) {
			return one(i+t-f, c)
		}
	case api.OpAhead, api.OpBehind, api.OpAtom:
		return x.part(re, i, c)
	case api.OpCond:
		if c[2*re.N-2] >= 0 {
			return x.list(re.Kids[0], i, c)
		}
		return x.list(re.Kids[1], i, c)
	case api.OpRep:
		if re.Mode == api.Possessive {
			re.Mode = api.Greedy
			if j, d, found := x.head(x.round(re, 0, i, c), -1); found {
				return one(j, d)
			}
			return none
		}
		return x.round(re, 0, i, c)
	}
	return none
}

func (x *Definition) part(re api.Re, i int, c []int) result {
	kid := re.Kids[0]
	var d []int
	var j int
	found := false
	if re.Op == api.OpBehind {
		for s := i; s >= 0 && !found; s-- {
			_, d, found = x.head(x.list(kid, s, c), i)
		}
	} else {
		j, d, found = x.head(x.list(kid, i, c), -1)
	}
	switch {
	case re.Neg && !found:
		return one(i, c)
	case re.Neg || !found:
		return none
	case re.Op == api.OpAtom:
		return one(j, d)
	}
	return one(i, d)
}

func (x *Definition) sequence(kids []api.Re, i int, c []int) result {
	if len(kids) == 0 {
		return one(i, c)
	}
	return func(yield func(int, []int) bool) {
		for j, d := range x.list(kids[0], i, c) {
			for k, e := range x.sequence(kids[1:], j, d) {
				if !yield(k, e) {
					return
				}
			}
		}
	}
}

func (x *Definition) round(re api.Re, k, i int, c []int) result {
	return func(yield func(int, []int) bool) {
		x.Steps++
		more := func() bool {
			if k >= re.Min && re.Max >= 0 && k >= re.Max {
				return true
			}
			for j, d := range x.list(re.Kids[0], i, c) {
				if k >= re.Min && j == i {
					continue
				}
				for e, f := range x.round(re, k+1, j, d) {
					if !yield(e, f) {
						return false
					}
				}
			}
			return true
		}
		if k < re.Min {
			more()
			return
		}
		stop := func() bool { return yield(i, c) }
		both := re.Max < 0 || k < re.Max
		if re.Mode == api.Greedy {
			_ = x.choice(both, more) && stop()
			return
		}
		_ = x.choice(both, stop) && more()
	}
}

// All evaluates the list of matches with up to most elements.
func (x *Definition) All(p api.Pattern, at, most int) []api.Match {
	var l []api.Match
	for j, d := range x.list(p.Re, at, slices.Repeat([]int{-1}, 2*p.Caps)) {
		m := api.Match{Start: at, End: j}
		for k := 0; k < len(d); k += 2 {
			m.Caps = append(m.Caps, [2]int{d[k], d[k+1]})
		}
		l = append(l, m)
		if len(l) == most {
			break
		}
	}
	return l
}
