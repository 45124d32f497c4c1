package memo

import (
	"slices"

	"rexmill/api"
	"rexmill/ast"
	"rexmill/text"
)

// The kinds of what is still to be matched.
const (
	begin   = iota // a tree begins: M
	round          // round k of a repetition begins: R
	closing        // a capture ends, which began at from
	moved          // the position is not from
	arrived        // the position is from
)

// node is a node of the tree with a number of its own.
type node struct {
	api.Re
	id       int
	kids     []*node
	nullable bool // its kid can be empty
}

// number returns the nodes of a tree, numbered.
func number(re api.Re) *node {
	ids := 0
	var walk func(re api.Re) *node
	walk = func(re api.Re) *node {
		n := &node{Re: re, id: ids}
		ids++
		for _, kid := range re.Kids {
			n.kids = append(n.kids, walk(kid))
		}
		n.nullable = re.Op == api.OpRep && ast.Nullable(re.Kids[0])
		return n
	}
	return walk(re)
}

// frame is a repetition, in its round k, or a capture around what is evaluated, inside of the same part; at is where it began.
type frame struct {
	node  *node
	k, at int
	outer *frame
}

// goal is something that is still to be matched, in front of others.
type goal struct {
	kind    int
	node    *node
	k, from int
	around  *frame
	next    *goal
}

// place is where a search is. Captures are never changed, but copied.
type place struct {
	at    int
	caps  []int
	goals *goal
}

// choice is what is tried when nothing is left before it: the goals, behind a kid of an OpAlt, if there is one. If it has a beginning, this has failed then, and nothing is tried.
type choice struct {
	place
	alt       *node
	kid       int
	around    *frame
	beginning string
}

// search is an evaluation with memory.
type search struct {
	place
	text    []int
	fuel    int
	steps   int
	over    bool
	end     int // where the part has to end, or -1
	choices []choice
	failed  map[string]bool
	// describe returns what tells a beginning here apart from others.
	describe func(g *goal) string
}

func newSearch(p api.Pattern, text []int, fuel int) *search {
	s := &search{text: text, fuel: fuel, end: -1, failed: map[string]bool{}}
	s.caps = slices.Repeat([]int{-1}, 2*p.Caps)
	context := ast.Uses(p.Re)&(ast.Refs|ast.Conds) != 0
	var key []byte
	put := func(n int) {
		key = append(key, byte(n), byte(n>>8), byte(n>>16))
	}
	s.describe = func(g *goal) string {
		key = key[:0]
		put(g.node.id<<1 | g.kind)
		put(s.at)
		if g.kind == round {
			put(counted(g.node, g.k))
		}
		for f := g.around; f != nil; f = f.outer {
			if f.node.Op == api.OpRep {
				put(counted(f.node, f.k))
			}
			if f.node.Op == api.OpCap && context || f.node.nullable && f.k >= f.node.Min {
				put(f.at)
			}
		}
		put(s.end)
		if context {
			for _, c := range s.caps {
				put(c)
			}
		}
		return string(key)
	}
	return s
}

// counted returns the number of a round as far as it matters for what can follow.
func counted(n *node, k int) int {
	if n.Max == -1 {
		return min(k, n.Min)
	}
	return k
}

// run goes on until there are no goals left; false: there is no result before the choices below base.
func (s *search) run(base int) bool {
	for s.goals != nil {
		g := s.goals
		s.goals = g.next
		good := s.meet(g)
		if s.over || !good && !s.back(base) {
			return false
		}
	}
	return true
}

// back goes on with the last choice that is not below base; beginnings behind it have failed.
func (s *search) back(base int) bool {
	for len(s.choices) > base {
		c := &s.choices[len(s.choices)-1]
		if c.beginning != "" {
			s.failed[c.beginning] = true
			s.choices = s.choices[:len(s.choices)-1]
			continue
		}
		s.place = c.place
		if c.alt != nil {
			s.goals = &goal{kind: begin, node: c.alt.kids[c.kid], around: c.around, next: c.goals}
			c.kid++
		}
		if c.alt == nil || c.kid == len(c.alt.kids) {
			s.choices = s.choices[:len(s.choices)-1]
		}
		return true
	}
	return false
}

// begins counts the step of a beginning; false: one like it has failed, or the fuel is used up.
func (s *search) begins(g *goal) bool {
	b := s.describe(g)
	if s.failed[b] {
		return false
	}
	if s.steps == s.fuel {
		s.over = true
		return false
	}
	s.steps++
	s.choices = append(s.choices, choice{beginning: b})
	return true
}

// meet does what a goal asks for; false: that is not possible here.
func (s *search) meet(g *goal) bool {
	switch g.kind {
	case begin:
		if g.node.Op == api.OpRep {
			return s.repeat(g)
		}
		return s.begins(g) && s.begin(g)
	case round:
		return s.begins(g) && s.round(g)
	case closing:
		s.caps = slices.Clone(s.caps)
		s.caps[2*g.node.N-2], s.caps[2*g.node.N-1] = g.from, s.at
		return true
	case moved:
		return s.at != g.from
	}
	return s.at == g.from
}

// part looks for the first result of goals alone, from a position on; with one it goes on there, otherwise it stays.
func (s *search) part(at, end int, g *goal) bool {
	kept, outer, base := s.place, s.end, len(s.choices)
	s.at, s.end, s.goals = at, end, g
	found := s.run(base)
	s.choices = s.choices[:base]
	s.end = outer
	if found {
		s.goals = kept.goals
	} else {
		s.place = kept
	}
	return found
}

// front puts the beginning of a kid in front of the other goals.
func (s *search) front(kid *node, around *frame) {
	s.goals = &goal{kind: begin, node: kid, around: around, next: s.goals}
}

// begin begins a tree that is no repetition.
func (s *search) begin(g *goal) bool {
	n := g.node
	switch n.Op {
	case api.OpSet:
		return s.symbol(n.Set)
	case api.OpAssert:
		return text.Assert(n.N, s.text, s.at)
	case api.OpCat:
		for _, kid := range slices.Backward(n.kids) {
			s.front(kid, g.around)
		}
	case api.OpAlt:
		s.choices = append(s.choices, choice{place: s.place, alt: n, kid: 1, around: g.around})
		s.front(n.kids[0], g.around)
	case api.OpCap:
		s.goals = &goal{kind: closing, node: n, from: s.at, next: s.goals}
		s.front(n.kids[0], &frame{node: n, at: s.at, outer: g.around})
	case api.OpRef:
		return s.again(s.caps[2*n.N-2], s.caps[2*n.N-1])
	case api.OpAhead, api.OpBehind:
		return s.look(n)
	case api.OpAtom:
		return s.part(s.at, -1, &goal{kind: begin, node: n.kids[0]})
	case api.OpCond:
		kid := 0
		if s.caps[2*n.N-2] < 0 {
			kid = 1
		}
		s.front(n.kids[kid], g.around)
	}
	return true
}

// symbol passes a symbol of a set.
func (s *search) symbol(set []api.Span) bool {
	if s.at == len(s.text) {
		return false
	}
	c := s.text[s.at]
	in := func(span api.Span) bool { return span.Lo <= c && c <= span.Hi }
	if !slices.ContainsFunc(set, in) {
		return false
	}
	s.at++
	return true
}

// again passes the symbols between two positions, where they come again.
func (s *search) again(from, to int) bool {
	n := to - from
	if from < 0 || n > len(s.text)-s.at || !slices.Equal(s.text[from:to], s.text[s.at:s.at+n]) {
		return false
	}
	s.at += n
	return true
}

// look decides a look-around part.
func (s *search) look(n *node) bool {
	at, caps := s.at, s.caps
	found := false
	if n.Op == api.OpAhead {
		found = s.part(at, -1, &goal{kind: begin, node: n.kids[0]})
	} else {
		ends := &goal{kind: arrived, from: at}
		for from := at; from >= 0 && !found && !s.over; from-- {
			found = s.part(from, at, &goal{kind: begin, node: n.kids[0], next: ends})
		}
	}
	s.at = at
	if n.Neg {
		s.caps = caps
	}
	return found != n.Neg
}

// repeat begins a repetition; a possessive one is a part.
func (s *search) repeat(g *goal) bool {
	if g.node.Mode == api.Possessive {
		return s.part(s.at, -1, &goal{kind: round, node: g.node})
	}
	s.goals = &goal{kind: round, node: g.node, around: g.around, next: s.goals}
	return true
}

// round begins a round of a repetition.
func (s *search) round(g *goal) bool {
	n := g.node
	next := &goal{kind: round, node: n, k: g.k + 1, around: g.around, next: s.goals}
	inside := &frame{n, g.k, s.at, g.around}
	if g.k < n.Min {
		s.goals = next
		s.front(n.kids[0], inside)
		return true
	}
	if n.Max >= 0 && g.k == n.Max {
		return true
	}
	next = &goal{kind: moved, from: s.at, next: next}
	more := &goal{kind: begin, node: n.kids[0], around: inside, next: next}
	last := choice{place: s.place}
	if n.Mode == api.Lazy {
		last.goals = more
		s.choices = append(s.choices, last)
		return true
	}
	s.choices = append(s.choices, last)
	s.goals = more
	return true
}
