package back

import (
	"slices"

	"rexmill/api"
	"rexmill/text"
)

// The kinds of goals.
const (
	begin   = iota // the tree re begins
	round          // round k of the repetition re begins
	closing        // the capture of re ends, which began at from
	moved          // the position is not from
	arrived        // the position is from
)

// goal is something that is still to be matched, in front of other goals, which several choices can share.
type goal struct {
	kind    int
	re      *api.Re
	k, from int
	next    *goal
}

// state is where a search is. Captures are copied when they change, since choices share them.
type state struct {
	at    int
	caps  []int
	goals *goal
}

// choice is what is tried when nothing is left to be tried before it: the goals, behind the kid with this index if re is an OpAlt.
type choice struct {
	state
	re  *api.Re
	kid int
}

// outcome is what a search has come to.
type outcome struct {
	state
	found bool
}

// open opens a choice.
func (m *Machine) open(c choice) {
	m.choices = append(m.choices, c)
	m.deepest = max(m.deepest, len(m.choices))
}

// reopen goes on with the last choice that is not below base; the choice is closed when its last possibility begins.
func (m *Machine) reopen(base int) bool {
	n := len(m.choices)
	if n == base {
		return false
	}
	c := &m.choices[n-1]
	m.state = c.state
	if c.re != nil {
		m.goals = &goal{kind: begin, re: &c.re.Kids[c.kid], next: c.goals}
		c.kid++
	}
	if c.re == nil || c.kid == len(c.re.Kids) {
		m.choices = m.choices[:n-1]
	}
	return true
}

// search goes on until there are no goals left, or no choices above base.
func (m *Machine) search(base int) outcome {
	for m.goals != nil {
		g := m.goals
		m.goals = g.next
		good := m.meet(g)
		if m.over || !good && !m.reopen(base) {
			return outcome{}
		}
	}
	return outcome{m.state, true}
}

// first looks for the first result of some goals alone, from a position on; the state stays as it was.
func (m *Machine) first(at int, g *goal) outcome {
	kept, base := m.state, len(m.choices)
	m.at, m.goals = at, g
	r := m.search(base)
	m.choices = m.choices[:base]
	m.state = kept
	return r
}

// step counts a step; false: it is one too many.
func (m *Machine) step() bool {
	m.over = m.steps == m.fuel
	if !m.over {
		m.steps++
	}
	return !m.over
}

// meet does what a goal asks for; false: that is not possible here.
func (m *Machine) meet(g *goal) bool {
	switch g.kind {
	case begin:
		if g.re.Op == api.OpRep {
			return m.repeat(g.re)
		}
		return m.step() && m.begin(g.re)
	case round:
		return m.step() && m.round(g.re, g.k)
	case closing:
		caps := make([]int, len(m.caps))
		copy(caps, m.caps)
		caps[2*g.re.N-2], caps[2*g.re.N-1] = g.from, m.at
		m.caps = caps
		return true
	case moved:
		return m.at != g.from
	}
	return m.at == g.from
}

// begin begins a tree that is no repetition.
func (m *Machine) begin(re *api.Re) bool {
	front := func(g goal) {
		g.next = m.goals
		m.goals = &g
	}
	switch re.Op {
	case api.OpSet:
		return m.symbol(re.Set)
	case api.OpAssert:
		return text.Assert(re.N, m.text, m.at)
	case api.OpCat:
		for i := range slices.Backward(re.Kids) {
			front(goal{kind: begin, re: &re.Kids[i]})
		}
	case api.OpAlt:
		m.open(choice{state: m.state, re: re, kid: 1})
		front(goal{kind: begin, re: &re.Kids[0]})
	case api.OpCap:
		front(goal{kind: closing, re: re, from: m.at})
		front(goal{kind: begin, re: &re.Kids[0]})
	case api.OpRef:
		return m.again(m.caps[2*re.N-2], m.caps[2*re.N-1])
	case api.OpAhead, api.OpBehind:
		return m.look(re)
	case api.OpAtom:
		return m.take(m.first(m.at, &goal{kind: begin, re: &re.Kids[0]}))
	case api.OpCond:
		kid := 0
		if m.caps[2*re.N-2] < 0 {
			kid = 1
		}
		front(goal{kind: begin, re: &re.Kids[kid]})
	}
	return true
}

// symbol passes a symbol of a set.
func (m *Machine) symbol(set []api.Span) bool {
	if m.at == len(m.text) {
		return false
	}
	s := m.text[m.at]
	for _, span := range set {
		if span.Lo <= s && s <= span.Hi {
			m.at++
			return true
		}
	}
	return false
}

// again passes the symbols between two positions, where they come again.
func (m *Machine) again(from, to int) bool {
	n := to - from
	if from < 0 || n > len(m.text)-m.at || !slices.Equal(m.text[from:to], m.text[m.at:m.at+n]) {
		return false
	}
	m.at += n
	return true
}

// take goes on at the end of a part whose first result alone is asked for.
func (m *Machine) take(r outcome) bool {
	if r.found {
		m.at, m.caps = r.at, r.caps
	}
	return r.found
}

// look decides a look-around part; captures that it sets stay, unless it is negative.
func (m *Machine) look(re *api.Re) bool {
	var r outcome
	kid := goal{kind: begin, re: &re.Kids[0]}
	if re.Op == api.OpAhead {
		r = m.first(m.at, &kid)
	} else {
		kid.next = &goal{kind: arrived, from: m.at}
		for s := m.at; s >= 0 && !r.found && !m.over; s-- {
			r = m.first(s, &kid)
		}
	}
	if r.found && !re.Neg {
		m.caps = r.caps
	}
	return r.found != re.Neg
}

// repeat begins a repetition.
func (m *Machine) repeat(re *api.Re) bool {
	if re.Mode == api.Possessive {
		return m.take(m.first(m.at, &goal{kind: round, re: re}))
	}
	m.goals = &goal{kind: round, re: re, next: m.goals}
	return true
}

// round begins round k of a repetition.
func (m *Machine) round(re *api.Re, k int) bool {
	after := m.goals
	next := &goal{kind: round, re: re, k: k + 1, next: after}
	if k < re.Min {
		m.goals = &goal{kind: begin, re: &re.Kids[0], next: next}
		return true
	}
	if re.Max >= 0 && k == re.Max {
		return true
	}
	next = &goal{kind: moved, from: m.at, next: next}
	more := &goal{kind: begin, re: &re.Kids[0], next: next}
	last := m.state
	if re.Mode == api.Lazy {
		last.goals = more
		m.open(choice{state: last})
		return true
	}
	m.open(choice{state: last})
	m.goals = more
	return true
}
