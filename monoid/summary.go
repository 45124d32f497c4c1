package monoid

import (
	"slices"

	"rexmill/api"
	"rexmill/text"
)

// small is how many symbols a piece has at most whose runs are followed symbol by symbol; longer ones are joined from two parts.
const small = 32

// run is what a piece does with a state: where the run leads, and the last position at which it has a Done, or -1.
type run struct {
	to, last int
}

// Summary is what a piece of a text does: where each state leads, with the end of the last match on the way, and the runs of the matches that begin in it.
type Summary struct {
	machine *Machine
	states  []run
	starts  []run
}

// Empty returns the summary of the piece without symbols.
func (m *Machine) Empty() *Summary {
	return m.piece(nil)
}

// piece follows all runs through a piece.
func (m *Machine) piece(symbols []int) *Summary {
	follow := func(r run, from int) run {
		for i := from; i < len(symbols) && r.to != dead; i++ {
			r.to = m.step(r.to, symbols[i])
			if m.ends(r.to) {
				r.last = i + 1
			}
		}
		return r
	}
	s := &Summary{machine: m, states: make([]run, len(m.next)), starts: make([]run, len(symbols))}
	for state := range s.states {
		s.states[state] = follow(run{state, -1}, 0)
	}
	for k := range s.starts {
		r := run{m.first, -1}
		if m.ends(m.first) {
			r.last = k
		}
		s.starts[k] = follow(r, k)
	}
	return s
}

// Symbol returns the summary of a single symbol.
func (m *Machine) Symbol(symbol int) (*Summary, api.Errno) {
	return m.Of([]int{symbol})
}

// Of returns the summary of a text.
func (m *Machine) Of(symbols []int) (*Summary, api.Errno) {
	if err := text.Valid(symbols, m.runes); err != api.OK {
		return nil, err
	}
	return m.of(symbols), api.OK
}

func (m *Machine) of(symbols []int) *Summary {
	if len(symbols) <= small {
		return m.piece(symbols)
	}
	half := len(symbols) / 2
	return join(m.of(symbols[:half]), m.of(symbols[half:]))
}

// has reports whether a summary is one that this machine has returned.
func (m *Machine) has(s *Summary) bool {
	return s != nil && s.machine == m
}

// Join returns the summary of two pieces, one after the other.
func (m *Machine) Join(a, b *Summary) (*Summary, api.Errno) {
	if !m.has(a) || !m.has(b) {
		return nil, api.ErrArg
	}
	if a.Len()+b.Len() > api.MaxText {
		return nil, api.ErrLimit
	}
	return join(a, b), api.OK
}

// join joins summaries of one machine.
func join(a, b *Summary) *Summary {
	n := a.Len()
	onward := func(r run) run {
		if r.to == dead {
			return r
		}
		next := b.states[r.to]
		r.to = next.to
		if next.last >= 0 {
			r.last = n + next.last
		}
		return r
	}
	s := &Summary{machine: a.machine, states: make([]run, len(a.states)), starts: make([]run, n+b.Len())}
	copy(s.states, a.states)
	copy(s.starts, a.starts)
	copy(s.starts[n:], b.starts)
	for i := range s.states {
		s.states[i] = onward(s.states[i])
	}
	for k := range n {
		s.starts[k] = onward(s.starts[k])
	}
	for k := n; k < len(s.starts); k++ {
		if s.starts[k].last >= 0 {
			s.starts[k].last += n
		}
	}
	return s
}

// matches returns start and end of the matches whose runs are wanted, if the text ends here.
func (m *Machine) matches(s *Summary, wanted func(state int) bool) ([][2]int, api.Errno) {
	if !m.has(s) {
		return nil, api.ErrArg
	}
	var l [][2]int
	for k, r := range s.starts {
		if r.last >= 0 && wanted(r.to) {
			l = append(l, [2]int{k, r.last})
		}
	}
	if n := s.Len(); m.ends(m.first) && wanted(m.first) {
		l = append(l, [2]int{n, n})
	}
	return l, api.OK
}

// Found returns start and end of the first match at each position at which one begins, if the text ends here.
func (m *Machine) Found(s *Summary) ([][2]int, api.Errno) {
	return m.matches(s, func(int) bool { return true })
}

// Sure returns those that do not depend on what follows.
func (m *Machine) Sure(s *Summary) ([][2]int, api.Errno) {
	return m.matches(s, func(state int) bool { return state == dead || !m.open[state] })
}

// Len returns the length of the piece.
func (s *Summary) Len() int {
	return len(s.starts)
}

// Equal reports whether two summaries of one machine are equal.
func Equal(a, b *Summary) bool {
	if a == nil || b == nil || a.machine == nil || a.machine != b.machine {
		return false
	}
	return slices.Equal(a.states, b.states) && slices.Equal(a.starts, b.starts)
}
