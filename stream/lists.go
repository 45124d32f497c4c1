package stream

import (
	"slices"

	"rexmill/api"
	"rexmill/prog"
	"rexmill/sets"
	"rexmill/text"
)

const maxLists = 1 << 14 // lists that are remembered

// list is a list of threads, with those that follow it.
type list struct {
	insns []int
	done  bool          // it has a Done
	open  bool          // one of its Syms can lead to a Done
	next  map[int]*list // for the symbols that were read so far
}

// machine makes the lists of a program.
type machine struct {
	prog  prog.Prog
	leads []bool // for each instruction, whether a way leads from it to a Done
	lists map[string]*list
	first *list // of the instruction 0
}

func newMachine(g prog.Prog) *machine {
	h := prog.Prog{Insns: slices.Clone(g.Insns), Caps: g.Caps, Runes: g.Runes}
	for i := range h.Insns {
		h.Insns[i].Set = slices.Clone(h.Insns[i].Set)
	}
	m := &machine{prog: h, leads: leading(h), lists: map[string]*list{}}
	m.first = m.of(0)
	return m
}

// usable reports whether a set has a symbol of the alphabet.
func usable(set []api.Span, runes bool) bool {
	return slices.ContainsFunc(set, func(s api.Span) bool {
		return text.Valid([]int{s.Lo}, runes) == api.OK || text.Valid([]int{s.Hi}, runes) == api.OK
	})
}

// leading finds the instructions from which a way leads to a Done, backwards from these.
func leading(g prog.Prog) []bool {
	before := make([][]int, len(g.Insns))
	leads := make([]bool, len(g.Insns))
	var work []int
	for i, x := range g.Insns {
		switch x.Op {
		case prog.Done:
			leads[i] = true
			work = append(work, i)
		case prog.Sym:
			if usable(x.Set, g.Runes) {
				before[i+1] = append(before[i+1], i)
			}
		case prog.Save:
			before[i+1] = append(before[i+1], i)
		case prog.Split:
			before[x.X] = append(before[x.X], i)
			before[x.Y] = append(before[x.Y], i)
		case prog.Jump:
			before[x.X] = append(before[x.X], i)
		}
	}
	for len(work) > 0 {
		i := work[len(work)-1]
		work = work[:len(work)-1]
		for _, b := range before[i] {
			if !leads[b] {
				leads[b] = true
				work = append(work, b)
			}
		}
	}
	return leads
}

// of returns the list to which adding some instructions leads.
func (m *machine) of(from ...int) *list {
	seen := make([]bool, len(m.prog.Insns))
	l := &list{next: map[int]*list{}}
	var add func(i int)
	add = func(i int) {
		if seen[i] || l.done {
			return
		}
		seen[i] = true
		switch x := &m.prog.Insns[i]; x.Op {
		case prog.Done:
			l.insns = append(l.insns, i)
			l.done = true
		case prog.Sym:
			l.insns = append(l.insns, i)
			l.open = l.open || m.leads[i]
		case prog.Jump:
			add(x.X)
		case prog.Split:
			add(x.X)
			add(x.Y)
		case prog.Save:
			add(i + 1)
		}
	}
	for _, i := range from {
		add(i)
	}
	return m.known(l)
}

// known returns the list that is remembered, and remembers it if there is none.
func (m *machine) known(l *list) *list {
	key := make([]byte, 0, 2*len(l.insns))
	for _, i := range l.insns {
		key = append(key, byte(i), byte(i>>8))
	}
	if old := m.lists[string(key)]; old != nil {
		return old
	}
	if len(m.lists) == maxLists {
		clear(m.lists)
	}
	m.lists[string(key)] = l
	return l
}

// after returns the list that follows a list for a symbol.
func (m *machine) after(l *list, symbol int) *list {
	if next := l.next[symbol]; next != nil {
		return next
	}
	var from []int
	for _, i := range l.insns {
		if x := &m.prog.Insns[i]; x.Op == prog.Sym && sets.Has(x.Set, symbol) {
			from = append(from, i+1)
		}
	}
	next := m.of(from...)
	l.next[symbol] = next
	return next
}
