// Package sample makes patterns and texts for tests. It is no layer: what it makes depends on the seed alone.
package sample

import "rexmill/api"

// Rand is a source of numbers that repeats itself for the same seed.
type Rand struct {
	state uint64
}

// New returns a source for a seed.
func New(seed int) *Rand {
	return &Rand{uint64(seed)*2862933555777941757 + 3037000493}
}

// Int returns a number from 0 to n - 1.
func (r *Rand) Int(n int) int {
	r.state = r.state*6364136223846793005 + 1442695040888963407
	return int(r.state >> 33 % uint64(n))
}

// Text returns a text of up to most symbols of an alphabet.
func (r *Rand) Text(alphabet string, most int) []int {
	l := make([]int, r.Int(most+1))
	for i := range l {
		l[i] = int(alphabet[r.Int(len(alphabet))])
	}
	return l
}

// Shape says what patterns may use beside symbols, sequences, alternatives and repetitions.
type Shape struct {
	Refs, Conds, Looks, Atoms, Asserts, Loops, Caps bool
}

// All is the shape of any pattern.
func All() Shape {
	return Shape{Refs: true, Conds: true, Looks: true, Atoms: true, Asserts: true, Loops: true, Caps: true}
}

// grower makes one tree.
type grower struct {
	*Rand
	shape Shape
	caps  int
	nodes int
}

// Pattern returns a pattern over bytes with about the given number of levels.
func (r *Rand) Pattern(s Shape, levels int) api.Pattern {
	g := &grower{Rand: r, shape: s}
	re := g.tree(levels)
	p := api.Pattern{Re: re, Caps: g.caps}
	if p.Caps == 0 && (s.Refs || s.Conds) {
		p.Caps = 1
	}
	return p
}

// leaf returns a tree without kids.
func (g *grower) leaf() api.Re {
	k := g.Int(12)
	if k == 0 {
		return api.Re{}
	}
	if k == 1 && g.shape.Asserts {
		return api.Re{Op: api.OpAssert, N: g.Int(6)}
	}
	if k == 2 && g.shape.Refs {
		return api.Re{Op: api.OpRef, N: 1 + g.Int(max(g.caps, 1))}
	}
	lo := 'a' + g.Int(3)
	set := []api.Span{{Lo: lo, Hi: min(lo+g.Int(2), 'c')}}
	if g.Int(12) == 0 && lo == 'a' {
		set = []api.Span{{Lo: 'a', Hi: 'a'}, {Lo: 'c', Hi: 'd'}}
	}
	if g.Int(40) == 0 {
		set = nil
	}
	return api.Re{Op: api.OpSet, Set: set}
}

// tree returns a tree of at most so many levels.
func (g *grower) tree(levels int) api.Re {
	g.nodes++
	if levels <= 1 || g.nodes > 40 || g.Int(6) == 0 {
		return g.leaf()
	}
	switch k := g.Int(14); {
	case k < 4:
		return api.Re{Op: api.OpCat, Kids: g.kids(levels-1, 2+g.Int(2))}
	case k < 6:
		return api.Re{Op: api.OpAlt, Kids: g.kids(levels-1, 2+g.Int(2))}
	case k < 9:
		return g.repeat(levels)
	case k == 9 && g.shape.Caps && g.caps < 4:
		g.caps++
		n := g.caps
		return api.Re{Op: api.OpCap, N: n, Kids: g.kids(levels-1, 1)}
	case k == 10 && g.shape.Looks:
		return api.Re{Op: api.OpAhead + g.Int(2), Neg: g.Int(2) == 0, Kids: g.kids(levels-1, 1)}
	case k == 11 && g.shape.Atoms:
		return api.Re{Op: api.OpAtom, Kids: g.kids(levels-1, 1)}
	case k == 12 && g.shape.Conds:
		return api.Re{Op: api.OpCond, N: 1 + g.Int(max(g.caps, 1)), Kids: g.kids(levels-1, 2)}
	}
	return api.Re{Op: api.OpCat, Kids: g.kids(levels-1, 2)}
}

func (g *grower) kids(levels, n int) []api.Re {
	l := make([]api.Re, n)
	for i := range l {
		l[i] = g.tree(levels)
	}
	return l
}

// repeat returns a repetition; its kid cannot be empty, unless the shape has loops.
func (g *grower) repeat(levels int) api.Re {
	kid := g.tree(levels - 1)
	if !g.shape.Loops && empty(kid) {
		kid = api.Re{Op: api.OpSet, Set: []api.Span{{Lo: 'a', Hi: 'b'}}}
	}
	bounds := [][2]int{{0, -1}, {0, -1}, {1, -1}, {0, 1}, {2, -1}, {1, 2}, {2, 2}, {0, 3}, {1, 1}}
	b := bounds[g.Int(len(bounds))]
	mode := g.Int(2)
	if g.shape.Atoms && g.Int(4) == 0 {
		mode = api.Possessive
	}
	return api.Re{Op: api.OpRep, Min: b[0], Max: b[1], Mode: mode, Kids: []api.Re{kid}}
}

// empty reports whether a tree can be empty by its form.
func empty(re api.Re) bool {
	any, all := false, true
	for _, k := range re.Kids {
		e := empty(k)
		any, all = any || e, all && e
	}
	switch re.Op {
	case api.OpSet:
		return false
	case api.OpCat, api.OpCap, api.OpAtom:
		return all
	case api.OpAlt, api.OpCond:
		return any
	case api.OpRep:
		return re.Min == 0 || all
	}
	return true
}
