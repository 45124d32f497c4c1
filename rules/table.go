package rules

import (
	"slices"

	"rexmill/api"
	"rexmill/ast"
	"rexmill/sets"
)

// single reports whether a tree has at most one result by its form.
func single(re api.Re) bool {
	all := !slices.ContainsFunc(re.Kids, func(kid api.Re) bool { return !single(kid) })
	switch re.Op {
	case api.OpEmpty, api.OpSet, api.OpRef, api.OpAhead, api.OpBehind, api.OpAtom, api.OpAssert:
		return true
	case api.OpCat, api.OpCond, api.OpCap:
		return all
	case api.OpRep:
		return re.Mode == api.Possessive || re.Min == re.Max && all
	}
	return false
}

// plain reports whether a tree uses nothing but, perhaps, repetitions of what can be empty.
func plain(re api.Re) bool {
	return ast.Uses(re)&^ast.Loops == 0
}

// beginnings returns spans of the symbols with which a tree can begin.
func beginnings(re api.Re) []api.Span {
	switch re.Op {
	case api.OpSet:
		return re.Set
	case api.OpRef:
		return []api.Span{{Lo: 0, Hi: api.MaxSymbol}}
	case api.OpCat, api.OpAlt, api.OpCond, api.OpRep, api.OpCap, api.OpAtom:
		var l []api.Span
		for _, kid := range re.Kids {
			l = append(l, beginnings(kid)...)
			if re.Op == api.OpCat && !ast.Nullable(kid) {
				break
			}
		}
		return l
	}
	return nil
}

func equal(a, b api.Re) bool {
	return ast.Compare(a, b) == 0
}

// star reports whether a tree is a star of another one.
func star(re, x api.Re) bool {
	return isStar(re) && equal(re.Kids[0], x)
}

func isStar(re api.Re) bool {
	return re.Op == api.OpRep && re.Min == 0 && re.Max == -1 && re.Mode == api.Greedy
}

// one returns one tree for some kids.
func one(kids []api.Re) api.Re {
	if len(kids) == 1 {
		return kids[0]
	}
	return api.Re{Op: api.OpCat, Kids: kids}
}

// neighbor returns the index of the first element of a list that is right together with the next one, or -1.
func neighbor[T any](l []T, right func(a, b T) bool) int {
	for i := 0; i+1 < len(l); i++ {
		if right(l[i], l[i+1]) {
			return i
		}
	}
	return -1
}

// replaced returns a tree with some of its kids, from an index on, replaced by others; a single kid that is left stands for itself.
func replaced(t api.Re, at, count int, with ...api.Re) (api.Re, bool) {
	kids := slices.Concat(t.Kids[:at], with, t.Kids[at+count:])
	if len(kids) == 1 {
		return kids[0], true
	}
	return api.Re{Op: t.Op, Kids: kids}, true
}

// spread replaces the first kid with the same operation by its kids.
func spread(t api.Re, op int) (api.Re, bool) {
	i := slices.IndexFunc(t.Kids, func(kid api.Re) bool { return kid.Op == op })
	if t.Op != op || i < 0 {
		return api.Re{}, false
	}
	return replaced(t, i, 1, t.Kids[i].Kids...)
}

func flat(t api.Re) (api.Re, bool) {
	return spread(t, api.OpCat)
}

func merge(t api.Re) (api.Re, bool) {
	return spread(t, api.OpAlt)
}

func unit(t api.Re) (api.Re, bool) {
	i := slices.IndexFunc(t.Kids, func(kid api.Re) bool { return kid.Op == api.OpEmpty })
	if t.Op != api.OpCat || i < 0 {
		return api.Re{}, false
	}
	return replaced(t, i, 1)
}

func twin(t api.Re) (api.Re, bool) {
	if t.Op != api.OpAlt {
		return api.Re{}, false
	}
	for i, kid := range t.Kids {
		if slices.ContainsFunc(t.Kids[:i], func(other api.Re) bool { return equal(other, kid) }) {
			return replaced(t, i, 1)
		}
	}
	return api.Re{}, false
}

// pair looks in a tree with an operation for a kid and a next one that are right together.
func pair(t api.Re, op int, right func(a, b api.Re) bool) (int, bool) {
	if t.Op != op {
		return 0, false
	}
	i := neighbor(t.Kids, right)
	return i, i >= 0
}

func head(t api.Re) (api.Re, bool) {
	i, found := pair(t, api.OpAlt, func(a, b api.Re) bool {
		return a.Op == api.OpCat && b.Op == api.OpCat && single(a.Kids[0]) && equal(a.Kids[0], b.Kids[0])
	})
	if !found {
		return api.Re{}, false
	}
	a, b := t.Kids[i].Kids, t.Kids[i+1].Kids
	rest := api.Re{Op: api.OpAlt, Kids: []api.Re{one(a[1:]), one(b[1:])}}
	return replaced(t, i, 2, api.Re{Op: api.OpCat, Kids: []api.Re{a[0], rest}})
}

func tail(t api.Re) (api.Re, bool) {
	last := func(re api.Re) int { return len(re.Kids) - 1 }
	i, found := pair(t, api.OpAlt, func(a, b api.Re) bool {
		return a.Op == api.OpCat && b.Op == api.OpCat && equal(a.Kids[last(a)], b.Kids[last(b)])
	})
	if !found {
		return api.Re{}, false
	}
	a, b := t.Kids[i], t.Kids[i+1]
	rest := api.Re{Op: api.OpAlt, Kids: []api.Re{one(a.Kids[:last(a)]), one(b.Kids[:last(b)])}}
	return replaced(t, i, 2, api.Re{Op: api.OpCat, Kids: []api.Re{rest, a.Kids[last(a)]}})
}

func union(t api.Re) (api.Re, bool) {
	var both []api.Span
	i, found := pair(t, api.OpAlt, func(a, b api.Re) bool {
		if a.Op != api.OpSet || b.Op != api.OpSet {
			return false
		}
		l, err := sets.Union(a.Set, b.Set)
		both = l
		return err == api.OK
	})
	if !found {
		return api.Re{}, false
	}
	return replaced(t, i, 2, api.Re{Op: api.OpSet, Set: both})
}

func once(t api.Re) (api.Re, bool) {
	if t.Op != api.OpRep || t.Min != 1 || t.Max != 1 || t.Mode == api.Possessive {
		return api.Re{}, false
	}
	return t.Kids[0], true
}

func nest(t api.Re) (api.Re, bool) {
	right := func(re api.Re) bool {
		return re.Op == api.OpRep && re.Mode == api.Greedy && re.Max == -1 && re.Min <= 1
	}
	if !right(t) || !right(t.Kids[0]) || ast.Nullable(t.Kids[0].Kids[0]) {
		return api.Re{}, false
	}
	return api.Re{Op: api.OpRep, Min: min(t.Min, t.Kids[0].Min), Max: -1, Kids: t.Kids[0].Kids}, true
}

func stars(t api.Re) (api.Re, bool) {
	i, found := pair(t, api.OpCat, func(a, b api.Re) bool {
		return isStar(a) && equal(a, b) && !ast.Nullable(a.Kids[0])
	})
	if !found {
		return api.Re{}, false
	}
	return replaced(t, i, 1)
}

func maybe(t api.Re) (api.Re, bool) {
	i, found := pair(t, api.OpCat, func(a, b api.Re) bool {
		optional := a.Op == api.OpRep && a.Min == 0 && a.Max == 1 && a.Mode == api.Greedy
		return optional && star(b, a.Kids[0]) && !ast.Nullable(a.Kids[0])
	})
	if !found {
		return api.Re{}, false
	}
	return replaced(t, i, 1)
}

func plus(t api.Re) (api.Re, bool) {
	i, found := pair(t, api.OpCat, func(a, b api.Re) bool { return star(b, a) })
	if !found {
		return api.Re{}, false
	}
	return replaced(t, i, 2, api.Re{Op: api.OpRep, Min: 1, Max: -1, Kids: []api.Re{t.Kids[i]}})
}

func hold(t api.Re) (api.Re, bool) {
	if t.Op != api.OpCat {
		return api.Re{}, false
	}
	for i, kid := range t.Kids {
		after := t.Kids[i+1:]
		right := kid.Op == api.OpRep && kid.Mode == api.Greedy && kid.Min != kid.Max && kid.Kids[0].Op == api.OpSet
		stops := slices.ContainsFunc(after, func(re api.Re) bool { return !ast.Nullable(re) })
		if !right || !stops || overlap(kid.Kids[0].Set, beginnings(api.Re{Op: api.OpCat, Kids: after})) {
			continue
		}
		kid.Mode = api.Possessive
		return replaced(t, i, 1, kid)
	}
	return api.Re{}, false
}

// overlap reports whether two lists of spans have a symbol in common.
func overlap(a, b []api.Span) bool {
	return slices.ContainsFunc(a, func(s api.Span) bool {
		return slices.ContainsFunc(b, func(t api.Span) bool { return s.Lo <= t.Hi && t.Lo <= s.Hi })
	})
}

func peel(t api.Re) (api.Re, bool) {
	if t.Op != api.OpAhead || t.Neg || t.Kids[0].Op != api.OpCat {
		return api.Re{}, false
	}
	kids := t.Kids[0].Kids
	last := kids[len(kids)-1]
	if !plain(last) || !ast.Nullable(last) {
		return api.Re{}, false
	}
	return api.Re{Op: api.OpAhead, Kids: []api.Re{one(kids[:len(kids)-1])}}, true
}

func sure(t api.Re) (api.Re, bool) {
	if t.Op != api.OpAhead || t.Neg || !plain(t.Kids[0]) || !ast.Nullable(t.Kids[0]) {
		return api.Re{}, false
	}
	return api.Re{}, true
}

func loose(t api.Re) (api.Re, bool) {
	if t.Op != api.OpAtom || !single(t.Kids[0]) {
		return api.Re{}, false
	}
	return t.Kids[0], true
}

func own(t api.Re) (api.Re, bool) {
	if t.Op != api.OpAtom || t.Kids[0].Op != api.OpRep || t.Kids[0].Mode != api.Greedy {
		return api.Re{}, false
	}
	re := t.Kids[0]
	re.Mode = api.Possessive
	return re, true
}
