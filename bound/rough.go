package bound

import (
	"rexmill/api"
	"rexmill/ast"
)

// What is asked for: one result, or the whole list.
const (
	first = iota
	all
)

// least returns a number of steps that a tree takes at least.
func least(re api.Re, asked int) int {
	switch re.Op {
	case api.OpCap:
		return 1 + least(re.Kids[0], asked)
	case api.OpAtom, api.OpAhead, api.OpBehind:
		return 1 + least(re.Kids[0], first)
	case api.OpCat:
		return 1 + least(re.Kids[0], asked)
	case api.OpAlt:
		n := 1 + least(re.Kids[0], asked)
		for _, kid := range re.Kids[1:] {
			if asked == all {
				n += least(kid, asked)
			}
		}
		return n
	case api.OpCond:
		return 1 + min(least(re.Kids[0], asked), least(re.Kids[1], asked))
	case api.OpRep:
		if re.Min == 0 && re.Mode == api.Lazy && asked == first {
			return 1
		}
		if re.Mode == api.Possessive {
			asked = first
		}
		return 1 + least(re.Kids[0], asked)
	}
	return 1
}

// upper is how many results and steps there are at most.
type upper [2]int

// step counts one more step.
func (u upper) step() upper {
	return upper{u[0], plus(u[1], 1)}
}

// then returns the bounds of two trees one after the other.
func (u upper) then(v upper) upper {
	return upper{times(u[0], v[0]), plus(u[1], times(u[0], v[1]))}
}

// or returns the bounds of two trees one of which comes after the other as an alternative.
func (u upper) or(v upper) upper {
	return upper{plus(u[0], v[0]), plus(u[1], v[1])}
}

// repeated returns the bounds of a repetition.
func (u upper) repeated(re api.Re, n int) upper {
	rounds := re.Min + n
	if re.Max >= 0 {
		rounds = min(re.Max, rounds)
	}
	results, sum, power := 0, 0, 1
	for k := range rounds + 1 {
		sum = plus(sum, power)
		if k >= re.Min {
			results = plus(results, power)
		}
		power = times(power, u[0])
	}
	if re.Mode == api.Possessive {
		results = 1
	}
	return upper{results, times(plus(u[1], 1), sum)}
}

// both returns the bounds of a tree in texts with n symbols.
func both(re api.Re, n int) upper {
	var walk func(re api.Re) upper
	walk = func(re api.Re) upper {
		switch re.Op {
		case api.OpCap:
			return walk(re.Kids[0]).step()
		case api.OpAtom, api.OpAhead:
			return upper{1, walk(re.Kids[0])[1]}.step()
		case api.OpBehind:
			return upper{1, times(n+1, walk(re.Kids[0])[1])}.step()
		case api.OpCat:
			u := upper{1, 0}
			for _, kid := range re.Kids {
				u = u.then(walk(kid))
			}
			return u.step()
		case api.OpAlt:
			u := upper{}
			for _, kid := range re.Kids {
				u = u.or(walk(kid))
			}
			return u.step()
		case api.OpCond:
			u, v := walk(re.Kids[0]), walk(re.Kids[1])
			return upper{max(u[0], v[0]), max(u[1], v[1])}.step()
		case api.OpRep:
			return walk(re.Kids[0]).repeated(re, n)
		}
		return upper{1, 1}
	}
	return walk(re)
}

// Rough returns a lower and an upper bound for any pattern and texts with n symbols (-1: more than can be said).
func Rough(p api.Pattern, n int) (int, int, api.Errno) {
	if err := ast.Valid(p); err != api.OK {
		return 0, 0, err
	}
	if n < 0 || n > api.MaxText {
		return 0, 0, api.ErrArg
	}
	high := both(p.Re, n)[1]
	if high > most {
		high = -1
	}
	return least(p.Re, all), high, api.OK
}
