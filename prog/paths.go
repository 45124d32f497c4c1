package prog

import (
	"slices"

	"rexmill/api"
	"rexmill/text"
)

// way is a way through a program, as far as it has come: registers are never changed, but copied.
type way struct {
	insn, at  int
	registers []int
}

// match returns the result of a way that has ended.
func (w way) match(start int) api.Match {
	m := api.Match{Start: start, End: w.at}
	for i := 0; i < len(w.registers); i += 2 {
		span := [2]int{w.registers[i], w.registers[i+1]}
		if span[0] < 0 || span[1] < 0 {
			span = [2]int{-1, -1}
		}
		m.Caps = append(m.Caps, span)
	}
	return m
}

// Paths returns the first paths (at most most) of a program through a text, in the order of preference.
func Paths(g Prog, text []int, at, most, fuel int) ([]api.Match, api.Errno) {
	if err := Valid(g); err != api.OK {
		return nil, err
	}
	if len(text) > api.MaxText {
		return nil, api.ErrLimit
	}
	if at < 0 || at > len(text) || most < -1 {
		return nil, api.ErrRange
	}
	if fuel < 0 || fuel > api.MaxFuel {
		return nil, api.ErrArg
	}
	return follow(g, text, at, most, fuel)
}

// follow goes all ways, one after the other; the stack has those that come later.
func follow(g Prog, txt []int, start, most, fuel int) ([]api.Match, api.Errno) {
	var out []api.Match
	stack := []way{{at: start, registers: slices.Repeat([]int{-1}, 2*g.Caps)}}
ways:
	for len(stack) > 0 && len(out) != most {
		w := stack[len(stack)-1]
		stack = stack[:len(stack)-1]
		for {
			if fuel == 0 {
				return nil, api.ErrFuel
			}
			fuel--
			x := &g.Insns[w.insn]
			w.insn++
			switch x.Op {
			case Done:
				out = append(out, w.match(start))
				continue ways
			case Sym:
				if w.at == len(txt) || !has(x.Set, txt[w.at]) {
					continue ways
				}
				w.at++
			case Split:
				stack = append(stack, way{x.Y, w.at, w.registers})
				w.insn = x.X
			case Jump:
				w.insn = x.X
			case Save:
				w.registers = slices.Clone(w.registers)
				w.registers[x.N] = w.at
			case Assert:
				if !text.Assert(x.N, txt, w.at) {
					continue ways
				}
			}
		}
	}
	return out, api.OK
}

// has reports whether a set has a symbol.
func has(set []api.Span, symbol int) bool {
	in := func(s api.Span) bool { return s.Lo <= symbol && symbol <= s.Hi }
	return slices.ContainsFunc(set, in)
}
