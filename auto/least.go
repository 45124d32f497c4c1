package auto

import (
	"slices"

	"rexmill/api"
	"rexmill/prog"
	"rexmill/sets"
)

// least returns the least automaton with the same texts as a valid one, or one with too many spans in a class.
func least(a Auto) (Auto, api.Errno) {
	reached, next, _ := explore(0, len(a.Classes), itself[int], func(s, c int) int { return a.Next[s][c] })
	x := Auto{Classes: a.Classes, Next: next}
	for _, s := range reached {
		x.Accept = append(x.Accept, a.Accept[s])
	}
	x = unequal(x)
	x = quotient(x, blocks(x))
	x = unequal(x)
	for i, class := range x.Classes {
		set, err := sets.Normal(class)
		if err != api.OK {
			return Auto{}, err
		}
		x.Classes[i] = set
	}
	return x, api.OK
}

// unequal joins the classes that lead to the same states everywhere; their spans are only put one after the other.
func unequal(a Auto) Auto {
	out := Auto{Next: make([][]int, len(a.Next)), Accept: a.Accept}
	known := map[string]int{}
	for c, class := range a.Classes {
		var column []byte
		for _, row := range a.Next {
			column = append(column, byte(row[c]), byte(row[c]>>8))
		}
		if k, is := known[string(column)]; is {
			out.Classes[k] = append(out.Classes[k], class...)
			continue
		}
		known[string(column)] = len(out.Classes)
		out.Classes = append(out.Classes, slices.Clone(class))
		for s, row := range a.Next {
			out.Next[s] = append(out.Next[s], row[c])
		}
	}
	return out
}

// blocks returns a number for each state, which is the same for those from which the same texts are accepted.
func blocks(a Auto) []int {
	block := make([]int, len(a.Next))
	for s, accept := range a.Accept {
		if accept {
			block[s] = 1
		}
	}
	count := 0
	for {
		known := map[string]int{}
		finer := make([]int, len(block))
		for s, row := range a.Next {
			key := []byte{byte(block[s]), byte(block[s] >> 8)}
			for _, to := range row {
				key = append(key, byte(block[to]), byte(block[to]>>8))
			}
			n, is := known[string(key)]
			if !is {
				n = len(known)
				known[string(key)] = n
			}
			finer[s] = n
		}
		block = finer
		if len(known) == count {
			return block
		}
		count = len(known)
	}
}

// quotient returns the automaton of blocks, numbered in the order in which they are reached.
func quotient(a Auto, block []int) Auto {
	member := map[int]int{}
	for s, b := range block {
		member[b] = s
	}
	order, next, _ := explore(block[0], len(a.Classes), itself[int], func(b, c int) int { return block[a.Next[member[b]][c]] })
	out := Auto{Classes: a.Classes, Next: next}
	for _, b := range order {
		out.Accept = append(out.Accept, a.Accept[member[b]])
	}
	return out
}

// threads returns the Syms and Dones to which ways lead from some instructions, as a set.
func threads(g prog.Prog, from []int) []int {
	seen := make([]bool, len(g.Insns))
	var l []int
	var add func(i int)
	add = func(i int) {
		if seen[i] {
			return
		}
		seen[i] = true
		switch x := &g.Insns[i]; x.Op {
		case prog.Sym, prog.Done:
			l = append(l, i)
		case prog.Jump:
			add(x.X)
		case prog.Split:
			add(x.X)
			add(x.Y)
		case prog.Save:
			add(i + 1)
		}
	}
	for _, i := range from {
		add(i)
	}
	slices.Sort(l)
	return l
}

// threadKey returns what tells a set of threads apart from others.
func threadKey(l []int) string {
	b := make([]byte, 0, 2*len(l))
	for _, i := range l {
		b = append(b, byte(i), byte(i>>8))
	}
	return string(b)
}

// Of returns the least automaton of the texts that a pattern matches as a whole.
func Of(p api.Pattern) (Auto, api.Errno) {
	g, err := prog.Compile(p)
	if err != api.OK {
		return Auto{}, err
	}
	most := 255
	if p.Runes {
		most = api.MaxSymbol
	}
	var all [][]api.Span
	for _, x := range g.Insns {
		if x.Op == prog.Assert {
			return Auto{}, api.ErrKind
		}
		if x.Op == prog.Sym {
			all = append(all, x.Set)
		}
	}
	classes, err := sets.Split(all, most)
	if err != api.OK {
		return Auto{}, err
	}
	step := func(l []int, c int) []int {
		var from []int
		for _, i := range l {
			if sets.Has(g.Insns[i].Set, classes[c][0].Lo) {
				from = append(from, i+1)
			}
		}
		return threads(g, from)
	}
	found, next, fits := explore(threads(g, []int{0}), len(classes), threadKey, step)
	if !fits {
		return Auto{}, api.ErrLimit
	}
	out := Auto{Classes: classes, Next: next}
	for _, l := range found {
		ends := func(i int) bool { return g.Insns[i].Op == prog.Done }
		out.Accept = append(out.Accept, slices.ContainsFunc(l, ends))
	}
	return least(out)
}
