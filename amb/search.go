package amb

import (
	"slices"

	"rexmill/api"
)

// hop is where an edge leads, and in how many ways.
type hop struct{ to, ways int }

// links is the edges of a graph by nodes and classes.
type links struct {
	by    []map[int][]hop
	reads [][]int    // the classes of the edges that begin at a node, in increasing order
	bits  [][]uint64 // the same as bits
	leads []uint64
}

func linked(x Graph) *links {
	l := &links{by: make([]map[int][]hop, len(x.Nodes)), reads: make([][]int, len(x.Nodes)), leads: reachable(x)}
	for i := range l.by {
		l.by[i] = map[int][]hop{}
	}
	for _, e := range x.Edges {
		l.by[e.From][e.Class] = append(l.by[e.From][e.Class], hop{e.To, e.Ways})
		l.reads[e.From] = append(l.reads[e.From], e.Class)
	}
	for i := range l.reads {
		slices.Sort(l.reads[i])
		l.reads[i] = slices.Compact(l.reads[i])
		bits := make([]uint64, len(x.Classes)/64+1)
		for _, c := range l.reads[i] {
			bits[c/64] |= 1 << (c % 64)
		}
		l.bits = append(l.bits, bits)
	}
	return l
}

// between reports whether a node is one of two nodes or on a way from the first one to the second one.
func (l *links) between(from, to, node int) bool {
	after := node == from || l.leads[from]>>node&1 == 1
	ahead := node == to || l.leads[node]>>to&1 == 1
	return after && ahead
}

// group is the states that a list of classes leads to first, with the last one of these classes.
type group[S comparable] struct {
	states []S
	class  int
	before int
}

// search looks for the least one of the shortest lists of classes that lead from a state to the goal. States with the same list are followed together, since a later one of them can go on with a lesser class.
func search[S comparable](from, goal S, reads func(S) []int, step func(S, int) []S) ([]int, bool) {
	seen := map[S]bool{from: true}
	groups := []group[S]{{states: []S{from}, before: -1}}
	for i := 0; i < len(groups); i++ {
		var classes []int
		for _, s := range groups[i].states {
			classes = append(classes, reads(s)...)
		}
		slices.Sort(classes)
		for _, c := range slices.Compact(classes) {
			var states []S
			for _, s := range groups[i].states {
				for _, t := range step(s, c) {
					if !seen[t] {
						seen[t] = true
						states = append(states, t)
					}
				}
			}
			if len(states) > 0 {
				groups = append(groups, group[S]{states, c, i})
			}
			if !seen[goal] {
				continue
			}
			var word []int
			for k := len(groups) - 1; groups[k].before >= 0; k = groups[k].before {
				word = append(word, groups[k].class)
			}
			slices.Reverse(word)
			return word, true
		}
	}
	return nil, false
}

// common returns the classes that all of some nodes read.
func (l *links) common(nodes ...int) []int {
	var out []int
	for _, c := range l.reads[nodes[0]] {
		all := true
		for _, n := range nodes[1:] {
			all = all && len(l.by[n][c]) > 0
		}
		if all {
			out = append(out, c)
		}
	}
	return out
}

// share reports whether there is a class that three nodes read.
func (l *links) share(s [3]int) bool {
	for i, b := range l.bits[s[0]] {
		if b&l.bits[s[1]][i]&l.bits[s[2]][i] != 0 {
			return true
		}
	}
	return false
}

// pairs looks for two different ways from a node back to it; states are two nodes, and 1 if the ways were different already.
func (l *links) pairs(node int) ([]int, bool) {
	step := func(s [3]int, c int) [][3]int {
		var out [][3]int
		for i, p := range l.by[s[0]][c] {
			for k, q := range l.by[s[1]][c] {
				if !l.between(node, node, p.to) || !l.between(node, node, q.to) {
					continue
				}
				differ := s[2] == 1 || i != k
				if !differ {
					out = append(out, [3]int{p.to, q.to, 0})
				}
				if differ || p.ways > 1 {
					out = append(out, [3]int{p.to, q.to, 1})
				}
			}
		}
		return out
	}
	reads := func(s [3]int) []int { return l.common(s[0], s[1]) }
	return search([3]int{node, node, 0}, [3]int{node, node, 1}, reads, step)
}

// triples looks for ways from a to a, from a to b, and from b to b.
func (l *links) triples(a, b int) ([]int, bool) {
	goal := [3]int{a, b, b}
	ends := [3][2]int{{a, a}, {a, b}, {b, b}}
	step := func(s [3]int, c int) [][3]int {
		var next [3][]int
		for i := range s {
			for _, h := range l.by[s[i]][c] {
				if l.between(ends[i][0], ends[i][1], h.to) {
					next[i] = append(next[i], h.to)
				}
			}
		}
		var out [][3]int
		for _, p := range next[0] {
			for _, q := range next[1] {
				for _, r := range next[2] {
					t := [3]int{p, q, r}
					if t == goal || l.share(t) {
						out = append(out, t)
					}
				}
			}
		}
		return out
	}
	reads := func(s [3]int) []int { return l.common(s[0], s[1], s[2]) }
	return search([3]int{a, a, b}, goal, reads, step)
}

// word returns the least symbols of classes.
func word(x Graph, classes []int, found bool) ([]int, bool, api.Errno) {
	var out []int
	for _, c := range classes {
		out = append(out, x.Classes[c][0].Lo)
	}
	return out, found, api.OK
}

// Double returns a shortest text that leads from a node to itself in two different ways, if there is one.
func Double(x Graph, node int) ([]int, bool, api.Errno) {
	if err := check(x); err != api.OK {
		return nil, false, err
	}
	if node < 0 || node >= len(x.Nodes) {
		return nil, false, api.ErrRange
	}
	classes, found := linked(x).pairs(node)
	return word(x, classes, found)
}

// Bridge returns a shortest text that leads from a to a, from a to b and from b to b, if there is one.
func Bridge(x Graph, a, b int) ([]int, bool, api.Errno) {
	if err := check(x); err != api.OK {
		return nil, false, err
	}
	if min(a, b) < 0 || max(a, b) >= len(x.Nodes) {
		return nil, false, api.ErrRange
	}
	if a == b {
		return nil, false, api.ErrArg
	}
	l := linked(x)
	if l.leads[a]>>a&1 == 0 || l.leads[b]>>b&1 == 0 || l.leads[a]>>b&1 == 0 {
		return nil, false, api.OK
	}
	classes, found := l.triples(a, b)
	return word(x, classes, found)
}

// Degree returns the degree of the number of ways (-1: it grows exponentially).
func Degree(x Graph) (int, api.Errno) {
	if err := check(x); err != api.OK {
		return 0, err
	}
	l := linked(x)
	reached := start(x, l.leads)
	for node := range x.Nodes {
		if reached>>node&1 == 0 {
			continue
		}
		if _, found := l.pairs(node); found {
			return -1, api.OK
		}
	}
	return l.chain(reached), api.OK
}

// chain returns the greatest number of bridges one after the other that begin at some nodes. There are none between nodes that lead to each other, since then the first one would have two different ways back to it.
func (l *links) chain(reached uint64) int {
	bridges := map[[2]int]bool{}
	for a := range l.leads {
		for b := range l.leads {
			loops := l.leads[a]>>a&1 == 1 && l.leads[b]>>b&1 == 1
			if reached>>a&1 == 1 && loops && l.leads[a]>>b&1 == 1 && l.leads[b]>>a&1 == 0 {
				_, found := l.triples(a, b)
				bridges[[2]int{a, b}] = found
			}
		}
	}
	known := map[int]int{}
	var from func(node int) int
	from = func(node int) int {
		if n, is := known[node]; is {
			return n
		}
		most := 0
		for a := range l.leads {
			for b := range l.leads {
				if bridges[[2]int{a, b}] && (a == node || l.leads[node]>>a&1 == 1) {
					most = max(most, 1+from(b))
				}
			}
		}
		known[node] = most
		return most
	}
	most := 0
	for a := range l.leads {
		if reached>>a&1 == 1 {
			most = max(most, from(a))
		}
	}
	return most
}
