package growth

import (
	"slices"

	"rexmill/amb"
	"rexmill/api"
)

// path returns the symbols of a shortest way from one of some nodes to a node, which is there.
func (x *graph) path(from uint64, to int) []int {
	type reach struct{ node, symbol, before int }
	var order []reach
	for i := range len(x.Nodes) {
		if has(from, i) {
			order = append(order, reach{i, 0, -1})
		}
	}
	seen := from
	for i := 0; i < len(order); i++ {
		if order[i].node == to {
			var l []int
			for ; order[i].before >= 0; i = order[i].before {
				l = append(l, order[i].symbol)
			}
			slices.Reverse(l)
			return l
		}
		for _, e := range x.Edges {
			if e.From == order[i].node && !has(seen, e.To) {
				seen |= 1 << e.To
				order = append(order, reach{e.To, x.Classes[e.Class][0].Lo, i})
			}
		}
	}
	return nil
}

// around returns the symbols of a way with at least one class from a node back to it.
func (x *graph) around(node int) []int {
	for _, e := range x.Edges {
		if e.From == node && (e.To == node || has(x.leads[e.To], node)) {
			return append([]int{x.Classes[e.Class][0].Lo}, x.path(1<<e.To, node)...)
		}
	}
	return nil
}

// Find returns a witness that shows the growth of a pattern.
func Find(p api.Pattern) (Witness, api.Errno) {
	x, err := of(p)
	if err != api.OK {
		return Witness{}, err
	}
	g, err := x.growth()
	if err != api.OK {
		return Witness{}, err
	}
	switch g.Kind {
	case Linear:
		c := x.loop()
		return Witness{[]Pump{{x.path(x.first(), c), x.around(c)}}}, api.OK
	case Exponential:
		for c := range len(x.Nodes) {
			if !has(x.reached, c) {
				continue
			}
			if word, found, _ := amb.Double(x.Graph, c); found {
				return Witness{[]Pump{{x.path(x.first(), c), word}}}, api.OK
			}
		}
	case Polynomial:
		return x.chain(), api.OK
	}
	return Witness{}, api.OK
}

// bridge is a pair of nodes with the word that amb.Bridge finds.
type bridge struct {
	a, b int
	word []int
}

// bridges returns the bridges between reached nodes.
func (x *graph) bridges() []bridge {
	var l []bridge
	for a := range len(x.Nodes) {
		for b := range len(x.Nodes) {
			if a == b || !has(x.reached&x.leads[a], a) || !has(x.leads[a]&x.leads[b], b) {
				continue
			}
			if word, found, _ := amb.Bridge(x.Graph, a, b); found {
				l = append(l, bridge{a, b, word})
			}
		}
	}
	return l
}

// chain returns the witness with as many bridges one after the other as there can be.
func (x *graph) chain() Witness {
	all := x.bridges()
	known := map[int][]bridge{}
	var longest func(i int) []bridge
	longest = func(i int) []bridge {
		if l, is := known[i]; is {
			return l
		}
		var best []bridge
		for k, next := range all {
			if next.a == all[i].b || has(x.leads[all[i].b], next.a) {
				if l := longest(k); len(l) > len(best) {
					best = l
				}
			}
		}
		known[i] = append([]bridge{all[i]}, best...)
		return known[i]
	}
	var best []bridge
	for i := range all {
		if l := longest(i); len(l) > len(best) {
			best = l
		}
	}
	w := Witness{}
	from := x.first()
	for _, b := range best {
		w.Pumps = append(w.Pumps, Pump{x.path(from, b.a), b.word})
		from = 1 << b.b
	}
	last := best[len(best)-1].word
	w.Pumps = append(w.Pumps, Pump{Word: slices.Clone(last)})
	return w
}

// times multiplies numbers; products that are too great are replaced by MaxFuel + 1.
func times(a, b int) int {
	if b > 0 && a > api.MaxFuel/b {
		return api.MaxFuel + 1
	}
	return a * b
}

// counter returns a closure that counts ways: it gets the numbers of ways to all nodes, and returns those after a symbol, where greater ones than MaxFuel are replaced by that plus 1.
func (x *graph) counter() func(ways []int, symbol int) []int {
	edges := make([][]amb.Edge, len(x.Classes))
	for _, e := range x.Edges {
		edges[e.Class] = append(edges[e.Class], e)
	}
	classes := map[int]int{}
	return func(ways []int, symbol int) []int {
		c, known := classes[symbol]
		if !known {
			in := func(s api.Span) bool { return s.Lo <= symbol && symbol <= s.Hi }
			c = slices.IndexFunc(x.Classes, func(class []api.Span) bool { return slices.ContainsFunc(class, in) })
			classes[symbol] = c
		}
		next := make([]int, len(ways))
		if c >= 0 {
			for _, e := range edges[c] {
				next[e.To] = min(next[e.To]+times(ways[e.From], e.Ways), api.MaxFuel+1)
			}
		}
		return next
	}
}

// Lower returns a number of steps that the plain backtracker takes at least for the text with n repetitions.
func Lower(p api.Pattern, w Witness, n int) (int, api.Errno) {
	x, err := of(p)
	if err != api.OK {
		return 0, err
	}
	text, err := Text(w, n)
	if err != api.OK {
		return 0, err
	}
	next := x.counter()
	ways := x.First
	sum := 0
	for i := range len(text) + 1 {
		if i > 0 {
			ways = next(ways, text[i-1])
		}
		all := 0
		for node := range len(ways) {
			all += ways[node]
		}
		sum += all - ways[len(ways)-1]
		if all > api.MaxFuel || sum > api.MaxFuel {
			return 0, api.ErrLimit
		}
	}
	return sum, api.OK
}

// Check accepts a witness for a growth.
func Check(p api.Pattern, g Growth, w Witness) api.Errno {
	x, err := of(p)
	if err != api.OK {
		return err
	}
	if !g.valid() {
		return api.ErrArg
	}
	if !x.shows(g, w) {
		return api.ErrProof
	}
	return api.OK
}

// shows reports whether a witness shows a growth.
func (x *graph) shows(g Growth, w Witness) bool {
	pumps := max(1, g.Degree)
	if g.Kind == Constant {
		pumps = 0
	}
	if len(w.Pumps) != pumps || slices.ContainsFunc(w.Pumps, func(p Pump) bool { return len(p.Word) == 0 }) {
		return false
	}
	next := x.counter()
	nodes := x.first()
	for i, p := range w.Pumps {
		nodes = along(next, nodes, len(x.Nodes), p.Before)
		least := 1
		if g.Kind == Exponential {
			least = 2
		}
		rows := map[int][]int{}
		ways := func(from, to int) int {
			if rows[from] == nil {
				rows[from] = through(next, from, len(x.Nodes), p.Word)
			}
			return rows[from][to]
		}
		if i < len(w.Pumps)-1 {
			nodes = x.across(nodes, ways)
			continue
		}
		for c := range len(x.Nodes) {
			if has(nodes, c) && ways(c, c) >= least {
				return true
			}
		}
		return false
	}
	return true
}

// along returns the nodes to which a list of symbols leads from some nodes.
func along(next func([]int, int) []int, from uint64, size int, symbols []int) uint64 {
	ways := make([]int, size)
	for i := range size {
		if has(from, i) {
			ways[i] = 1
		}
	}
	for _, s := range symbols {
		ways = next(ways, s)
	}
	var nodes uint64
	for i := range size {
		if ways[i] > 0 {
			nodes |= 1 << i
		}
	}
	return nodes
}

// through returns the numbers of ways from a node to all nodes through some symbols.
func through(next func([]int, int) []int, from, size int, symbols []int) []int {
	ways := make([]int, size)
	ways[from] = 1
	for _, s := range symbols {
		ways = next(ways, s)
	}
	return ways
}

// across returns the nodes d for which a word leads from one of some nodes c to c and to d, which is another node, and from d to d.
func (x *graph) across(from uint64, ways func(from, to int) int) uint64 {
	var out uint64
	for c := range len(x.Nodes) {
		if !has(from, c) || ways(c, c) == 0 {
			continue
		}
		for d := range len(x.Nodes) {
			if d != c && ways(c, d) > 0 && ways(d, d) > 0 {
				out |= 1 << d
			}
		}
	}
	return out
}
