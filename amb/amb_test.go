package amb

import (
	"reflect"
	"slices"
	"testing"

	"rexmill/api"
	"rexmill/prog"
	"rexmill/sample"
	"rexmill/sets"
	"rexmill/syntax"
)

func compile(t *testing.T, s string) prog.Prog {
	p, _, err := syntax.Parse(s, syntax.Flags{})
	g, err2 := prog.Compile(p)
	if err+err2 != api.OK {
		t.Fatal(s, err, err2)
	}
	return g
}

func graph(t *testing.T, s string) Graph {
	x, err := Of(compile(t, s))
	if err != api.OK {
		t.Fatal(s, err)
	}
	return x
}

func TestExamples(t *testing.T) {
	x := graph(t, "(?:a|a)*b")
	if len(x.Nodes) != 4 || !slices.Equal(x.First, []int{1, 1, 1, 0}) || !slices.Equal(x.Nodes, []int{2, 4, 6, 7}) {
		t.Error(x)
	}
	want := []Edge{{0, 0, 1, 1}, {0, 1, 1, 1}, {0, 2, 1, 1}, {1, 0, 1, 1}, {1, 1, 1, 1}, {1, 2, 1, 1}, {2, 3, 2, 1}}
	if !slices.Equal(x.Edges, want) {
		t.Error(x.Edges)
	}
	if w, found, err := Double(x, 0); !found || !slices.Equal(w, []int{'a', 'a'}) || err != api.OK {
		t.Error(w)
	}
	if d, _ := Degree(x); d != -1 {
		t.Error(d)
	}
	x = graph(t, "a*a*b")
	if w, found, _ := Bridge(x, 0, 1); !found || !slices.Equal(w, []int{'a'}) {
		t.Error(w)
	}
	if _, found, _ := Bridge(x, 1, 0); found {
		t.Error("a bridge back")
	}
	if d, _ := Degree(x); d != 1 {
		t.Error(d)
	}
	for s, want := range map[string]int{"": 0, "ab": 0, "a*": 0, "a*b*": 0, "a*a*a*": 2, "a*b*a*": 1, "(?:ab)*(?:aba)*": 0, "a*(?:ba*)*": 0, "(?:a*b)*a*": 0, "(?:a?b?)(?:a|ab|b)*": -1, "(?:ab|a|b)*": -1, "a*[ab]*b*": 2, "(?:a*|b)a*c|a*a*a*a*": 3} {
		if got, err := Degree(graph(t, s)); got != want || err != api.OK {
			t.Errorf("%s: degree %d, want %d", s, got, want)
		}
	}
}

func TestOfErrors(t *testing.T) {
	a := []api.Span{{Lo: 'a', Hi: 'a'}}
	sym := prog.Insn{Op: prog.Sym, Set: a}
	many := slices.Repeat([]prog.Insn{sym}, 64)
	comb := prog.Insn{Op: prog.Sym}
	for i := range 64 {
		comb.Set = append(comb.Set, api.Span{Lo: 2*i + 1, Hi: 2*i + 1})
	}
	// Each Split leads twice to the next one, so there are 2^41 ways.
	var splits []prog.Insn
	for i := range 41 {
		splits = append(splits, prog.Insn{Op: prog.Split, X: i + 1, Y: i + 1})
	}
	after := []prog.Insn{sym}
	for i := range 41 {
		after = append(after, prog.Insn{Op: prog.Split, X: i + 2, Y: i + 2})
	}
	dead := slices.Clone(after)
	dead[0] = prog.Insn{Op: prog.Sym}
	for i, c := range []struct {
		insns []prog.Insn
		want  api.Errno
	}{
		{nil, api.ErrArg}, {make([]prog.Insn, api.MaxProg+1), api.ErrLimit}, {append(slices.Clone(many), prog.Insn{Op: prog.Assert}, prog.Insn{}), api.ErrKind}, {[]prog.Insn{{}, {Op: prog.Jump, X: 1}}, api.ErrKind}, {[]prog.Insn{{Op: prog.Split, X: 1, Y: 2}, {Op: prog.Jump, X: 0}, {}}, api.ErrKind}, {append(slices.Clone(many), prog.Insn{Op: prog.Jump, X: 64}), api.ErrKind},
		{append(slices.Clone(many), prog.Insn{}), api.ErrLimit}, {append(slices.Clone(many[1:]), prog.Insn{}), api.OK}, {[]prog.Insn{comb, {}}, api.ErrLimit}, {append(slices.Clone(splits), prog.Insn{}), api.ErrLimit}, {append(slices.Clone(splits[:40]), prog.Insn{}), api.OK}, {append(slices.Clone(after), prog.Insn{}), api.ErrLimit}, {append(slices.Clone(dead), prog.Insn{}), api.OK}, {[]prog.Insn{sym, {Op: prog.Jump, X: 0}}, api.OK},
	} {
		x, err := Of(prog.Prog{Insns: c.insns})
		if err != c.want || err != api.OK && x.Nodes != nil {
			t.Errorf("case %d: %d", i, err)
		}
	}
	x, _ := Of(prog.Prog{Insns: []prog.Insn{sym, {Op: prog.Jump, X: 0}}})
	if !slices.Equal(x.Nodes, []int{0, -1}) || !slices.Equal(x.First, []int{1, 0}) {
		t.Error("a program without a Done", x)
	}
	x, _ = Of(prog.Prog{Insns: []prog.Insn{{Op: prog.Split, X: 1, Y: 2}, {}, {}}})
	if !slices.Equal(x.Nodes, []int{1}) || !slices.Equal(x.First, []int{2}) {
		t.Error("two Dones are one node", x)
	}
}

func TestCountsArePaths(t *testing.T) {
	r := sample.New(1)
	for range 1500 {
		p := r.Pattern(sample.Shape{Caps: true}, 2+r.Int(4))
		g, _ := prog.Compile(p)
		x, err := Of(g)
		if err != api.OK {
			continue
		}
		l := r.Text("abcd", 5)
		paths, err := prog.Paths(g, l, 0, -1, 200000)
		if err != api.OK {
			continue
		}
		want := 0
		for _, m := range paths {
			if m.End == len(l) {
				want++
			}
		}
		ways := through(x, l)
		if ways[len(ways)-1] != want {
			t.Fatalf("%v on %v: %d ways to the end, want %d", p, l, ways[len(ways)-1], want)
		}
		all := 0
		for _, n := range ways {
			all += n
		}
		if n, err := Count(x, l); err != api.OK || n != all {
			t.Fatal("Count", n, all)
		}
		y, err := Trim(x)
		z, _ := Trim(y)
		if err != api.OK || !reflect.DeepEqual(y, z) {
			t.Fatal("Trim twice")
		}
		checkTrim(t, x, y)
	}
}

// through returns the numbers of ways through a text from the beginning to all nodes.
func through(x Graph, l []int) []int {
	ways := slices.Clone(x.First)
	for _, s := range l {
		c, err := sets.Class(x.Classes, s)
		next := make([]int, len(ways))
		for _, e := range x.Edges {
			if err == api.OK && e.Class == c {
				next[e.To] += ways[e.From] * e.Ways
			}
		}
		ways = next
	}
	return ways
}

// checkTrim keeps what is reached and leads to the last node, by following edges.
func checkTrim(t *testing.T, x, y Graph) {
	last := len(x.Nodes) - 1
	reached, leads := map[int]bool{}, map[int]bool{last: true}
	for i, n := range x.First {
		reached[i] = n > 0
	}
	for range x.Nodes {
		for _, e := range x.Edges {
			reached[e.To] = reached[e.To] || reached[e.From]
			leads[e.From] = leads[e.From] || leads[e.To]
		}
	}
	var nodes []int
	for i, n := range x.Nodes {
		if reached[i] && leads[i] {
			nodes = append(nodes, n)
		}
	}
	if !slices.Equal(nodes, y.Nodes) || !slices.EqualFunc(x.Classes, y.Classes, sets.Equal) || check(y) != api.OK {
		t.Fatal("Trim", x, y)
	}
}

// random returns a valid graph with some nodes and classes.
func random(r *sample.Rand) Graph {
	n := 2 + r.Int(4)
	x := Graph{Classes: [][]api.Span{{{Lo: 5, Hi: 6}}, {{Lo: 1, Hi: 9}}, {{Lo: 3, Hi: 3}}}[:1+r.Int(3)]}
	for i := range n {
		x.Nodes = append(x.Nodes, 10-i)
		x.First = append(x.First, max(0, r.Int(4)-2))
	}
	many := 2 + r.Int(6)
	for from := range n {
		for to := range n {
			for c := range x.Classes {
				if r.Int(many) == 0 {
					x.Edges = append(x.Edges, Edge{from, to, c, 1 + max(0, r.Int(6)-4)})
				}
			}
		}
	}
	return x
}

// lists returns all lists of classes with up to n of them, in order.
func lists(classes, n int) [][]int {
	out := [][]int{nil}
	for from := 0; len(out[from]) < n; from++ {
		for c := range classes {
			out = append(out, append(slices.Clone(out[from]), c))
		}
	}
	return out[1:]
}

// ways counts the ways from a node to another one through classes.
func ways(x Graph, from, to int, classes []int) int {
	at := make([]int, len(x.Nodes))
	at[from] = 1
	for _, c := range classes {
		next := make([]int, len(at))
		for _, e := range x.Edges {
			if e.Class == c {
				next[e.To] += at[e.From] * e.Ways
			}
		}
		at = next
	}
	return at[to]
}

func TestWords(t *testing.T) {
	r := sample.New(2)
	doubles, bridges := 0, 0
	for range 400 {
		x := random(r)
		all := lists(len(x.Classes), 5)
		find := func(good func(l []int) bool) ([]int, bool) {
			i := slices.IndexFunc(all, good)
			if i < 0 {
				return nil, false
			}
			var w []int
			for _, c := range all[i] {
				w = append(w, x.Classes[c][0].Lo)
			}
			return w, true
		}
		for a := range x.Nodes {
			want, is := find(func(l []int) bool { return ways(x, a, a, l) > 1 })
			got, found, err := Double(x, a)
			if err != api.OK || is && (!found || !slices.Equal(got, want)) || found && !is && len(got) <= 5 || !found && got != nil {
				t.Fatalf("Double of %v at %d: %v %v, want %v", x, a, got, found, want)
			}
			if found {
				doubles++
			}
			b := r.Int(len(x.Nodes))
			if a == b {
				continue
			}
			want, is = find(func(l []int) bool { return ways(x, a, a, l) > 0 && ways(x, a, b, l) > 0 && ways(x, b, b, l) > 0 })
			got, found, err = Bridge(x, a, b)
			if err != api.OK || is && (!found || !slices.Equal(got, want)) || found && !is && len(got) <= 5 || !found && got != nil {
				t.Fatalf("Bridge of %v from %d to %d: %v %v, want %v", x, a, b, got, found, want)
			}
			if found {
				bridges++
			}
		}
		checkDegree(t, x)
	}
	if doubles < 200 || bridges < 200 {
		t.Error("too few words", doubles, bridges)
	}
}

// checkDegree tries all chains of bridges.
func checkDegree(t *testing.T, x Graph) {
	n := len(x.Nodes)
	leads := make([][]bool, n)
	for i := range leads {
		leads[i] = make([]bool, n)
		leads[i][i] = true
		for range x.Nodes {
			for _, e := range x.Edges {
				leads[i][e.To] = leads[i][e.To] || leads[i][e.From]
			}
		}
	}
	var longest func(from, left int) int
	longest = func(from, left int) int {
		most := 0
		for a := range n {
			for b := range n {
				if a != b && leads[from][a] && left > 0 {
					if _, found, _ := Bridge(x, a, b); found {
						most = max(most, 1+longest(b, left-1))
					}
				}
			}
		}
		return most
	}
	want := 0
	for i, k := range x.First {
		if k > 0 {
			for a := range n {
				if _, found, _ := Double(x, a); found && leads[i][a] {
					want = -1
				}
			}
			if want >= 0 {
				want = max(want, longest(i, n+1))
			}
		}
	}
	got, err := Degree(x)
	if err != api.OK || got != want {
		t.Fatalf("Degree of %v: %d, want %d", x, got, want)
	}
}

func TestGraphErrors(t *testing.T) {
	class := []api.Span{{Lo: 1, Hi: 2}}
	good := func() Graph {
		return Graph{Classes: [][]api.Span{class}, Nodes: []int{-5, 7}, First: []int{0, api.MaxFuel}, Edges: []Edge{{0, 0, 0, 1}, {0, 1, 0, api.MaxFuel}, {1, 0, 0, 1}}}
	}
	for i, c := range []struct {
		change func(x *Graph)
		want   api.Errno
	}{
		{func(x *Graph) {}, api.OK}, {func(x *Graph) { *x = Graph{} }, api.OK}, {func(x *Graph) { x.Nodes = make([]int, 65) }, api.ErrLimit}, {func(x *Graph) { x.Edges = make([]Edge, api.MaxBlock+1) }, api.ErrLimit}, {func(x *Graph) { x.First = x.First[:1] }, api.ErrArg}, {func(x *Graph) { x.First[0] = -1 }, api.ErrArg}, {func(x *Graph) { x.First[1]++ }, api.ErrArg},
		{func(x *Graph) { x.Classes[0] = nil }, api.ErrArg}, {func(x *Graph) { x.Classes[0] = []api.Span{{Lo: 2, Hi: 1}} }, api.ErrArg}, {func(x *Graph) { x.Edges[0].Ways = 0 }, api.ErrArg}, {func(x *Graph) { x.Edges[1].Ways++ }, api.ErrArg}, {func(x *Graph) { x.Edges[2].To = 2 }, api.ErrArg}, {func(x *Graph) { x.Edges[0].From = -1 }, api.ErrArg}, {func(x *Graph) { x.Edges[2].Class = 1 }, api.ErrArg}, {func(x *Graph) { x.Edges[1] = x.Edges[0] }, api.ErrArg}, {func(x *Graph) { x.Edges[0], x.Edges[1] = x.Edges[1], x.Edges[0] }, api.ErrArg},
	} {
		x := good()
		c.change(&x)
		y, err1 := Trim(x)
		_, err2 := Degree(x)
		if err1 != c.want || err2 != c.want || err1 != api.OK && y.Nodes != nil {
			t.Errorf("case %d: %d %d", i, err1, err2)
		}
		_, _, err1 = Double(x, -1)
		_, _, err2 = Bridge(x, -1, -1)
		want := c.want
		if want == api.OK {
			want = api.ErrRange
		}
		if err1 != want || err2 != want {
			t.Errorf("case %d: %d %d", i, err1, err2)
		}
		if _, err := Count(x, make([]int, api.MaxText+1)); err != c.want && c.want != api.OK {
			t.Errorf("case %d: Count %d", i, err)
		}
	}
	x := good()
	if _, _, err := Double(x, 2); err != api.ErrRange {
		t.Error("Double of no node")
	}
	if _, _, err := Bridge(x, 0, 2); err != api.ErrRange {
		t.Error("Bridge to no node")
	}
	if _, _, err := Bridge(x, 1, 1); err != api.ErrArg {
		t.Error("Bridge from a node to itself")
	}
	for i, c := range []struct {
		l    []int
		want int
		err  api.Errno
	}{{nil, api.MaxFuel, api.OK}, {make([]int, api.MaxText+1), 0, api.ErrLimit}, {[]int{1}, api.MaxFuel, api.OK}, {[]int{1, 1}, 0, api.ErrLimit}, {[]int{1, 1, 9}, 0, api.ErrLimit}, {[]int{9}, 0, api.OK}, {[]int{-4, 1}, 0, api.OK}} {
		if n, err := Count(x, c.l); n != c.want || err != c.err {
			t.Errorf("Count %d: %d, %d", i, n, err)
		}
	}
	x.First[0] = 1
	if _, err := Count(x, nil); err != api.ErrLimit {
		t.Error("too many ways through the empty text")
	}
}

func TestGrowing(t *testing.T) {
	x := graph(t, "(?:a|a)*b")
	v, _, _ := Double(x, 0)
	y := graph(t, "a*a*a*")
	for k := 1; k < 9; k++ {
		if n, _ := Count(x, slices.Repeat(v, k)); n < 1<<k {
			t.Error("exponential", k, n)
		}
		if n, _ := Count(y, slices.Repeat([]int{'a'}, 2*k)); n < k*k {
			t.Error("polynomial", k, n)
		}
	}
	big := graph(t, "(?:[a-z]|[0-9])*x(?:b|c|d|e|f|g|h|i|j|k|l|m|n|o|p|q|r|s|t|u|v|w|y|z)*(?:b|c|d|e|f|g|h|i|j|k|l|m|n|o|p|q|r|s|t|u|v|w|y|z)*")
	if d, err := Degree(big); d != 1 || err != api.OK {
		t.Error("a large graph", d, err)
	}
}
