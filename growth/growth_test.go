package growth

import (
	"slices"
	"strings"
	"testing"

	"rexmill/amb"
	"rexmill/api"
	"rexmill/prog"
	"rexmill/sample"
	"rexmill/sem"
	"rexmill/syntax"
)

func parse(t *testing.T, s string) api.Pattern {
	p, _, err := syntax.Parse(s, syntax.Flags{})
	if err != api.OK {
		t.Fatal(s, err)
	}
	return p
}

func TestOf(t *testing.T) {
	for _, c := range []struct {
		s    string
		want Growth
	}{
		{"", Growth{}}, {"a{3}b?", Growth{}}, {"a*", Growth{Linear, 1}}, {"a*b*", Growth{Linear, 1}}, {"a*a*", Growth{Polynomial, 2}}, {"a*a*a*", Growth{Polynomial, 3}}, {"(?:a|a)*", Growth{Exponential, 0}}, {"(?:a|a)*b", Growth{Exponential, 0}}, {"[]a*", Growth{}}, {"a*[]a*", Growth{Linear, 1}}, {"(?:a+)+", Growth{Exponential, 0}}, {strings.Repeat("a*", 12), Growth{Polynomial, 12}},
	} {
		g, err := Of(parse(t, c.s))
		if g != c.want || err != api.OK {
			t.Errorf("%s: %v %d", c.s, g, err)
		}
		w, err := Find(parse(t, c.s))
		if err != api.OK || Check(parse(t, c.s), g, w) != api.OK {
			t.Errorf("%s: the witness %v", c.s, w)
		}
	}
}

func TestExample(t *testing.T) {
	p := parse(t, "a*a*")
	a := []int{'a'}
	w := Witness{[]Pump{{nil, a}, {nil, a}}}
	if Check(p, Growth{Polynomial, 2}, w) != api.OK {
		t.Error("the witness of the example")
	}
	if n, err := Lower(p, w, 1); n != 9 || err != api.OK {
		t.Error(n, err)
	}
	if l, err := Text(w, 3); err != api.OK || len(l) != 6 {
		t.Error(l)
	}
}

// lower counts the ways to Sym nodes by the paths of programs that end at each of them.
func lower(t *testing.T, p api.Pattern, l []int) int {
	g, _ := prog.Compile(p)
	x, _ := amb.Of(g)
	sum := 0
	for _, node := range x.Nodes[:len(x.Nodes)-1] {
		h := prog.Prog{Insns: slices.Clone(g.Insns), Caps: g.Caps}
		for i := range h.Insns {
			if h.Insns[i].Op == prog.Done {
				h.Insns[i] = prog.Insn{Op: prog.Sym}
			}
		}
		h.Insns = append(h.Insns, prog.Insn{}, prog.Insn{})
		// The way to the node is one that can pass to a Done in its place.
		h.Insns[node] = prog.Insn{Op: prog.Split, X: len(h.Insns) - 1, Y: len(h.Insns)}
		h.Insns = append(h.Insns, g.Insns[node], prog.Insn{Op: prog.Jump, X: node + 1})
		paths, err := prog.Paths(h, l, 0, -1, 1000000)
		if err != api.OK {
			return -1
		}
		sum += len(paths)
	}
	return sum
}

func TestAtRandom(t *testing.T) {
	r := sample.New(1)
	kinds := map[int]int{}
	for range 1500 {
		p := r.Pattern(sample.Shape{Caps: true}, 2+r.Int(5))
		g, err := Of(p)
		if err != api.OK {
			continue
		}
		kinds[g.Kind]++
		w, err := Find(p)
		if err != api.OK || Check(p, g, w) != api.OK {
			t.Fatalf("%v: %v %v", p, g, w)
		}
		for n := range 5 {
			l, err := Text(w, n)
			if err != api.OK || len(l) > 40 {
				continue
			}
			least := map[int]int{Linear: n, Exponential: 1 << n}[g.Kind]
			if g.Kind == Polynomial {
				least = 1
				for range g.Degree {
					least *= n
				}
			}
			k, err := Lower(p, w, n)
			steps, err2 := sem.Steps(p, l, 0, 2000000)
			if err != api.OK || k < least || err2 == api.OK && steps < k {
				t.Fatalf("%v with %v for %d: %d, %d steps", p, w, n, k, steps)
			}
			if want := lower(t, p, l); want >= 0 && k != want {
				t.Fatalf("%v with %v for %d: %d, want %d", p, w, n, k, want)
			}
		}
		checkGreater(t, p, g, w)
	}
	if kinds[Linear] < 100 || kinds[Polynomial] < 20 || kinds[Exponential] < 40 || kinds[Constant] < 100 {
		t.Error("too few of a kind", kinds)
	}
}

// checkGreater: what shows the growth shows no greater one.
func checkGreater(t *testing.T, p api.Pattern, g Growth, w Witness) {
	if g.Kind == Constant {
		l := slices.Repeat([]int{'a', 'b', 'c'}, 30)
		long, err := sem.Steps(p, l, 0, 1000000)
		short, err2 := sem.Steps(p, l[:64], 0, 1000000)
		if err+err2 == api.OK && long != short {
			t.Fatal("the steps of a constant pattern grow", p)
		}
		return
	}
	if g.Kind != Exponential && Check(p, Growth{Kind: Exponential}, Witness{w.Pumps[:1]}) != api.ErrProof {
		t.Fatal("a greater growth is shown", p)
	}
	more := Witness{append(slices.Clone(w.Pumps), w.Pumps[len(w.Pumps)-1])}
	if g.Kind != Exponential && Check(p, Growth{Polynomial, len(more.Pumps)}, more) != api.ErrProof {
		t.Fatal("a greater degree is shown", p)
	}
}

func TestCheck(t *testing.T) {
	a, b := []int{'a'}, []int{'b'}
	pump := func(before, word []int) Pump { return Pump{before, word} }
	for i, c := range []struct {
		s     string
		g     Growth
		pumps []Pump
		want  api.Errno
	}{
		{"a*", Growth{Constant, 0}, nil, api.OK}, {"a*", Growth{Constant, 0}, []Pump{pump(nil, a)}, api.ErrProof}, {"a*", Growth{Constant, 1}, nil, api.ErrArg}, {"a*", Growth{Linear, 0}, nil, api.ErrArg}, {"a*", Growth{Polynomial, 1}, nil, api.ErrArg}, {"a*", Growth{Polynomial, 65}, nil, api.ErrArg}, {"a*", Growth{Polynomial, 64}, nil, api.ErrProof}, {"a*", Growth{Exponential, 1}, nil, api.ErrArg}, {"a*", Growth{4, 0}, nil, api.ErrArg}, {"a*", Growth{-1, 0}, nil, api.ErrArg},
		{"a*", Growth{Linear, 1}, []Pump{pump(nil, a)}, api.OK}, {"a*", Growth{Linear, 1}, []Pump{pump(nil, nil)}, api.ErrProof}, {"a*", Growth{Linear, 1}, []Pump{pump(nil, b)}, api.ErrProof}, {"a*", Growth{Linear, 1}, []Pump{pump(b, a)}, api.ErrProof}, {"a*", Growth{Linear, 1}, nil, api.ErrProof}, {"a*", Growth{Linear, 1}, []Pump{pump([]int{'a', 'a'}, []int{'a', 'a', 'a'})}, api.OK}, {"ba*", Growth{Linear, 1}, []Pump{pump(nil, a)}, api.ErrProof}, {"ba*", Growth{Linear, 1}, []Pump{pump(b, a)}, api.OK}, {"a*", Growth{Linear, 1}, []Pump{pump(nil, []int{-1})}, api.ErrProof}, {"a*", Growth{Linear, 1}, []Pump{pump(nil, []int{1 << 40})}, api.ErrProof},
		{"(?:a|a)*", Growth{Exponential, 0}, []Pump{pump(nil, []int{'a', 'a'})}, api.OK}, {"(?:a|a)*", Growth{Exponential, 0}, []Pump{pump(nil, a)}, api.ErrProof}, {"(?:a|a)*", Growth{Linear, 1}, []Pump{pump(nil, a)}, api.OK}, {"a*a*", Growth{Exponential, 0}, []Pump{pump(nil, []int{'a', 'a'})}, api.ErrProof},
		{"a*a*", Growth{Polynomial, 2}, []Pump{pump(nil, a), pump(b, a)}, api.ErrProof}, {"a*a*b*", Growth{Polynomial, 2}, []Pump{pump(nil, a), pump(a, b)}, api.OK}, {"a*a*b*", Growth{Polynomial, 2}, []Pump{pump(nil, a), pump(b, b)}, api.ErrProof}, {"a*a*b*", Growth{Polynomial, 2}, []Pump{pump(nil, a), pump(nil, b)}, api.ErrProof}, {"a*b*", Growth{Polynomial, 2}, []Pump{pump(nil, a), pump(b, b)}, api.ErrProof}, {"a*a*ba*a*", Growth{Polynomial, 3}, []Pump{pump(nil, a), pump([]int{'a', 'b', 'a'}, a), pump(nil, a)}, api.OK}, {"a*a*ba*a*", Growth{Polynomial, 4}, []Pump{pump(nil, a), pump([]int{'a', 'b', 'a'}, a), pump(nil, a), pump(nil, a)}, api.ErrProof}, {"a*a*a*", Growth{Polynomial, 2}, []Pump{pump(nil, a), pump(nil, a)}, api.OK}, {"a*a*", Growth{Polynomial, 2}, []Pump{pump(nil, a)}, api.ErrProof},
	} {
		if got := Check(parse(t, c.s), c.g, Witness{c.pumps}); got != c.want {
			t.Errorf("case %d, %s: %d", i, c.s, got)
		}
	}
}

func TestErrors(t *testing.T) {
	a := []int{'a'}
	bad := Witness{[]Pump{{[]int{-1}, a}}}
	for i, c := range []struct {
		w    Witness
		n    int
		want api.Errno
	}{
		{bad, -1, api.ErrRange}, {bad, api.MaxText + 1, api.ErrRange}, {bad, api.MaxText, api.ErrArg}, {Witness{[]Pump{{a, []int{api.MaxSymbol + 1}}}}, 0, api.ErrArg}, {Witness{[]Pump{{a, a}}}, api.MaxText, api.ErrLimit}, {Witness{[]Pump{{nil, a}}}, api.MaxText, api.OK}, {Witness{}, 5, api.OK}, {Witness{[]Pump{{make([]int, api.MaxText+1), nil}, {[]int{-1}, nil}}}, 0, api.ErrArg},
	} {
		l, err := Text(c.w, c.n)
		if err != c.want || err != api.OK && l != nil {
			t.Errorf("Text %d: %d", i, err)
		}
		if _, err := Lower(parse(t, "a*"), c.w, c.n); err != c.want && err != api.ErrLimit {
			t.Errorf("Lower %d: %d", i, err)
		}
	}
	twice := Witness{[]Pump{{nil, []int{'a', 'a'}}}}
	if n, err := Lower(parse(t, "(?:a|a)*b"), twice, 25); err != api.ErrLimit || n != 0 {
		t.Error("Lower with too many ways", n, err)
	}
	for _, c := range []struct {
		s    string
		want api.Errno
	}{{"(?=a)", api.ErrKind}, {"^a", api.ErrKind}, {strings.Repeat("a", 64), api.ErrLimit}, {"(?:a*)*", api.ErrKind}, {"(?:(?:a{32}){32}){32}", api.ErrLimit}} {
		p := parse(t, c.s)
		_, err1 := Of(p)
		w, err2 := Find(p)
		_, err3 := Lower(p, bad, -1)
		err4 := Check(p, Growth{9, 9}, bad)
		if err1 != c.want || err2 != c.want || err3 != c.want || err4 != c.want || w.Pumps != nil {
			t.Errorf("%s: %d %d %d %d", c.s, err1, err2, err3, err4)
		}
	}
	if _, err := Of(api.Pattern{Caps: 10}); err != api.ErrArg {
		t.Error("the error of Valid comes first")
	}
}

func TestBeginnings(t *testing.T) {
	r := sample.New(3)
	greater := func(a, b Growth) bool { return a.Kind > b.Kind || a.Kind == b.Kind && a.Degree > b.Degree }
	for range 600 {
		p, q := r.Pattern(sample.Shape{}, 4), r.Pattern(sample.Shape{}, 4)
		both := api.Pattern{Re: api.Re{Op: api.OpCat, Kids: []api.Re{p.Re, q.Re}}}
		a, err := Of(p)
		b, err2 := Of(both)
		if err+err2 == api.OK && greater(a, b) {
			t.Fatalf("%v begins %v", p, both)
		}
	}
}
