package prog

import (
	"bytes"
	"reflect"
	"slices"
	"testing"

	"rexmill/api"
	"rexmill/ast"
	"rexmill/sample"
	"rexmill/sem"
	"rexmill/sets"
	"rexmill/syntax"
)

func parse(t *testing.T, s string) api.Pattern {
	p, _, err := syntax.Parse(s, syntax.Flags{})
	if err != api.OK {
		t.Fatal(s, err)
	}
	return p
}

func one(c int) []api.Span { return []api.Span{{Lo: c, Hi: c}} }

func sym(c int) Insn { return Insn{Op: Sym, Set: one(c)} }

func split(x, y int) Insn { return Insn{Op: Split, X: x, Y: y} }

func jump(x int) Insn { return Insn{Op: Jump, X: x} }

func save(n int) Insn { return Insn{Op: Save, N: n} }

func TestCode(t *testing.T) {
	done := Insn{}
	for _, c := range []struct {
		s    string
		want []Insn
	}{
		{"(?:a|b)+", []Insn{split(1, 3), sym('a'), jump(4), sym('b'), split(5, 10), split(6, 8), sym('a'), jump(9), sym('b'), jump(4), done}},
		{"", []Insn{done}}, {"a|b|c", []Insn{split(1, 3), sym(97), jump(7), split(4, 6), sym(98), jump(7), sym(99), done}},
		{"a*?", []Insn{split(3, 1), sym('a'), jump(0), done}}, {"a{1,3}", []Insn{sym('a'), split(2, 5), sym('a'), split(4, 5), sym('a'), done}}, {"a{0,2}?", []Insn{split(4, 1), sym('a'), split(4, 3), sym('a'), done}},
		{"a{2}", []Insn{sym('a'), sym('a'), done}}, {"a{2,}", []Insn{sym('a'), sym('a'), split(3, 5), sym('a'), jump(2), done}}, {"(a)\\b", []Insn{save(0), sym('a'), save(1), {Op: Assert, N: 4}, done}},
	} {
		g, err := Compile(parse(t, c.s))
		if err != api.OK || !reflect.DeepEqual(g.Insns, c.want) {
			t.Errorf("%s: %v, %d", c.s, g.Insns, err)
		}
	}
}

func TestCompileErrors(t *testing.T) {
	for _, c := range []struct {
		s    string
		want api.Errno
	}{
		{`(a)\1`, api.ErrKind}, {"(a)(?(1)a|b)", api.ErrKind}, {"(?=a)", api.ErrKind}, {"(?<!a)", api.ErrKind}, {"(?>a)", api.ErrKind}, {"a*+", api.ErrKind}, {"(?:a*)*", api.ErrKind}, {"(?:a|){2}", api.ErrKind}, {"(?<1>a(?<2>b(?<1>c)))", api.ErrKind}, {"(?<1>a)(?<1>b)", api.OK}, {"(?<1>(?<2>b))(?<2>a)", api.OK},
		{"(?:(?:a{32}){32}){8}", api.ErrLimit}, {"(?:(?:a{32}){32}){7}", api.OK}, {"(?:(?:a{32}){32}){8}(?=a)", api.ErrKind}, {"(?:(?:(?:(?:(?:a{32}){32}){32}){32}){32}){32}", api.ErrLimit},
	} {
		g, err := Compile(parse(t, c.s))
		if err != c.want || err != api.OK && !reflect.DeepEqual(g, Prog{}) {
			t.Errorf("%s: %d", c.s, err)
		}
	}
	if _, err := Compile(api.Pattern{Caps: 10, Re: api.Re{Op: api.OpRef, N: 1}}); err != api.ErrArg {
		t.Error("the error of Valid comes first")
	}
	seven := parse(t, "(?:(?:a{32}){32}){7}(?:a{32}){31}a{31}")
	if g, err := Compile(seven); err != api.OK || len(g.Insns) != api.MaxProg {
		t.Error("a program that just fits", len(g.Insns), err)
	}
	if _, err := Compile(parse(t, "(?:(?:a{32}){32}){7}(?:a{32}){31}a{32}")); err != api.ErrLimit {
		t.Error("a program with one instruction too many")
	}
}

func TestPathsAreMatches(t *testing.T) {
	r := sample.New(1)
	for i := range 4000 {
		p := r.Pattern(sample.Shape{Asserts: true, Caps: true}, 3+r.Int(4))
		p.Runes = r.Int(2) == 0
		g, err := Compile(p)
		if err != api.OK || Valid(g) != api.OK || g.Caps != p.Caps || g.Runes != p.Runes || length(p.Re)+1 != len(g.Insns) {
			t.Fatal(p, err)
		}
		l := r.Text("abcd\n", 7)
		at := r.Int(len(l) + 1)
		want, _, err := sem.All(p, l, at, 1000, 100000)
		if err != api.OK || len(want) == 1000 {
			continue
		}
		got, err := Paths(g, l, at, -1, api.MaxFuel)
		if err != api.OK || !slices.EqualFunc(got, want, sem.Equal) {
			t.Fatalf("%d: %v on %v: %v", i, p, l, got)
		}
		most := r.Int(4)
		fuel := 0
		for {
			some, err := Paths(g, l, at, most, fuel)
			if err == api.OK {
				if !slices.EqualFunc(some, want[:min(most, len(want))], sem.Equal) {
					t.Fatal("the first paths")
				}
				break
			}
			if err != api.ErrFuel || some != nil {
				t.Fatal(err)
			}
			fuel++
		}
		if most == 0 && fuel != 0 {
			t.Fatal("no paths need fuel")
		}
		checkExpanded(t, p, g, l)
		checkCode(t, g)
	}
}

func checkExpanded(t *testing.T, p api.Pattern, g Prog, l []int) {
	re, err := ast.Expand(p.Re)
	p.Re = re
	h, err2 := Compile(p)
	if err != api.OK || err2 != api.OK {
		return
	}
	a, err := Paths(g, l, 0, -1, 1000000)
	b, err2 := Paths(h, l, 0, -1, 1000000)
	if err+err2 == api.OK && !slices.EqualFunc(a, b, sem.Equal) {
		t.Fatalf("%v unrolled", p)
	}
}

func checkCode(t *testing.T, g Prog) {
	b := Encode(g)
	got, err := Decode(b)
	if err != api.OK || !bytes.Equal(Encode(got), b) || len(got.Insns) != len(g.Insns) || got.Caps != g.Caps || got.Runes != g.Runes {
		t.Fatalf("%v is read as %v", g, got)
	}
	if _, err := Decode(append(b, 0)); err != api.ErrForm {
		t.Fatal("a byte too many")
	}
	if x, err := Decode(b[:len(b)-1]); err != api.ErrForm || x.Insns != nil {
		t.Fatal("a byte too few")
	}
}

func TestValid(t *testing.T) {
	comb := make([]api.Span, 65)
	for i := range comb {
		comb[i] = api.Span{Lo: 2 * i, Hi: 2 * i}
	}
	for i, c := range []struct {
		g    Prog
		want api.Errno
	}{
		{Prog{}, api.ErrArg}, {Prog{Insns: []Insn{{}}}, api.OK}, {Prog{Insns: []Insn{{}}, Caps: 10}, api.ErrArg}, {Prog{Insns: []Insn{{}}, Caps: -1}, api.ErrArg}, {Prog{Insns: make([]Insn, api.MaxProg+1), Caps: -1}, api.ErrLimit}, {Prog{Insns: make([]Insn, api.MaxProg)}, api.OK},
		{Prog{Insns: []Insn{sym(1)}}, api.ErrArg}, {Prog{Insns: []Insn{sym(1), {}}}, api.OK}, {Prog{Insns: []Insn{sym(256), {}}}, api.ErrArg}, {Prog{Insns: []Insn{sym(256), {}}, Runes: true}, api.OK}, {Prog{Insns: []Insn{{Op: Sym}, {}}}, api.OK}, {Prog{Insns: []Insn{{Op: Sym, Set: comb}, {}}}, api.ErrArg}, {Prog{Insns: []Insn{{Op: Sym, X: 1}, {}}}, api.ErrArg},
		{Prog{Insns: []Insn{split(0, 0)}}, api.OK}, {Prog{Insns: []Insn{split(0, 1)}}, api.ErrArg}, {Prog{Insns: []Insn{split(-1, 0)}}, api.ErrArg}, {Prog{Insns: []Insn{jump(0)}}, api.OK}, {Prog{Insns: []Insn{jump(1)}}, api.ErrArg}, {Prog{Insns: []Insn{{Op: Jump, Y: 1}, {}}}, api.ErrArg}, {Prog{Insns: []Insn{{Op: Jump, Set: one(1)}}}, api.ErrArg},
		{Prog{Insns: []Insn{save(0), {}}}, api.ErrArg}, {Prog{Insns: []Insn{save(3), {}}, Caps: 2}, api.OK}, {Prog{Insns: []Insn{save(4), {}}, Caps: 2}, api.ErrArg}, {Prog{Insns: []Insn{save(-1), {}}, Caps: 2}, api.ErrArg}, {Prog{Insns: []Insn{{Op: Save, X: 1}, {}}, Caps: 1}, api.ErrArg}, {Prog{Insns: []Insn{{}, save(0)}, Caps: 1}, api.ErrArg},
		{Prog{Insns: []Insn{{Op: Assert, N: 5}, {}}}, api.OK}, {Prog{Insns: []Insn{{Op: Assert, N: 6}, {}}}, api.ErrArg}, {Prog{Insns: []Insn{{Op: Assert, N: -1}, {}}}, api.ErrArg}, {Prog{Insns: []Insn{{Op: 6}, {}}}, api.ErrArg}, {Prog{Insns: []Insn{{Op: -1}, {}}}, api.ErrArg}, {Prog{Insns: []Insn{{N: 1}}, Caps: 1}, api.ErrArg}, {Prog{Insns: []Insn{{Set: one(1)}}}, api.ErrArg}, {Prog{Insns: []Insn{{Op: Assert}}}, api.ErrArg},
	} {
		if got := Valid(c.g); got != c.want {
			t.Errorf("case %d: %d", i, got)
		}
		_, err := Paths(c.g, nil, 0, 0, 0)
		if err != c.want {
			t.Errorf("case %d: Paths returns %d", i, err)
		}
		if i == 19 || i == 32 { // sets of instructions that have none are not encoded
			continue
		}
		if g, err := Decode(Encode(c.g)); (err == api.OK) != (c.want == api.OK) || err != api.OK && (err != api.ErrForm || g.Insns != nil) {
			t.Errorf("case %d: Decode returns %d", i, err)
		}
	}
}

func TestPathsErrors(t *testing.T) {
	g := Prog{Insns: []Insn{split(1, 2), jump(0), {}}}
	for i, c := range []struct {
		l              []int
		at, most, fuel int
		want           api.Errno
	}{
		{make([]int, api.MaxText+1), -1, -2, -1, api.ErrLimit}, {nil, 1, 1, -1, api.ErrRange}, {nil, -1, 1, 9, api.ErrRange}, {nil, 0, -2, -1, api.ErrRange}, {nil, 0, 0, -1, api.ErrArg}, {nil, 0, 0, api.MaxFuel + 1, api.ErrArg}, {nil, 0, 1, 1000, api.ErrFuel}, {nil, 0, 0, 0, api.OK},
	} {
		if l, err := Paths(g, c.l, c.at, c.most, c.fuel); err != c.want || l != nil {
			t.Errorf("case %d: %d", i, err)
		}
	}
	half := Prog{Insns: []Insn{save(1), {}}, Caps: 1}
	if l, _ := Paths(half, []int{1}, 1, -1, 2); len(l) != 1 || !sem.Equal(l[0], api.Match{Start: 1, End: 1, Caps: [][2]int{{-1, -1}}}) {
		t.Error("a capture of which one register is not set")
	}
	if _, err := Paths(half, []int{1}, 1, -1, 1); err != api.ErrFuel {
		t.Error("a Done needs fuel")
	}
	two := Prog{Insns: []Insn{split(1, 1), {}}}
	if l, err := Paths(two, nil, 0, 2, 3); len(l) != 2 || err != api.OK {
		t.Error("both ways of a Split")
	}
	for c := range 300 {
		g := Prog{Insns: []Insn{{Op: Sym, Set: []api.Span{{Lo: 10, Hi: 20}, {Lo: 30, Hi: 200}}}, {}}}
		if l, _ := Paths(g, []int{c}, 0, -1, 9); (len(l) == 1) != sets.Has(g.Insns[0].Set, c) {
			t.Error("a program of one Sym at", c)
		}
	}
}

func TestEncodeExample(t *testing.T) {
	g := Prog{Insns: []Insn{sym('a'), {Op: Jump, X: 0}}, Caps: 1, Runes: true}
	want := []byte{2, 1, 4, 2, 0, 0, 0, 5, 2, 194, 1, 194, 1, 6, 0, 0, 0}
	if got := Encode(g); !bytes.Equal(got, want) {
		t.Errorf("got %v", got)
	}
}
