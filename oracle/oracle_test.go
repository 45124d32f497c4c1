package oracle

import (
	"slices"
	"testing"

	"rexmill/api"
	"rexmill/ast"
	"rexmill/back"
	"rexmill/sample"
	"rexmill/sem"
	"rexmill/syntax"
	"rexmill/text"
)

func parse(t *testing.T, s string) api.Pattern {
	p, _, err := syntax.Parse(s, syntax.Flags{})
	if err != api.OK {
		t.Fatal(s, err)
	}
	return p
}

func symbols(s string) []int {
	l, _ := text.Decode([]byte(s), false)
	return l
}

func TestExamples(t *testing.T) {
	p := parse(t, "a(?=b)")
	l, err := Bits(p, symbols("abaa"))
	if err != api.OK || len(l) != 1 || !slices.Equal(l[0], []bool{false, true, false, false, false}) {
		t.Error(l, err)
	}
	if m, found, _ := Run(p, symbols("abaa"), 0); !found || m.End != 1 {
		t.Error(m)
	}
	p = parse(t, "(?<!a)b")
	l, _ = Bits(p, symbols("ab"))
	if !slices.Equal(l[0], []bool{true, false, true}) {
		t.Error(l)
	}
	if found, err := Every(p, symbols("ab")); len(found) != 0 || err != api.OK {
		t.Error(found)
	}
}

func TestAgreement(t *testing.T) {
	r := sample.New(1)
	accepted := 0
	for range 8000 {
		p := r.Pattern(sample.Shape{Looks: true, Asserts: true, Caps: true}, 3+r.Int(4))
		if Accepts(p) != api.OK {
			continue
		}
		l := r.Text("abcd\n", 7)
		want, err := sem.Every(p, l, 200000)
		if err != api.OK {
			continue
		}
		accepted++
		got, err := Every(p, l)
		if err != api.OK || !slices.EqualFunc(got, want, sem.Equal) {
			t.Fatalf("%v on %v: %v, want %v", p, l, got, want)
		}
		at := r.Int(len(l) + 1)
		m, found, err := Run(p, l, at)
		b, _ := back.New(p)
		m2, found2, _, err2 := b.Run(l, at, api.MaxFuel)
		if err+err2 != api.OK || found != found2 || !sem.Equal(m, m2) {
			t.Fatalf("%v on %v at %d: %v", p, l, at, m)
		}
		checkBits(t, p, l)
	}
	if accepted < 3000 {
		t.Error("too few patterns", accepted)
	}
}

func checkBits(t *testing.T, p api.Pattern, l []int) {
	bits, err := Bits(p, l)
	if err != api.OK {
		t.Fatal(err)
	}
	n := 0
	for _, path := range ast.Paths(p.Re) {
		re, _ := ast.At(p.Re, path)
		if re.Op != api.OpAhead && re.Op != api.OpBehind {
			continue
		}
		alone := api.Pattern{Re: re, Caps: p.Caps}
		for at := range len(l) + 1 {
			found, _, _ := sem.All(alone, l, at, 1, api.MaxFuel)
			if bits[n][at] != (len(found) > 0) {
				t.Fatalf("%v on %v: part %d at %d", p, l, n, at)
			}
		}
		flipped := alone
		flipped.Re.Neg = !re.Neg
		other, _ := Bits(flipped, l)
		for at := range len(l) + 1 {
			if other[0][at] == bits[n][at] {
				t.Fatal("Neg does not turn the bits")
			}
		}
		n++
	}
	if n != len(bits) {
		t.Fatal("the number of look-around parts")
	}
}

func TestFar(t *testing.T) {
	r := sample.New(2)
	for range 500 {
		kid := r.Pattern(sample.Shape{}, 4).Re
		a, b := r.Text("abc", 5), r.Text("abc", 5)
		tail := r.Text("abc", 5)
		ahead := api.Pattern{Re: api.Re{Op: api.OpAhead, Kids: []api.Re{kid}}}
		x, _ := Bits(ahead, append(slices.Clone(a), tail...))
		y, _ := Bits(ahead, append(slices.Clone(b), tail...))
		if !slices.Equal(x[0][len(a):], y[0][len(b):]) {
			t.Fatal("look-ahead depends on what is before")
		}
		behind := api.Pattern{Re: api.Re{Op: api.OpBehind, Kids: []api.Re{kid}}}
		x, _ = Bits(behind, append(slices.Clone(tail), a...))
		y, _ = Bits(behind, append(slices.Clone(tail), b...))
		if !slices.Equal(x[0][:len(tail)+1], y[0][:len(tail)+1]) {
			t.Fatal("look-behind depends on what is after")
		}
	}
}

func TestAccepts(t *testing.T) {
	for _, c := range []struct {
		s    string
		want api.Errno
	}{
		{`(a)\1`, api.ErrKind}, {"(a)(?(1)a|b)", api.ErrKind}, {"(?>a)", api.ErrKind}, {"a*+", api.ErrKind}, {"(?:a*)*", api.ErrKind}, {"(?:(?=a))*", api.ErrKind}, {"(?=(a))", api.ErrKind}, {"(?<!(?=(a)))", api.ErrKind}, {"(?<1>(?<1>a))", api.ErrKind}, {"(?<1>a)(?<1>b)", api.OK}, {"(?=(?>a))", api.ErrKind}, {"(?=a*+)", api.ErrKind},
		{"(?:(?=a)b)*", api.OK}, {"(?<=a*(?!b))", api.OK}, {"(a(?=b))", api.OK}, {"", api.OK},
		{"(?:(?:a{32}){32}){7}(?:a{32}){31}a{31}", api.OK}, {"(?:(?:a{32}){32}){7}(?:a{32}){31}a{32}", api.ErrLimit}, {"(?=(?:(?:a{32}){32}){8})", api.ErrLimit}, {"(?=(?:(?:a{32}){32}){7}(?:a{32}){31}a{31})", api.OK}, {"(?=(?:(?:a{32}){32}){7}(?:a{32}){31}a{32})", api.ErrLimit}, {"(?:(?:a{32}){32}){8}(?>a)", api.ErrKind}, {"(?:(?=(?:(?:a{32}){32}){7})a){32}", api.OK},
	} {
		p := parse(t, c.s)
		if got := Accepts(p); got != c.want {
			t.Errorf("%s: %d", c.s, got)
		}
		if c.want == api.OK {
			continue
		}
		long := make([]int, api.MaxText+1)
		_, err := Bits(p, long)
		_, _, err2 := Run(p, long, -1)
		_, err3 := Every(p, long)
		if err != c.want || err2 != c.want || err3 != c.want {
			t.Errorf("%s: %d %d %d", c.s, err, err2, err3)
		}
	}
	if Accepts(api.Pattern{Caps: 10, Re: api.Re{Op: api.OpAtom}}) != api.ErrArg {
		t.Error("the error of Valid comes first")
	}
}

func TestErrors(t *testing.T) {
	p := parse(t, "(?=a)")
	wide := p
	wide.Runes = true
	for i, c := range []struct {
		p    api.Pattern
		l    []int
		at   int
		want api.Errno
	}{
		{p, append(make([]int, api.MaxText), 300), -1, api.ErrLimit}, {p, []int{256}, -1, api.ErrArg}, {p, []int{-1}, 0, api.ErrArg}, {wide, []int{256}, 0, api.OK}, {wide, []int{api.MaxSymbol + 1}, 0, api.ErrArg}, {p, nil, 1, api.ErrRange}, {p, nil, -1, api.ErrRange},
	} {
		m, found, err := Run(c.p, c.l, c.at)
		if err != c.want || found || !sem.Equal(m, api.Match{}) {
			t.Errorf("case %d: %d", i, err)
		}
		l, err := Every(c.p, c.l)
		b, err2 := Bits(c.p, c.l)
		if c.want != api.ErrRange && (err != c.want || err2 != c.want || err != api.OK && (l != nil || b != nil)) {
			t.Errorf("case %d: %d %d", i, err, err2)
		}
	}
}

func TestKept(t *testing.T) {
	p, q := parse(t, "a(?=|b)b*(?<!c)"), parse(t, "a(?:)b*(?:)")
	for _, s := range []string{"", "ab", "aab", "bba", "abbb"} {
		x, _ := Every(p, symbols(s))
		y, _ := Every(q, symbols(s))
		if !slices.EqualFunc(x, y, sem.Equal) {
			t.Errorf("%q: %v, %v", s, x, y)
		}
	}
}
