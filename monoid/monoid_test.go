package monoid

import (
	"slices"
	"testing"

	"rexmill/api"
	"rexmill/pike"
	"rexmill/prog"
	"rexmill/sample"
	"rexmill/syntax"
	"rexmill/text"
)

func compile(t *testing.T, s string, runes bool) prog.Prog {
	p, _, err := syntax.Parse(s, syntax.Flags{Runes: runes})
	g, err2 := prog.Compile(p)
	if err+err2 != api.OK {
		t.Fatal(s, err, err2)
	}
	return g
}

func machine(t *testing.T, s string) *Machine {
	m, err := New(compile(t, s, false))
	if err != api.OK {
		t.Fatal(s, err)
	}
	return m
}

func symbols(s string) []int {
	l, _ := text.Decode([]byte(s), false)
	return l
}

func of(t *testing.T, m *Machine, l []int) *Summary {
	s, err := m.Of(l)
	if err != api.OK {
		t.Fatal(err)
	}
	return s
}

func TestExamples(t *testing.T) {
	m := machine(t, "ab*c")
	ab, c := of(t, m, symbols("ab")), of(t, m, symbols("c"))
	if l, err := m.Found(ab); len(l) != 0 || err != api.OK {
		t.Error(l)
	}
	both, err := m.Join(ab, c)
	l, _ := m.Found(both)
	sure, _ := m.Sure(both)
	if err != api.OK || !slices.Equal(l, [][2]int{{0, 3}}) || !slices.Equal(sure, l) {
		t.Error(l, sure)
	}
	m = machine(t, "ab*")
	ab = of(t, m, symbols("ab"))
	l, _ = m.Found(ab)
	sure, _ = m.Sure(ab)
	if !slices.Equal(l, [][2]int{{0, 2}}) || len(sure) != 0 {
		t.Error(l, sure)
	}
}

// every returns start and end of what pike finds.
func every(g prog.Prog, l []int) [][2]int {
	found, _ := pike.Every(g, l)
	var out [][2]int
	for _, m := range found {
		out = append(out, [2]int{m.Start, m.End})
	}
	return out
}

// pieces joins the summaries of the pieces of a text, put together at random.
func pieces(t *testing.T, r *sample.Rand, m *Machine, l []int) *Summary {
	switch {
	case len(l) == 0:
		return m.Empty()
	case len(l) == 1:
		s, err := m.Symbol(l[0])
		if err != api.OK {
			t.Fatal(err)
		}
		return s
	case r.Int(4) == 0:
		return of(t, m, l)
	}
	k := r.Int(len(l) + 1)
	if k == 0 || k == len(l) {
		k = 1
	}
	s, err := m.Join(pieces(t, r, m, l[:k]), pieces(t, r, m, l[k:]))
	if err != api.OK {
		t.Fatal(err)
	}
	return s
}

func TestPieces(t *testing.T) {
	r := sample.New(1)
	for range 1200 {
		p := r.Pattern(sample.Shape{Caps: true}, 2+r.Int(4))
		g, _ := prog.Compile(p)
		m, err := New(g)
		if err != api.OK {
			t.Fatal(err)
		}
		l := r.Text("abcd", 9+40*(r.Int(5)/4))
		s := pieces(t, r, m, l)
		whole := of(t, m, l)
		if !Equal(s, whole) || s.Len() != len(l) {
			t.Fatalf("%v on %v: another summary", p, l)
		}
		found, err := m.Found(s)
		if err != api.OK || !slices.Equal(found, every(g, l)) {
			t.Fatalf("%v on %v: %v", p, l, found)
		}
		x, _ := m.Join(m.Empty(), s)
		y, _ := m.Join(s, m.Empty())
		if !Equal(x, s) || !Equal(y, s) {
			t.Fatal("Empty is not neutral")
		}
		if len(l) < 8 {
			checkSure(t, m, g, l)
		}
	}
}

// words returns all texts over abcd with up to n symbols.
func words(n int) [][]int {
	out := [][]int{nil}
	for from := 0; len(out[from]) < n; from++ {
		for c := 'a'; c <= 'd'; c++ {
			out = append(out, append(slices.Clone(out[from]), int(c)))
		}
	}
	return out
}

// checkSure: exactly those matches are sure that stay with all texts that go on, as far as these are tried.
func checkSure(t *testing.T, m *Machine, g prog.Prog, l []int) {
	sure, err := m.Sure(of(t, m, l))
	if err != api.OK {
		t.Fatal(err)
	}
	changes := map[[2]int]bool{}
	found := every(g, l)
	for _, w := range words(4) {
		longer := every(g, append(slices.Clone(l), w...))
		for _, f := range found {
			if !slices.Contains(longer, f) {
				changes[f] = true
			}
		}
	}
	for _, f := range found {
		is := slices.Contains(sure, f)
		if is && changes[f] {
			t.Fatalf("%v is sure on %v, but changes", f, l)
		}
		if !is && !changes[f] && len(m.next) < 4 {
			t.Fatalf("%v is not sure on %v, but does not change", f, l)
		}
	}
	for _, f := range sure {
		if !slices.Contains(found, f) {
			t.Fatal("what is sure is not found")
		}
	}
}

func TestLong(t *testing.T) {
	m := machine(t, "a*b|c")
	l := slices.Repeat([]int{'a', 'a', 'b', 'd'}, 2000)
	s := of(t, m, l)
	if found, _ := m.Found(s); len(found) != 6000 || s.Len() != 8000 {
		t.Error(len(found))
	}
	full, err := m.Of(make([]int, api.MaxText))
	if err != api.OK {
		t.Fatal(err)
	}
	one, _ := m.Symbol('a')
	if x, err := m.Join(full, one); err != api.ErrLimit || x != nil {
		t.Error("a piece that is too long")
	}
	if _, err := m.Join(full, m.Empty()); err != api.OK {
		t.Error("a piece that is as long as allowed")
	}
}

func TestErrors(t *testing.T) {
	comb := prog.Insn{Op: prog.Sym}
	for i := range 64 {
		comb.Set = append(comb.Set, api.Span{Lo: 2*i + 1, Hi: 2*i + 1})
	}
	for i, c := range []struct {
		g    prog.Prog
		want api.Errno
	}{
		{prog.Prog{}, api.ErrArg}, {prog.Prog{Insns: []prog.Insn{comb, {Op: prog.Assert}, {}}}, api.ErrKind}, {prog.Prog{Insns: []prog.Insn{comb, {}}}, api.ErrLimit}, {compile(t, "(?:a|b)*a(?:a|b){10}", false), api.ErrLimit}, {compile(t, "(?:a{32}){31}a{30}", false), api.OK}, {compile(t, "(?:a{32}){31}a{31}", false), api.OK}, {compile(t, "(?:a{32}){32}", false), api.ErrLimit}, {prog.Prog{Insns: []prog.Insn{{Op: prog.Jump}}}, api.OK},
	} {
		m, err := New(c.g)
		if err != c.want || (m == nil) != (err != api.OK) {
			t.Errorf("case %d: %d", i, err)
		}
	}
	m, other := machine(t, "a"), machine(t, "a")
	s, foreign := of(t, m, symbols("a")), of(t, other, symbols("a"))
	for i, pair := range [][2]*Summary{{nil, s}, {s, nil}, {s, foreign}, {foreign, s}, {nil, nil}} {
		if x, err := m.Join(pair[0], pair[1]); err != api.ErrArg || x != nil {
			t.Error("Join", i)
		}
		if Equal(pair[0], pair[1]) {
			t.Error("Equal", i)
		}
	}
	for _, x := range []*Summary{nil, foreign} {
		_, err := m.Found(x)
		_, err2 := m.Sure(x)
		if err != api.ErrArg || err2 != api.ErrArg {
			t.Error(err, err2)
		}
	}
	if x, err := m.Of([]int{256}); err != api.ErrRange || x != nil {
		t.Error("Of")
	}
	if _, err := m.Of(make([]int, api.MaxText+1)); err != api.ErrLimit {
		t.Error("Of a text that is too long")
	}
	for _, c := range []int{-1, 256} {
		if x, err := m.Symbol(c); err != api.ErrRange || x != nil {
			t.Error("Symbol", c)
		}
	}
	wide, _ := New(compile(t, "ä", true))
	if _, err := wide.Symbol(55296); err != api.ErrRange {
		t.Error("a symbol that is no code point")
	}
	if x, err := wide.Symbol(228); err != api.OK || x.Len() != 1 {
		t.Error("a code point")
	}
}

func TestSymbolsThatAreNone(t *testing.T) {
	m, err := New(compile(t, `a(?:[\u{d800}-\u{dfff}]|)`, true))
	s := of(t, m, symbols("a"))
	if sure, _ := m.Sure(s); err != api.OK || !slices.Equal(sure, [][2]int{{0, 1}}) || len(m.next) != 2 {
		t.Error("a symbol that is no code point keeps a match open", sure, len(m.next))
	}
	dead, _ := New(prog.Prog{Insns: []prog.Insn{{Op: prog.Jump}}})
	s = of(t, dead, symbols("ab"))
	if l, err := dead.Found(s); len(l) != 0 || err != api.OK || !Equal(s, of(t, dead, symbols("xy"))) {
		t.Error("a machine without states")
	}
}

func TestReplaced(t *testing.T) {
	r := sample.New(3)
	replaced := 0
	for range 4000 {
		p := r.Pattern(sample.Shape{}, 2+r.Int(3))
		g, _ := prog.Compile(p)
		m, err := New(g)
		if err != api.OK {
			t.Fatal(err)
		}
		a := r.Text("abcd", 3)
		b := r.Text("abcd", 3)
		if slices.Equal(a, b) || !Equal(of(t, m, a), of(t, m, b)) {
			continue
		}
		replaced++
		before, after := r.Text("abcd", 3), r.Text("abcd", 3)
		outside := func(l []int) [][2]int {
			found := every(g, slices.Concat(before, l, after))
			return slices.DeleteFunc(found, func(f [2]int) bool {
				inside := func(at int) bool { return at > len(before) && at < len(before)+len(l) }
				return inside(f[0]) || inside(f[1])
			})
		}
		if x, y := outside(a), outside(b); !slices.Equal(x, y) {
			t.Fatalf("%v: %v in place of %v: %v, %v", p, a, b, x, y)
		}
	}
	if replaced < 50 {
		t.Error("too few equal summaries", replaced)
	}
}
