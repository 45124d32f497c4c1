package back

import (
	"slices"
	"testing"

	"rexmill/api"
	"rexmill/ast"
	"rexmill/define"
	"rexmill/sample"
	"rexmill/sem"
	"rexmill/syntax"
	"rexmill/text"
)

func machine(t *testing.T, s string) *Machine {
	p, _, err := syntax.Parse(s, syntax.Flags{})
	if err != api.OK {
		t.Fatal(s, err)
	}
	m, _ := New(p)
	return m
}

func symbols(s string) []int {
	l, _ := text.Decode([]byte(s), false)
	return l
}

func TestExample(t *testing.T) {
	m := machine(t, "a|ab")
	if m.Deepest() != 0 {
		t.Error("Deepest before the first run")
	}
	if _, _, _, err := m.Next(); err != api.ErrState {
		t.Error("Next before Run")
	}
	match, found, steps, err := m.Run(symbols("ab"), 0, 5)
	if !found || match.End != 1 || steps != 2 || err != api.OK {
		t.Error(match, found, steps, err)
	}
	match, found, steps, _ = m.Next()
	if !found || match.End != 2 || steps != 5 {
		t.Error(match, found, steps)
	}
	if match, found, steps, err = m.Next(); found || steps != 5 || err != api.OK || !sem.Equal(match, api.Match{}) {
		t.Error(match, found, steps, err)
	}
	if _, _, _, err = m.Next(); err != api.ErrState || m.Deepest() != 1 {
		t.Error("Next after no match")
	}
}

func TestAll(t *testing.T) {
	r := sample.New(1)
	for i := range 5000 {
		p := r.Pattern(sample.All(), 3+r.Int(4))
		l := r.Text("abcd", 6)
		at := r.Int(len(l) + 1)
		x := define.New(l)
		want := x.All(p, at, 3000)
		if len(want) == 3000 || x.Steps > 100000 {
			continue
		}
		m, err := New(p)
		if err != api.OK {
			t.Fatal(err)
		}
		given := slices.Clone(l)
		match, found, steps, err := m.Run(given, at, x.Steps)
		clear(given)
		for k, w := range want {
			_, n, _ := sem.All(p, l, at, k+1, api.MaxFuel)
			if k > 40 {
				n = steps
			}
			if err != api.OK || !found || !sem.Equal(match, w) || steps != n {
				t.Fatalf("%d: %v on %v at %d: match %d is %v after %d steps, want %v after %d", i, p, l, at, k, match, steps, w, n)
			}
			match, found, steps, err = m.Next()
		}
		if found || err != api.OK || steps != x.Steps {
			t.Fatalf("%v on %v: %v %d %d", p, l, match, steps, x.Steps)
		}
		if m.Deepest() != x.Deepest {
			t.Fatalf("%v on %v at %d: Deepest is %d, want %d", p, l, at, m.Deepest(), x.Deepest)
		}
		checkFuel(t, m, l, at, want, x.Steps)
	}
}

// checkFuel asks for all matches with one step less than they take.
func checkFuel(t *testing.T, m *Machine, l []int, at int, want []api.Match, steps int) {
	deepest := m.Deepest()
	_, found, _, err := m.Run(l, at, steps-1)
	for n := 0; err == api.OK; n++ {
		if !found || n > len(want) {
			t.Fatal("one step less suffices")
		}
		_, found, _, err = m.Next()
	}
	if err != api.ErrFuel || m.Deepest() != deepest {
		t.Fatal(err, "another Deepest with less fuel")
	}
	if _, _, _, err := m.Next(); err != api.ErrState {
		t.Fatal("Next after an error")
	}
}

func TestDeepestWithoutFuel(t *testing.T) {
	m := machine(t, "(?:a|b|c)*d")
	if _, _, _, err := m.Run(symbols("aaaa"), 0, 3); err != api.ErrFuel || m.Deepest() != 2 {
		t.Error(m.Deepest())
	}
	if _, _, _, err := m.Run(symbols("aaaa"), 0, 6); err != api.ErrFuel || m.Deepest() != 4 {
		t.Error(m.Deepest())
	}
	m = machine(t, "(?:a|b)(?>a*)(?=a|b)c*?")
	m.Run(symbols("bbcc"), 0, 100)
	if m.Deepest() != 1 {
		t.Error("choices of parts stay open", m.Deepest())
	}
}

func TestErrors(t *testing.T) {
	if m, err := New(api.Pattern{Caps: 10}); m != nil || err != api.ErrArg {
		t.Error("New")
	}
	m := machine(t, "a*")
	for i, c := range []struct {
		l        []int
		at, fuel int
		want     api.Errno
	}{
		{append(make([]int, api.MaxText), 300), -1, -1, api.ErrLimit}, {[]int{256}, 5, 9, api.ErrArg}, {[]int{-1}, 0, 9, api.ErrArg}, {nil, 1, -1, api.ErrArg}, {nil, 0, api.MaxFuel + 1, api.ErrArg}, {nil, 1, 0, api.ErrRange}, {nil, -1, 9, api.ErrRange}, {nil, 0, 0, api.ErrFuel}, {nil, 0, 2, api.OK},
	} {
		m.Run(nil, 0, 10)
		match, found, n, err := m.Run(c.l, c.at, c.fuel)
		if err != c.want || err != api.OK && (found || n != 0 || !sem.Equal(match, api.Match{})) {
			t.Errorf("case %d: %d", i, err)
		}
		if _, _, _, err := m.Next(); (err == api.ErrState) != (c.want != api.OK) {
			t.Errorf("case %d: Next returns %d", i, err)
		}
	}
	p := api.Pattern{Re: api.Re{Op: api.OpSet, Set: []api.Span{{Lo: 0, Hi: api.MaxSymbol}}}, Runes: true}
	w, _ := New(p)
	p.Re.Set[0].Lo = 5
	if _, found, _, err := w.Run([]int{4}, 0, 9); !found || err != api.OK {
		t.Error("the machine keeps the memory of its pattern")
	}
	if _, _, _, err := w.Run([]int{api.MaxSymbol + 1}, 0, 9); err != api.ErrArg {
		t.Error("a symbol over code points that is too great")
	}
}

func TestAtomicAndAlone(t *testing.T) {
	r := sample.New(2)
	for range 800 {
		p := r.Pattern(sample.All(), 5)
		if ast.Depth(p.Re) == api.MaxNesting {
			continue
		}
		q := p
		q.Re = api.Re{Op: api.OpAtom, Kids: []api.Re{p.Re}}
		x, _ := New(p)
		y, _ := New(q)
		all := 0
		for range 3 {
			l := r.Text("abc", 7)
			a, is, n, err := x.Run(l, 0, 50000)
			b, is2, n2, err2 := y.Run(l, 0, 50001)
			all += n2
			if err != err2 || is != is2 || !sem.Equal(a, b) || err == api.OK && n2 != n+1 {
				t.Fatalf("%v alone and atomic: %v %v", p, a, b)
			}
			if err == api.OK && y.Deepest() > all {
				t.Fatal("more choices than steps")
			}
			if !is2 {
				continue
			}
			if _, found, _, _ := y.Next(); found {
				t.Fatal("a second match of an atomic pattern")
			}
			fresh, _ := New(p)
			if c, is3, n3, err3 := fresh.Run(l, 0, 50000); is3 != is || n3 != n || err3 != err || !sem.Equal(a, c) {
				t.Fatal("earlier runs matter")
			}
		}
	}
}
