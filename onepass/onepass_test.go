package onepass

import (
	"slices"
	"testing"

	"rexmill/api"
	"rexmill/prog"
	"rexmill/sample"
	"rexmill/sem"
	"rexmill/syntax"
)

func compile(t *testing.T, s string) prog.Prog {
	p, _, err := syntax.Parse(s, syntax.Flags{})
	g, err2 := prog.Compile(p)
	if err+err2 != api.OK {
		t.Fatal(s, err, err2)
	}
	return g
}

func TestExamples(t *testing.T) {
	for _, c := range []struct {
		s      string
		states int
		fork   string
		forks  bool
	}{
		{"a*b", 3, "", false}, {"a*a", 0, "", true}, {"b(?:a|ab)", 0, "b", true}, {"", 1, "", false}, {"[]a", 1, "", false}, {"(?:|)", 0, "", true}, {"(a|b(c|d)*)", 5, "", false}, {"x(?:a|a)|w(?:b|b)|y", 0, "w", true}, {"(?:c|ba*a)", 0, "b", true}, {"a?", 2, "", false}, {"(?:a?|b)", 3, "", false}, {"(?:a[bc]|b)(?:d|e?x|dd)", 0, "b", true},
	} {
		g := compile(t, c.s)
		code, err := Compile(g)
		l, is, err2 := Fork(g)
		text := ""
		for _, x := range l {
			text += string(rune(x))
		}
		if err2 != api.OK || is != c.forks || text != c.fork || (err == api.ErrKind) != c.forks || (code == nil) != c.forks {
			t.Errorf("%s: %d, fork %v %q", c.s, err, is, text)
		}
		if code != nil && code.States() != c.states {
			t.Errorf("%s: %d states", c.s, code.States())
		}
	}
}

// waysTo returns the stops of a state by recursion, and whether an instruction comes twice.
func waysTo(g prog.Prog, from int) ([]int, bool) {
	count := map[int]int{}
	var l []int
	twice := false
	var walk func(i int)
	walk = func(i int) {
		count[i]++
		if count[i] > 1 {
			twice = true
			return
		}
		switch x := g.Insns[i]; x.Op {
		case prog.Split:
			walk(x.X)
			walk(x.Y)
		case prog.Jump:
			walk(x.X)
		case prog.Save:
			walk(i + 1)
		default:
			l = append(l, i)
		}
	}
	walk(from)
	return l, twice
}

// forks decides by trying symbols whether a state forks.
func forks(g prog.Prog, from int) bool {
	l, twice := waysTo(g, from)
	done := 0
	for _, i := range l {
		if g.Insns[i].Op == prog.Done {
			done++
		}
	}
	for c := range 256 {
		n := 0
		for _, i := range l {
			if slices.ContainsFunc(g.Insns[i].Set, func(s api.Span) bool { return s.Lo <= c && c <= s.Hi }) {
				n++
			}
		}
		twice = twice || n > 1
	}
	return twice || done > 1
}

// least looks for the least fork over the symbols a to e, level by level.
func least(g prog.Prog) ([]int, bool, int) {
	type place struct {
		state int
		text  []int
	}
	seen := map[int]bool{0: true}
	level := []place{{}}
	for i := 0; i < len(level); i++ {
		w := level[i]
		if forks(g, w.state) {
			return w.text, true, 0
		}
		stops, _ := waysTo(g, w.state)
		for c := 'a'; c <= 'e'; c++ {
			for _, s := range stops {
				set := g.Insns[s].Set
				if slices.ContainsFunc(set, func(s api.Span) bool { return s.Lo <= int(c) && int(c) <= s.Hi }) && !seen[s+1] {
					seen[s+1] = true
					level = append(level, place{s + 1, append(slices.Clone(w.text), int(c))})
				}
			}
		}
	}
	return nil, false, len(level)
}

func TestAtRandom(t *testing.T) {
	r := sample.New(1)
	good := 0
	for range 6000 {
		p := r.Pattern(sample.Shape{Caps: true}, 2+r.Int(4))
		g, err := prog.Compile(p)
		if err != api.OK {
			continue
		}
		fork, is, states := least(g)
		got, found, err := Fork(g)
		code, err2 := Compile(g)
		if err != api.OK || found != is || !slices.Equal(got, fork) || (err2 == api.ErrKind) != is {
			t.Fatalf("%v: fork %v %v, want %v %v", p, got, found, fork, is)
		}
		if is {
			continue
		}
		good++
		if code.States() != states {
			t.Fatalf("%v: %d states, want %d", p, code.States(), states)
		}
		for range 4 {
			l := r.Text("abcd", 8)
			at := r.Int(len(l) + 1)
			want, err := prog.Paths(g, l, at, -1, 100000)
			m, found, err2 := code.Run(l, at)
			if err+err2 != api.OK || found != (len(want) > 0) || found && !sem.Equal(m, want[0]) || !found && !sem.Equal(m, api.Match{}) {
				t.Fatalf("%v on %v at %d: %v, want %v", p, l, at, m, want)
			}
			ends := map[int]bool{}
			for _, m := range want {
				if ends[m.End] {
					t.Fatalf("%v: two results end at %d", p, m.End)
				}
				ends[m.End] = true
			}
		}
	}
	if good < 1000 {
		t.Error("too few one-pass programs", good)
	}
}

func TestPrograms(t *testing.T) {
	a := []api.Span{{Lo: 'a', Hi: 'a'}}
	loop := prog.Prog{Insns: []prog.Insn{{Op: prog.Jump}}}
	if l, is, err := Fork(loop); !is || len(l) != 0 || err != api.OK {
		t.Error("a way that comes to an instruction twice forks")
	}
	// The loop comes after a set without symbols, so it is not reachable.
	far := prog.Prog{Insns: []prog.Insn{{Op: prog.Split, X: 1, Y: 4}, {Op: prog.Sym}, {Op: prog.Jump, X: 2}, {Op: prog.Sym, Set: a}, {}}}
	if c, err := Compile(far); err != api.OK || c.States() != 1 {
		t.Error("a state that is not reachable forks", err)
	}
	done := prog.Prog{Insns: []prog.Insn{{Op: prog.Split, X: 1, Y: 2}, {}, {}}}
	if _, err := Compile(done); err != api.ErrKind {
		t.Error("two stops are Dones")
	}
	half := prog.Prog{Insns: []prog.Insn{{Op: prog.Save, N: 0}, {}}, Caps: 1}
	c, _ := Compile(half)
	if m, found, _ := c.Run(nil, 0); !found || m.Caps[0] != [2]int{-1, -1} {
		t.Error("a capture of which one register is not set")
	}
	assert := prog.Prog{Insns: []prog.Insn{{Op: prog.Assert}, {}}}
	for i, g := range []prog.Prog{{}, {Insns: make([]prog.Insn, api.MaxProg+1)}, assert} {
		want := []api.Errno{api.ErrArg, api.ErrLimit, api.ErrKind}[i]
		c, err := Compile(g)
		l, is, err2 := Fork(g)
		if c != nil || err != want || err2 != want || is || l != nil {
			t.Errorf("case %d: %d %d", i, err, err2)
		}
	}
	code, _ := Compile(compile(t, "a*b"))
	for i, k := range []struct {
		l    []int
		at   int
		want api.Errno
	}{{make([]int, api.MaxText+1), -1, api.ErrLimit}, {nil, 1, api.ErrRange}, {nil, -1, api.ErrRange}, {[]int{'b', -7}, 0, api.OK}} {
		if _, found, err := code.Run(k.l, k.at); err != k.want || found != (err == api.OK) {
			t.Errorf("Run %d: %d", i, err)
		}
	}
}
