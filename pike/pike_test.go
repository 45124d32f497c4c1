package pike

import (
	"slices"
	"testing"

	"rexmill/api"
	"rexmill/prog"
	"rexmill/sample"
	"rexmill/sem"
	"rexmill/syntax"
)

func compile(t *testing.T, s string) prog.Prog {
	p, _, err := syntax.Parse(s, syntax.Flags{})
	g, err2 := prog.Compile(p)
	if err+err2 != api.OK {
		t.Fatal(s, err, err2)
	}
	return g
}

// random returns a valid program that no pattern has to have.
func random(r *sample.Rand) prog.Prog {
	n := 2 + r.Int(7)
	g := prog.Prog{Caps: 1}
	for i := range n {
		x := prog.Insn{Op: r.Int(6)}
		if i == n-1 {
			x.Op = []int{prog.Done, prog.Split, prog.Jump}[r.Int(3)]
		}
		switch x.Op {
		case prog.Sym:
			lo := 'a' + r.Int(3)
			x.Set = []api.Span{{Lo: lo, Hi: lo + r.Int(2)}}
		case prog.Split:
			x.X, x.Y = r.Int(n), r.Int(n)
		case prog.Jump:
			x.X = r.Int(n)
		case prog.Save:
			x.N = r.Int(2)
		case prog.Assert:
			x.N = r.Int(6)
		}
		g.Insns = append(g.Insns, x)
	}
	return g
}

// threads builds the list at the end of a run as section 11 says, from sets of added instructions.
func threads(g prog.Prog, l []int, at, end int) []int {
	var list []int
	build := func(from []int, pos int) {
		list = nil
		added := map[int]bool{}
		var add func(i int)
		add = func(i int) {
			if added[i] {
				return
			}
			added[i] = true
			switch x := g.Insns[i]; x.Op {
			case prog.Sym, prog.Done:
				list = append(list, i)
			case prog.Jump:
				add(x.X)
			case prog.Split:
				add(x.X)
				add(x.Y)
			case prog.Save:
				add(i + 1)
			case prog.Assert:
				if sem1(x.N, l, pos) {
					add(i + 1)
				}
			}
		}
		for _, i := range from {
			add(i)
		}
		for k, i := range list {
			if g.Insns[i].Op == prog.Done {
				list = list[:k+1]
				break
			}
		}
	}
	build([]int{0}, at)
	for pos := at; pos < end; pos++ {
		var from []int
		for _, i := range list {
			if x := g.Insns[i]; x.Op == prog.Sym && slices.ContainsFunc(x.Set, func(s api.Span) bool { return s.Lo <= l[pos] && l[pos] <= s.Hi }) {
				from = append(from, i+1)
			}
		}
		build(from, pos+1)
	}
	return list
}

// sem1 decides an assertion by the definition.
func sem1(n int, l []int, at int) bool {
	found, _, _ := sem.All(api.Pattern{Re: api.Re{Op: api.OpAssert, N: n}}, l, at, 1, 9)
	return len(found) > 0
}

func TestExample(t *testing.T) {
	g := compile(t, "a|ab")
	l := []int{'a', 'b'}
	first, _ := Threads(g, l, 0, 0)
	second, _ := Threads(g, l, 0, 1)
	third, _ := Threads(g, l, 0, 2)
	if !slices.Equal(first, []int{1, 3}) || !slices.Equal(second, []int{5}) || len(third) != 0 {
		t.Error(first, second, third)
	}
	if m, found, err := Run(g, l, 0); !found || m.End != 1 || err != api.OK {
		t.Error(m)
	}
}

func TestPreference(t *testing.T) {
	r := sample.New(1)
	for range 4000 {
		p := r.Pattern(sample.Shape{Asserts: true, Caps: true}, 3+r.Int(4))
		g, _ := prog.Compile(p)
		l := r.Text("abcd\n", 8)
		want, err := sem.Every(p, l, 1000000)
		if err != api.OK {
			continue
		}
		got, err := Every(g, l)
		if err != api.OK || !slices.EqualFunc(got, want, sem.Equal) {
			t.Fatalf("%v on %v: %v", p, l, got)
		}
		from := r.Int(len(l) + 1)
		k := slices.IndexFunc(want, func(m api.Match) bool { return m.Start >= from })
		m, found, err := First(g, l, from)
		if err != api.OK || found != (k >= 0) || found && !sem.Equal(m, want[k]) || !found && !sem.Equal(m, api.Match{}) {
			t.Fatalf("First of %v on %v from %d", p, l, from)
		}
		m, found, _ = Run(g, l, from)
		if found != (k >= 0 && want[k].Start == from) || found && !sem.Equal(m, want[k]) {
			t.Fatalf("Run of %v on %v from %d", p, l, from)
		}
	}
}

func TestThreads(t *testing.T) {
	r := sample.New(2)
	for range 3000 {
		g, l := random(r), r.Text("abcd", 5)
		at := r.Int(len(l) + 1)
		end := at + r.Int(len(l)-at+1)
		got, err := Threads(g, l, at, end)
		if err != api.OK || !slices.Equal(got, threads(g, l, at, end)) {
			t.Fatalf("%v on %v from %d to %d: %v, %d", g, l, at, end, got, err)
		}
		kept := slices.Clone(got)
		slices.Sort(kept)
		if len(slices.Compact(kept)) != len(got) {
			t.Fatal("an instruction is there twice")
		}
		last := -1
		for e := at; e <= len(l); e++ {
			if list := threads(g, l, at, e); len(list) > 0 && g.Insns[list[len(list)-1]].Op == prog.Done {
				last = e
			}
		}
		m, found, err := Run(g, l, at)
		if err != api.OK || found != (last >= 0) || found && (m.End != last || m.Start != at || len(m.Caps) != 1) {
			t.Fatalf("%v on %v: %v", g, l, m)
		}
	}
}

func TestRegisters(t *testing.T) {
	half := prog.Prog{Insns: []prog.Insn{{Op: prog.Save, N: 0}, {}}, Caps: 1}
	if m, found, _ := Run(half, []int{1, 2}, 1); !found || m.Caps[0] != [2]int{-1, -1} {
		t.Error("a capture of which one register is not set")
	}
	registers := make([]int, 4, 10)
	if l := with(registers, 1, 7); !slices.Equal(l, []int{0, 7, 0, 0}) || registers[1] != 0 {
		t.Error("registers are changed")
	}
}

func TestErrors(t *testing.T) {
	g, long := compile(t, "a"), make([]int, api.MaxText+1)
	if _, _, err := Run(prog.Prog{}, long, -1); err != api.ErrArg {
		t.Error("the program comes first")
	}
	if _, _, err := Run(prog.Prog{Insns: make([]prog.Insn, api.MaxProg+1)}, nil, 0); err != api.ErrLimit {
		t.Error("a program that is too long")
	}
	for i, c := range []struct {
		l       []int
		at, end int
		want    api.Errno
	}{{long, -1, 0, api.ErrLimit}, {nil, -1, 0, api.ErrRange}, {nil, 1, 1, api.ErrRange}, {[]int{1}, 1, 1, api.OK}, {[]int{-5}, 0, 1, api.OK}} {
		_, found, err := Run(g, c.l, c.at)
		_, _, err2 := First(g, c.l, c.at)
		l, err3 := Threads(g, c.l, c.at, c.end)
		if err != c.want || err2 != c.want || err3 != c.want || found || err != api.OK && l != nil {
			t.Errorf("case %d: %d %d %d", i, err, err2, err3)
		}
	}
	if _, err := Threads(g, []int{1, 2}, 2, 1); err != api.ErrRange {
		t.Error("end before at")
	}
	if _, err := Threads(g, []int{1, 2}, 1, 3); err != api.ErrRange {
		t.Error("end after the text")
	}
	if _, err := Every(g, long); err != api.ErrLimit {
		t.Error("Every")
	}
	if _, err := Every(prog.Prog{}, nil); err != api.ErrArg {
		t.Error("Every of no program")
	}
}
