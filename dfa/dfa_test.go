package dfa

import (
	"slices"
	"testing"

	"rexmill/api"
	"rexmill/pike"
	"rexmill/prog"
	"rexmill/sample"
	"rexmill/sem"
	"rexmill/syntax"
)

func compile(t *testing.T, s string) prog.Prog {
	p, _, err := syntax.Parse(s, syntax.Flags{})
	g, err2 := prog.Compile(p)
	if err+err2 != api.OK {
		t.Fatal(s, err, err2)
	}
	return g
}

func TestExample(t *testing.T) {
	g := compile(t, "a*b")
	d, err := New(g, 8)
	if err != api.OK {
		t.Fatal(err)
	}
	if made, emptied := d.Stats(); made != 0 || emptied != 0 {
		t.Error("a new machine has made states")
	}
	g.Insns[1].Set[0].Lo = 'x'
	end, found, err := d.End([]int{'a', 'a', 'b'}, 0)
	made, emptied := d.Stats()
	if end != 3 || !found || err != api.OK || made != 2 || emptied != 0 {
		t.Error(end, found, err, made, emptied)
	}
	if n, err := Full(compile(t, "a*b")); n != 2 || err != api.OK {
		t.Error("Full", n, err)
	}
}

// needed returns the lists of the states that a run needs, by pike.
func needed(g prog.Prog, l []int, at int) [][]int {
	var out [][]int
	for end := at; end <= len(l); end++ {
		list, _ := pike.Threads(g, l, at, end)
		if len(list) == 0 {
			break
		}
		out = append(out, list)
	}
	return out
}

func TestSameAsPike(t *testing.T) {
	r := sample.New(1)
	for range 1500 {
		p := r.Pattern(sample.Shape{Caps: true}, 3+r.Int(4))
		g, _ := prog.Compile(p)
		room := 1 + r.Int(5)
		d, _ := New(g, room)
		var cache []string
		made, emptied := 0, 0
		for range 4 {
			l := r.Text("abcd", 9)
			at := r.Int(len(l) + 1)
			end, found, err := d.End(l, at)
			m, is, _ := pike.Run(g, l, at)
			if err != api.OK || found != is || end != m.End && found || !found && end != 0 {
				t.Fatalf("%v on %v at %d: %d", p, l, at, end)
			}
			for _, list := range needed(g, l, at) {
				k := key(list)
				if slices.Contains(cache, k) {
					continue
				}
				if len(cache) == room {
					cache = nil
					emptied++
				}
				cache = append(cache, k)
				made++
			}
			if a, b := d.Stats(); a != made || b != emptied {
				t.Fatalf("%v: %d %d, want %d %d", p, a, b, made, emptied)
			}
		}
		checkEnds(t, p, g, r)
	}
}

func checkEnds(t *testing.T, p api.Pattern, g prog.Prog, r *sample.Rand) {
	full, err := Full(g)
	if err != api.OK {
		t.Fatal(err)
	}
	big, _ := New(g, max(full, 1))
	one, _ := New(g, 1)
	seen := map[string]bool{}
	for range 3 {
		l := r.Text("abcd", 8)
		ends, err := big.Ends(l)
		ends2, _ := one.Ends(l)
		want, _ := sem.Every(p, l, api.MaxFuel)
		all := slices.Repeat([]int{-1}, len(l)+1)
		for _, m := range want {
			all[m.Start] = m.End
		}
		if err != api.OK || !slices.Equal(ends, all) || !slices.Equal(ends2, all) {
			t.Fatalf("%v on %v: %v", p, l, ends)
		}
		for at := range len(l) + 1 {
			for _, list := range needed(g, l, at) {
				seen[key(list)] = true
			}
		}
	}
	if made, emptied := big.Stats(); emptied != 0 || made > full || made != len(seen) {
		t.Fatalf("%v: %d states of %d, the cache was emptied %d times", p, made, full, emptied)
	}
}

func TestFull(t *testing.T) {
	for _, c := range []struct {
		s    string
		n    int
		want api.Errno
	}{
		{"[]", 1, api.OK}, {"", 1, api.OK}, {"(?:a|b)*a(?:a|b){3}", 31, api.OK}, {"(?:a|b)*a(?:a|b){10}", 0, api.ErrLimit},
	} {
		n, err := Full(compile(t, c.s))
		if err != c.want || c.s != "(?:a|b)*a(?:a|b){3}" && n != c.n || c.want == api.OK && n < 1 {
			t.Errorf("%s: %d, %d", c.s, n, err)
		}
	}
	if n, err := Full(prog.Prog{Insns: []prog.Insn{{Op: prog.Jump}}}); n != 0 || err != api.OK {
		t.Error("a first state that is dead is not needed", n, err)
	}
	chain := make([]prog.Insn, api.MaxStates)
	for i := range chain {
		chain[i] = prog.Insn{Op: prog.Sym, Set: []api.Span{{Lo: 7, Hi: 7}}}
	}
	if _, err := Full(prog.Prog{Insns: append(slices.Clone(chain), prog.Insn{})}); err != api.ErrLimit {
		t.Error("1025 states")
	}
	if n, err := Full(prog.Prog{Insns: append(chain[1:], prog.Insn{})}); err != api.OK || n != 1024 {
		t.Error("1024 states", n, err)
	}
	many := make([]prog.Insn, 1025)
	for i := range many {
		many[i] = prog.Insn{Op: prog.Sym}
	}
	if _, err := Full(prog.Prog{Insns: append(many, prog.Insn{})}); err != api.ErrLimit {
		t.Error("too many sets")
	}
}

func TestErrors(t *testing.T) {
	assert := prog.Prog{Insns: []prog.Insn{{Op: prog.Assert}, {}}}
	for i, c := range []struct {
		g     prog.Prog
		cache int
		want  api.Errno
	}{{prog.Prog{}, 0, api.ErrArg}, {prog.Prog{Insns: make([]prog.Insn, api.MaxProg+1)}, 0, api.ErrLimit}, {assert, 0, api.ErrKind}, {compile(t, "a"), 0, api.ErrArg}, {compile(t, "a"), 1025, api.ErrArg}, {compile(t, "a"), 1024, api.OK}} {
		d, err := New(c.g, c.cache)
		if err != c.want || (d == nil) != (err != api.OK) {
			t.Errorf("case %d: %d", i, err)
		}
	}
	if _, err := Full(assert); err != api.ErrKind {
		t.Error("Full of an Assert")
	}
	if _, err := Full(prog.Prog{}); err != api.ErrArg {
		t.Error("Full of no program")
	}
	d, _ := New(compile(t, "a"), 5)
	long := make([]int, api.MaxText+1)
	if _, _, err := d.End(long, -1); err != api.ErrLimit {
		t.Error("End: the text comes first")
	}
	for _, at := range []int{-1, 2} {
		if end, found, err := d.End([]int{1}, at); err != api.ErrRange || found || end != 0 {
			t.Error("End at", at)
		}
	}
	if l, err := d.Ends(long); err != api.ErrLimit || l != nil {
		t.Error("Ends")
	}
	if made, _ := d.Stats(); made != 0 {
		t.Error("an error changes the machine")
	}
}
