package repair

import (
	"slices"
	"strings"
	"testing"

	"rexmill/api"
	"rexmill/ast"
	"rexmill/bound"
	"rexmill/rules"
	"rexmill/sample"
	"rexmill/sem"
	"rexmill/syntax"
)

func parse(t *testing.T, s string) api.Pattern {
	p, _, err := syntax.Parse(s, syntax.Flags{})
	if err != api.OK {
		t.Fatal(s, err)
	}
	return p
}

func shown(p api.Pattern) string {
	s, _ := syntax.Print(p)
	return s
}

func TestCost(t *testing.T) {
	for s, want := range map[string][]int{
		"(?:a|a)*b": {1, 0, 3, 6, 1}, "a*b": {0, 1, 2, 4, 1}, "a*+b": {0, 1, 2, 4, 0}, "": {0, 0, 1, 1, 0}, "(?>a*)a{2}a{1,2}": {0, 1, 3, 8, 2}, "(?=a)": {3, 0, 1, 2, 0}, strings.Repeat("a", 64): {2, 0, 64, 65, 0}, "a*a*": {0, 2, 2, 5, 2}, "(?:a*)*+": {3, 0, 1, 3, 1}, "(?:a|a)*+": {1, 0, 2, 4, 0},
	} {
		if got, err := Cost(parse(t, s)); !slices.Equal(got, want) || err != api.OK {
			t.Errorf("%s: %v %d", s, got, err)
		}
	}
	if l, err := Cost(api.Pattern{Caps: 10}); err != api.ErrArg || l != nil {
		t.Error("Cost of no pattern")
	}
}

func TestCompare(t *testing.T) {
	runes := api.Pattern{Runes: true}
	order := []api.Pattern{{}, runes, {Caps: 1}, {Caps: 1, Runes: true}, parse(t, "a"), parse(t, "b"), parse(t, "ab"), parse(t, "a*+"), parse(t, "a*"), parse(t, "a*b"), parse(t, "a*a*"), parse(t, "(?:a|a)*"), parse(t, strings.Repeat("a", 64)), parse(t, "(?=a)")}
	for i, p := range order {
		for k, q := range order {
			want := 0
			if i < k {
				want = -1
			} else if i > k {
				want = 1
			}
			if got, err := Compare(p, q); got != want || err != api.OK {
				t.Errorf("%s, %s: %d", shown(p), shown(q), got)
			}
		}
	}
	deep := api.Pattern{Re: api.Re{Op: api.OpCat, Kids: make([]api.Re, 256)}}
	if _, err := Compare(deep, api.Pattern{Caps: 10}); err != api.ErrLimit {
		t.Error("the first error")
	}
	if _, err := Compare(order[0], api.Pattern{Caps: 10}); err != api.ErrArg {
		t.Error("the second error")
	}
}

func TestExample(t *testing.T) {
	p := parse(t, "(?:a|a)*b")
	for depth, want := range []string{"", "a*b", "a*+b", "a*+b"} {
		f, err := Find(p, depth, 100)
		if depth == 0 {
			if err != api.ErrNone || f.Steps != nil {
				t.Error(err)
			}
			continue
		}
		if shown(f.Pattern) != want || err != api.OK || len(f.Steps) != min(depth, 2) || Check(p, f) != api.OK {
			t.Error(depth, shown(f.Pattern), f.Steps, err)
		}
	}
	if _, err := Find(p, 5, 1); err != api.ErrNone {
		t.Error("only the pattern itself is found")
	}
	if f, err := Find(p, 5, 2); shown(f.Pattern) != "a*b" || err != api.OK {
		t.Error("two patterns are found", shown(f.Pattern))
	}
}

// slow lists what is found by comparing patterns one by one.
func slow(p api.Pattern, depth, most int) []api.Pattern {
	all := []api.Pattern{p}
	steps := []int{0}
	for i := 0; i < len(all); i++ {
		if steps[i] >= depth {
			continue
		}
		l, _ := rules.Steps(all[i])
		for _, s := range l {
			q, _ := rules.At(all[i], s)
			if len(all) < most && !slices.ContainsFunc(all, func(x api.Pattern) bool { return ast.Compare(x.Re, q.Re) == 0 }) {
				all = append(all, q)
				steps = append(steps, steps[i]+1)
			}
		}
	}
	return all
}

func TestLeast(t *testing.T) {
	r := sample.New(1)
	fixed := 0
	for range 150 {
		p := r.Pattern(sample.Shape{Caps: true, Atoms: true}, 2+r.Int(4))
		depth, most := r.Int(4), 1+r.Int(40)
		f, err := Find(p, depth, most)
		least := p
		for _, q := range slow(p, depth, most) {
			if n, _ := Compare(q, least); n < 0 {
				least = q
			}
		}
		cost, _ := Cost(least)
		if (err == api.ErrNone) != (cost[0] != 0) {
			t.Fatalf("%s: %d", shown(p), err)
		}
		if err != api.OK {
			continue
		}
		if n, _ := Compare(f.Pattern, least); n != 0 || Check(p, f) != api.OK {
			t.Fatalf("%s: %s, but %s is less", shown(p), shown(f.Pattern), shown(least))
		}
		if len(f.Steps) > 0 {
			fixed++
		}
		again, err := Find(f.Pattern, 0, most)
		if err != api.OK || len(again.Steps) != 0 || ast.Compare(again.Pattern.Re, f.Pattern.Re) != 0 {
			t.Fatal("Find again")
		}
		l := r.Text("abcd", 6)
		if same, err := rules.Same(p, f.Pattern, l, 30000); err == api.OK && !same {
			t.Fatal("another effect", shown(p), shown(f.Pattern))
		}
		steps, err := sem.Steps(f.Pattern, l, 0, 1000000)
		most2, err2 := bound.Steps(f.Cert, len(l))
		if err+err2 == api.OK && steps > most2 {
			t.Fatal("more steps than the bound")
		}
		loosened, err := sem.Steps(loose(f.Pattern), l, 0, 1000000)
		if err == api.OK && loosened < steps {
			t.Fatal("the loose form takes fewer steps")
		}
	}
	if fixed < 20 {
		t.Error("too few repairs", fixed)
	}
}

func TestErrors(t *testing.T) {
	p := parse(t, "a*b")
	f, _ := Find(p, 2, 10)
	for i, c := range []struct {
		p           api.Pattern
		depth, most int
		want        api.Errno
	}{{api.Pattern{Caps: 10}, -1, 0, api.ErrArg}, {p, -1, 5, api.ErrRange}, {p, 17, 5, api.ErrRange}, {p, 16, 0, api.ErrRange}, {p, 16, 1025, api.ErrRange}, {p, 16, 1024, api.OK}, {parse(t, "(?=a)"), 3, 9, api.ErrNone}} {
		g, err := Find(c.p, c.depth, c.most)
		if err != c.want || err != api.OK && (g.Steps != nil || g.Cert.Ranks != nil || g.Pattern.Re.Kids != nil) {
			t.Errorf("case %d: %d", i, err)
		}
	}
	if Check(api.Pattern{Caps: 10}, f) != api.ErrArg {
		t.Error("Check of no pattern")
	}
	for i, change := range []func(f *Fix){
		func(f *Fix) { f.Steps = nil }, func(f *Fix) { f.Steps = append(f.Steps, rules.Step{Rule: 99}) }, func(f *Fix) { f.Pattern = p }, func(f *Fix) { f.Pattern.Caps = 1 }, func(f *Fix) { f.Pattern.Runes = true }, func(f *Fix) { f.Cert.Factor-- }, func(f *Fix) { f.Cert = bound.Cert{} },
	} {
		g := f
		g.Steps = slices.Clone(f.Steps)
		change(&g)
		if Check(p, g) != api.ErrProof {
			t.Error("change", i)
		}
	}
	more := f
	more.Cert.Factor += 5
	if Check(p, more) != api.OK || Check(p, Fix{Pattern: p, Cert: f.Cert}) != api.OK {
		t.Error("other repairs that are right")
	}
}
