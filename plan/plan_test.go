package plan

import (
	"slices"
	"testing"

	"rexmill/api"
	"rexmill/ast"
	"rexmill/memo"
	"rexmill/sample"
	"rexmill/sem"
	"rexmill/syntax"
)

func parse(t *testing.T, s string) api.Pattern {
	p, _, err := syntax.Parse(s, syntax.Flags{})
	if err != api.OK {
		t.Fatal(s, err)
	}
	return p
}

func TestExample(t *testing.T) {
	p := parse(t, `a(b|c)|d*|(a)\1|(?=a)b`)
	x, err := New(p, 8)
	if err != api.OK || !slices.Equal(x.Engines(), []int{OnePass, OnePass, Back, Oracle}) {
		t.Fatal(x.Engines(), err)
	}
	l := []int{'a', 'd'}
	if m, found, err := x.Run(l, 0, 99); !found || m.End != 0 || err != api.OK || len(m.Caps) != 2 {
		t.Error(m)
	}
	if m, _, _ := x.Run(l, 1, 99); m.End != 2 {
		t.Error(m)
	}
}

func TestEngines(t *testing.T) {
	for _, c := range []struct {
		s    string
		want []int
	}{
		{"", []int{OnePass}}, {"a*a", []int{Lazy}}, {"(a*)a", []int{Pike}}, {"^(a)", []int{Pike}}, {`\ba`, []int{Pike}}, {"(a)(?=b)", []int{Oracle}}, {"(?=(a))", []int{Memo}}, {"(?:a*)*", []int{Memo}}, {"a*+", []int{Memo}}, {`(a)\1`, []int{Back}}, {"(a)(?(1)b|c)", []int{Back}}, {"(?:a|b*b)", []int{OnePass, Lazy}}, {"(?:(?:a|b)|b*b)", []int{OnePass, Lazy}}, {"(?#1)a*a|(?>a)", []int{Lazy, Memo}},
	} {
		x, err := New(parse(t, c.s), 1)
		if err != api.OK || !slices.Equal(x.Engines(), c.want) {
			t.Errorf("%s: %v", c.s, x.Engines())
		}
	}
}

// compare compares what an engine returned with the definition.
func compare(t *testing.T, name any, p api.Pattern, l []int, at int, m api.Match, found bool, err api.Errno, want []api.Match) {
	t.Helper()
	if err != api.OK || found != (len(want) > 0) || found && !sem.Equal(m, want[0]) || !found && !sem.Equal(m, api.Match{}) {
		t.Fatalf("%v: %v on %v at %d: %v %d, want %v", name, p, l, at, m, err, want)
	}
}

func TestAgree(t *testing.T) {
	r := sample.New(1)
	count := [6]int{}
	for i := range 5000 {
		shape := sample.All()
		if i%2 == 0 {
			shape = sample.Shape{Caps: true, Looks: i%4 == 0, Asserts: i%3 == 0}
		}
		p := r.Pattern(shape, 2+r.Int(5))
		l := r.Text("abcd", 7)
		at := r.Int(len(l) + 1)
		want, steps, err := sem.All(p, l, at, 1, 100000)
		if err != api.OK {
			continue
		}
		for engine := range 6 {
			if Accepts(engine, p) != api.OK {
				continue
			}
			count[engine]++
			fuel := api.MaxFuel * r.Int(2)
			if engine <= Memo {
				fuel = steps
			}
			m, found, err := With(engine, p, l, at, 1+r.Int(4), fuel)
			compare(t, engine, p, l, at, m, found, err, want)
		}
		if _, found, err := With(Back, p, l, at, 1, steps-1); err != api.ErrFuel || found {
			t.Fatal("Back with one step less", err)
		}
		_, _, n, _ := memo.Run(p, l, at, api.MaxFuel)
		if _, _, err := With(Memo, p, l, at, 1, n-1); err != api.ErrFuel {
			t.Fatal("Memo with one step less", err)
		}
		checkPlan(t, r, p, l, at, want)
	}
	if slices.Min(count[:]) < 300 {
		t.Error("an engine has been used too rarely", count)
	}
}

func checkPlan(t *testing.T, r *sample.Rand, p api.Pattern, l []int, at int, want []api.Match) {
	x, err := New(p, 1+r.Int(9))
	if err != api.OK {
		t.Fatal(err)
	}
	kept := ast.Encode(p)
	m, found, err := x.Run(l, at, api.MaxFuel)
	compare(t, "plan", p, l, at, m, found, err, want)
	for range 2 {
		m, found, err = x.First(l, at, api.MaxFuel)
		first, is, _, err2 := sem.First(p, l, at, 1000000)
		if err2 == api.OK && (err != api.OK || is != found || is && !sem.Equal(m, first)) {
			t.Fatalf("First of %v on %v from %d: %v", p, l, at, m)
		}
	}
	if !slices.Equal(ast.Encode(p), kept) {
		t.Fatal("the pattern changed")
	}
	if sure := !slices.ContainsFunc(x.Engines(), func(e int) bool { return e <= Memo }); sure {
		m, found, err = x.Run(l, at, 0)
		compare(t, "plan without fuel", p, l, at, m, found, err, want)
	} else if x.Engines()[0] <= Memo {
		if _, _, err := x.Run(l, at, 0); err != api.ErrFuel {
			t.Fatal("a plan that needs fuel", err)
		}
		if _, found, err := x.First(l, at, 0); err != api.ErrFuel || found {
			t.Fatal("First of a plan that needs fuel", err)
		}
	}
}

func TestErrors(t *testing.T) {
	a, bad := parse(t, "a"), api.Pattern{Caps: 10}
	long := make([]int, api.MaxText+1)
	for i, c := range []struct {
		engine int
		p      api.Pattern
		want   api.Errno
	}{
		{9, bad, api.ErrArg}, {6, a, api.ErrArg}, {-1, a, api.ErrArg}, {Pike, parse(t, "(?=a)"), api.ErrKind}, {OnePass, parse(t, "a*a"), api.ErrKind}, {Lazy, parse(t, "^a"), api.ErrKind}, {OnePass, parse(t, "^a"), api.ErrKind}, {Oracle, parse(t, "(?>a)"), api.ErrKind}, {Pike, parse(t, "(?:(?:a{32}){32}){8}"), api.ErrLimit}, {Lazy, parse(t, "(?:(?:a{32}){32}){8}"), api.ErrLimit}, {Back, parse(t, "(?:(?:a{32}){32}){8}"), api.OK}, {Lazy, parse(t, "(a)"), api.OK},
	} {
		if got := Accepts(c.engine, c.p); got != c.want {
			t.Errorf("case %d: %d", i, got)
		}
		if _, _, err := With(c.engine, c.p, nil, 0, 0, 9); err != c.want && c.want != api.OK {
			t.Errorf("case %d: With returns %d", i, err)
		}
	}
	x, _ := New(a, 1)
	for i, c := range []struct {
		l               []int
		at, cache, fuel int
		want            api.Errno
	}{
		{long, -1, 0, -1, api.ErrArg}, {long, -1, 1025, -1, api.ErrArg}, {append(long, -1), -1, 1, -1, api.ErrLimit}, {[]int{256}, 7, 1, 9, api.ErrArg}, {nil, 1, 1024, -1, api.ErrArg}, {nil, 1, 1, api.MaxFuel + 1, api.ErrArg}, {nil, 1, 1, 9, api.ErrRange}, {nil, -1, 1, 9, api.ErrRange},
	} {
		for engine := range 6 {
			if _, found, err := With(engine, a, c.l, c.at, c.cache, c.fuel); err != c.want || found {
				t.Errorf("case %d, engine %d: %d", i, engine, err)
			}
		}
		if c.cache%1025 == 0 {
			continue
		}
		_, _, err := x.Run(c.l, c.at, c.fuel)
		_, _, err2 := x.First(c.l, c.at, c.fuel)
		if err != c.want || err2 != c.want {
			t.Errorf("case %d: plan: %d %d", i, err, err2)
		}
	}
	for _, cache := range []int{0, 1025} {
		if x, err := New(a, cache); x != nil || err != api.ErrArg {
			t.Error("New with the cache", cache)
		}
	}
	if x, err := New(api.Pattern{Re: api.Re{Op: api.OpCat, Kids: make([]api.Re, 256)}}, 0); x != nil || err != api.ErrLimit {
		t.Error("New: the pattern comes first")
	}
}

func TestFuelOfAlternatives(t *testing.T) {
	x, _ := New(parse(t, `a|b|(?>a)|(c)\1`), 1)
	if _, found, err := x.Run([]int{'a'}, 0, 0); !found || err != api.OK {
		t.Error("an alternative that is not asked needs fuel")
	}
	if _, _, err := x.Run([]int{'c'}, 0, 0); err != api.ErrFuel {
		t.Error("an alternative that is asked needs fuel")
	}
	if _, _, err := x.First([]int{'c', 'a'}, 0, 0); err != api.ErrFuel {
		t.Error("First returns the error of a position before the result")
	}
	if m, found, err := x.First([]int{'a', 'c'}, 0, 0); !found || m.End != 1 || err != api.OK {
		t.Error("First ends at the result")
	}
}
