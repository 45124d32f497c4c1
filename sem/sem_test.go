package sem

import (
	"slices"
	"testing"

	"rexmill/api"
	"rexmill/ast"
	"rexmill/define"
	"rexmill/sample"
	"rexmill/syntax"
	"rexmill/text"
)

func parse(t *testing.T, s string) api.Pattern {
	p, offset, err := syntax.Parse(s, syntax.Flags{})
	if err != api.OK {
		t.Fatalf("%q: %d at %d", s, err, offset)
	}
	return p
}

func symbols(s string) []int {
	l, _ := text.Decode([]byte(s), false)
	return l
}

func TestExamples(t *testing.T) {
	p := parse(t, "(a|ab)(c|bcd)?")
	l, _, err := All(p, symbols("abcd"), 0, 100, 1000)
	want := []api.Match{{Start: 0, End: 4, Caps: [][2]int{{0, 1}, {1, 4}}}, {Start: 0, End: 1, Caps: [][2]int{{0, 1}, {-1, -1}}}, {Start: 0, End: 3, Caps: [][2]int{{0, 2}, {2, 3}}}, {Start: 0, End: 2, Caps: [][2]int{{0, 2}, {-1, -1}}}}
	if err != api.OK || !slices.EqualFunc(l, want, Equal) {
		t.Errorf("got %v, %d", l, err)
	}
	for s, ends := range map[string][]int{"a*": {2, 1, 0}, "a*?": {0, 1, 2}, "a*+": {2}, "(?:a|a)*b": nil} {
		l, _, _ := All(parse(t, s), symbols("aa"), 0, 100, 1000)
		var got []int
		for _, m := range l {
			got = append(got, m.End)
		}
		if !slices.Equal(got, ends) {
			t.Errorf("%s: %v", s, got)
		}
	}
	if n, err := Steps(parse(t, "a*"), symbols("aa"), 0, 6); n != 6 || err != api.OK {
		t.Errorf("%d steps, %d", n, err)
	}
	if n, _ := Steps(parse(t, "(?:a|a)*b"), symbols("a"), 0, 100); n != 16 {
		t.Errorf("%d steps", n)
	}
}

func TestDefinition(t *testing.T) {
	r := sample.New(1)
	found := 0
	for i := range 6000 {
		p := r.Pattern(sample.All(), 3+r.Int(4))
		l := r.Text("abcd", 6)
		at := r.Int(len(l) + 1)
		x := define.New(l)
		want := x.All(p, at, 5000)
		if len(want) == 5000 || x.Steps > 200000 {
			continue
		}
		found += min(1, len(want))
		got, steps, err := All(p, l, at, 5000, api.MaxFuel)
		if err != api.OK || steps != x.Steps || !slices.EqualFunc(got, want, Equal) {
			t.Fatalf("%d: %v on %v at %d: %d steps instead of %d", i, p, l, at, steps, x.Steps)
		}
		if n, err := Steps(p, l, at, x.Steps); err != api.OK || n != x.Steps {
			t.Fatal("Steps")
		}
		if _, err := Steps(p, l, at, x.Steps-1); err != api.ErrFuel {
			t.Fatal("one step less suffices")
		}
		most := 1 + r.Int(4)
		y := define.New(l)
		want = y.All(p, at, most)
		got, steps, _ = All(p, l, at, most, y.Steps)
		if steps != y.Steps || !slices.EqualFunc(got, want, Equal) || steps > x.Steps {
			t.Fatalf("%v on %v: the first %d matches take %d steps, %d were expected", p, l, most, steps, y.Steps)
		}
		if l, n, err := All(p, l, at, most, y.Steps-1); err != api.ErrFuel || n != 0 || l != nil {
			t.Fatal("fuel for one step less")
		}
		checkMatches(t, p, l, got)
	}
	if found < 2000 {
		t.Error("too few patterns match", found)
	}
}

// checkMatches looks for starts, ends and captures that are no positions, and lengths that the pattern does not have.
func checkMatches(t *testing.T, p api.Pattern, l []int, found []api.Match) {
	least, most := ast.Lengths(p.Re)
	for _, m := range found {
		n := m.End - m.Start
		if m.Start < 0 || m.End > len(l) || n < least || most >= 0 && n > most || len(m.Caps) != p.Caps {
			t.Fatalf("%v: %v", p, m)
		}
		for _, c := range m.Caps {
			if c[0] > c[1] || c[1] > len(l) || (c[0] < 0) != (c[1] < 0) {
				t.Fatalf("%v: %v", p, m)
			}
		}
	}
}

func TestFirstAndEvery(t *testing.T) {
	r := sample.New(2)
	for range 1500 {
		p := r.Pattern(sample.All(), 4)
		l := r.Text("abc", 6)
		x := define.New(l)
		var every []api.Match
		from := r.Int(len(l) + 1)
		for at := range len(l) + 1 {
			every = append(every, x.All(p, at, 1)...)
			if x.Steps > 100000 {
				break
			}
		}
		if x.Steps > 100000 {
			continue
		}
		got, err := Every(p, l, x.Steps)
		if err != api.OK || !slices.EqualFunc(got, every, Equal) {
			t.Fatalf("%v on %v: %v", p, l, got)
		}
		if l, err := Every(p, l, x.Steps-1); err != api.ErrFuel || l != nil {
			t.Fatal("Every with one step less")
		}
		y := define.New(l)
		var want []api.Match
		for at := from; at <= len(l) && len(want) == 0; at++ {
			want = y.All(p, at, 1)
		}
		m, is, steps, err := First(p, l, from, y.Steps)
		if err != api.OK || is != (len(want) > 0) || is && !Equal(m, want[0]) || steps != y.Steps {
			t.Fatalf("First of %v on %v from %d", p, l, from)
		}
		if m, is, n, err := First(p, l, from, y.Steps-1); err != api.ErrFuel || is || n != 0 || !Equal(m, api.Match{}) {
			t.Fatal("First with one step less")
		}
	}
}

func TestErrors(t *testing.T) {
	a := parse(t, "a")
	bad := api.Pattern{Caps: -1}
	long := make([]int, api.MaxText+1)
	wide := api.Pattern{Re: a.Re, Runes: true}
	for i, c := range []struct {
		p        api.Pattern
		l        []int
		at, most int
		fuel     int
		want     api.Errno
	}{
		{bad, long, -1, 0, -1, api.ErrArg}, {api.Pattern{Re: api.Re{Op: api.OpCat, Kids: make([]api.Re, 300)}}, nil, 0, 1, 9, api.ErrLimit},
		{a, append(long, -1), -1, 0, -1, api.ErrLimit}, {a, []int{256}, 9, 1, 9, api.ErrArg}, {a, []int{-1}, 0, 1, 9, api.ErrArg}, {wide, []int{256}, 0, 1, 9, api.OK}, {wide, []int{api.MaxSymbol + 1}, 0, 1, 9, api.ErrArg},
		{a, nil, 1, 1, -1, api.ErrArg}, {a, nil, 0, 1, api.MaxFuel + 1, api.ErrArg}, {a, nil, 0, 1, api.MaxFuel, api.OK}, {a, nil, 1, 0, 9, api.ErrArg}, {a, nil, 1, 1, 9, api.ErrRange}, {a, nil, -1, 1, 0, api.ErrRange}, {a, nil, 0, 1, 0, api.ErrFuel}, {a, nil, 0, 1, 1, api.OK},
		{wide, []int{55296}, 0, 1, 9, api.OK},
	} {
		if _, n, err := All(c.p, c.l, c.at, c.most, c.fuel); err != c.want || err != api.OK && n != 0 {
			t.Errorf("case %d: All returns %d", i, err)
		}
		if c.most == 0 {
			continue
		}
		if _, err := Steps(c.p, c.l, c.at, c.fuel); err != c.want {
			t.Errorf("case %d: Steps returns %d", i, err)
		}
		if _, _, _, err := First(c.p, c.l, c.at, c.fuel); err != c.want && len(c.l) == 0 {
			t.Errorf("case %d: First returns %d", i, err)
		}
		if _, err := Every(c.p, c.l, c.fuel); err != c.want && c.want != api.ErrRange {
			t.Errorf("case %d: Every returns %d", i, err)
		}
	}
	if _, err := Same(a, bad, nil, 9); err != api.ErrArg {
		t.Error("Same: the second pattern")
	}
	if _, err := Same(wide, a, []int{256}, 9); err != api.ErrArg {
		t.Error("Same: the text has to be valid for both")
	}
}

func TestSame(t *testing.T) {
	for _, c := range []struct {
		p, q, s string
		fuel    int
		same    bool
		err     api.Errno
	}{
		{"a|ab", "ab|a", "ab", 99, false, api.OK}, {"a|ab", "ab|a", "a", 99, true, api.OK}, {"a*", "a*|a", "aa", 99, false, api.OK}, {"(a)", "a(?#1)?", "", 0, false, api.ErrFuel},
		{"a*", "a*", "aaa", 8, true, api.OK}, {"a*", "a*", "aaa", 7, false, api.ErrFuel}, {"a", "a*", "baa", 5, false, api.ErrFuel}, {"a", "a*", "baa", 6, false, api.OK}, {"(a)", "(?<1>a)", "aa", 9, true, api.OK},
	} {
		q := c.q
		if c.fuel == 0 {
			q = "a"
		}
		same, err := Same(parse(t, c.p), parse(t, q), symbols(c.s), c.fuel)
		if same != c.same || err != c.err {
			t.Errorf("%s %s on %q: %v %d", c.p, q, c.s, same, err)
		}
	}
	if Equal(api.Match{Caps: [][2]int{{1, 2}}}, api.Match{Caps: [][2]int{{1, 3}}}) || Equal(api.Match{Start: 1}, api.Match{}) || Equal(api.Match{End: 1}, api.Match{}) || !Equal(api.Match{Caps: [][2]int{}}, api.Match{}) {
		t.Error("Equal")
	}
}

func TestProperties(t *testing.T) {
	r := sample.New(3)
	shape := sample.All()
	shape.Looks, shape.Asserts = false, false
	for range 800 {
		p, l := r.Pattern(shape, 4), r.Text("abc", 6)
		s := r.Int(len(l) + 1)
		here, _, err := All(p, l, s, 500, 100000)
		there, _, err2 := All(p, l[s:], 0, 500, 100000)
		if err+err2 != api.OK {
			continue
		}
		for i := range there {
			there[i].Start += s
			there[i].End += s
			for k, c := range there[i].Caps {
				if c[0] >= 0 {
					there[i].Caps[k] = [2]int{c[0] + s, c[1] + s}
				}
			}
		}
		if !slices.EqualFunc(here, there, Equal) {
			t.Fatalf("%v is not local", p)
		}
		if re, err := ast.Expand(p.Re); err == api.OK && ast.Size(re) <= api.MaxNodes && ast.Depth(re) <= api.MaxNesting {
			if same, err := Same(p, api.Pattern{Re: re, Caps: p.Caps}, l, 100000); err == api.OK && !same {
				t.Fatalf("%v is not the same unrolled", p)
			}
		}
	}
}

func TestLongText(t *testing.T) {
	l := slices.Repeat([]int{'a'}, api.MaxText)
	m, is, steps, err := First(parse(t, "(?:(?:|(?:))(?:)(a)(?:(?:)))*"), l, 0, api.MaxFuel)
	if err != api.OK || !is || m.End != api.MaxText || steps < api.MaxText {
		t.Errorf("%v %d", m, err)
	}
}
