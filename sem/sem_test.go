package sem

import (
	"iter"
	"slices"
	"testing"

	"rexmill/api"
	"rexmill/ast"
	"rexmill/sample"
	"rexmill/syntax"
	"rexmill/text"
)

// definition is section 7 as it stands: a list of results is an iterator, which is evaluated as far as it is asked for.
type definition struct {
	text  []int
	steps int
}

type result = iter.Seq2[int, []int]

func none(func(int, []int) bool) {}

func one(j int, d []int) result {
	return func(yield func(int, []int) bool) { yield(j, d) }
}

// list begins to evaluate M.
func (x *definition) list(re api.Re, i int, c []int) result {
	return func(yield func(int, []int) bool) {
		if re.Op != api.OpRep {
			x.steps++
		}
		for j, d := range x.results(re, i, c) {
			if !yield(j, d) {
				return
			}
		}
	}
}

// head returns the first result, with the end want, if that is not negative.
func (x *definition) head(l result, want int) (int, []int, bool) {
	for j, d := range l {
		if want < 0 || j == want {
			return j, d, true
		}
	}
	return 0, nil, false
}

func (x *definition) results(re api.Re, i int, c []int) result {
	switch re.Op {
	case api.OpEmpty:
		return one(i, c)
	case api.OpSet:
		if i < len(x.text) && slices.ContainsFunc(re.Set, func(s api.Span) bool { return s.Lo <= x.text[i] && x.text[i] <= s.Hi }) {
			return one(i+1, c)
		}
	case api.OpAssert:
		if text.Assert(re.N, x.text, i) {
			return one(i, c)
		}
	case api.OpCat:
		return x.sequence(re.Kids, i, c)
	case api.OpAlt:
		return func(yield func(int, []int) bool) {
			for _, kid := range re.Kids {
				for j, d := range x.list(kid, i, c) {
					if !yield(j, d) {
						return
					}
				}
			}
		}
	case api.OpCap:
		return func(yield func(int, []int) bool) {
			for j, d := range x.list(re.Kids[0], i, c) {
				d = slices.Clone(d)
				d[2*re.N-2], d[2*re.N-1] = i, j
				if !yield(j, d) {
					return
				}
			}
		}
	case api.OpRef:
		f, t := c[2*re.N-2], c[2*re.N-1]
		if f >= 0 && i+t-f <= len(x.text) && slices.Equal(x.text[f:t], x.text[i:i+t-f]) {
			return one(i+t-f, c)
		}
	case api.OpAhead, api.OpBehind, api.OpAtom:
		return x.part(re, i, c)
	case api.OpCond:
		if c[2*re.N-2] >= 0 {
			return x.list(re.Kids[0], i, c)
		}
		return x.list(re.Kids[1], i, c)
	case api.OpRep:
		if re.Mode == api.Possessive {
			re.Mode = api.Greedy
			if j, d, found := x.head(x.round(re, 0, i, c), -1); found {
				return one(j, d)
			}
			return none
		}
		return x.round(re, 0, i, c)
	}
	return none
}

func (x *definition) part(re api.Re, i int, c []int) result {
	kid := re.Kids[0]
	var d []int
	var j int
	found := false
	if re.Op == api.OpBehind {
		for s := i; s >= 0 && !found; s-- {
			_, d, found = x.head(x.list(kid, s, c), i)
		}
	} else {
		j, d, found = x.head(x.list(kid, i, c), -1)
	}
	switch {
	case re.Neg && !found:
		return one(i, c)
	case re.Neg || !found:
		return none
	case re.Op == api.OpAtom:
		return one(j, d)
	}
	return one(i, d)
}

func (x *definition) sequence(kids []api.Re, i int, c []int) result {
	if len(kids) == 0 {
		return one(i, c)
	}
	return func(yield func(int, []int) bool) {
		for j, d := range x.list(kids[0], i, c) {
			for k, e := range x.sequence(kids[1:], j, d) {
				if !yield(k, e) {
					return
				}
			}
		}
	}
}

func (x *definition) round(re api.Re, k, i int, c []int) result {
	return func(yield func(int, []int) bool) {
		x.steps++
		more := func() bool {
			if k >= re.Min && re.Max >= 0 && k >= re.Max {
				return true
			}
			for j, d := range x.list(re.Kids[0], i, c) {
				if k >= re.Min && j == i {
					continue
				}
				for e, f := range x.round(re, k+1, j, d) {
					if !yield(e, f) {
						return false
					}
				}
			}
			return true
		}
		if k < re.Min {
			more()
			return
		}
		if re.Mode == api.Greedy {
			_ = more() && yield(i, c)
			return
		}
		_ = yield(i, c) && more()
	}
}

// all evaluates the list of matches with up to most elements.
func (x *definition) all(p api.Pattern, at, most int) []api.Match {
	var l []api.Match
	for j, d := range x.list(p.Re, at, slices.Repeat([]int{-1}, 2*p.Caps)) {
		m := api.Match{Start: at, End: j}
		for k := 0; k < len(d); k += 2 {
			m.Caps = append(m.Caps, [2]int{d[k], d[k+1]})
		}
		l = append(l, m)
		if len(l) == most {
			break
		}
	}
	return l
}

func parse(t *testing.T, s string) api.Pattern {
	p, offset, err := syntax.Parse(s, syntax.Flags{})
	if err != api.OK {
		t.Fatalf("%q: %d at %d", s, err, offset)
	}
	return p
}

func symbols(s string) []int {
	l, _ := text.Decode([]byte(s), false)
	return l
}

func TestExamples(t *testing.T) {
	p := parse(t, "(a|ab)(c|bcd)?")
	l, _, err := All(p, symbols("abcd"), 0, 100, 1000)
	want := []api.Match{{Start: 0, End: 4, Caps: [][2]int{{0, 1}, {1, 4}}}, {Start: 0, End: 1, Caps: [][2]int{{0, 1}, {-1, -1}}}, {Start: 0, End: 3, Caps: [][2]int{{0, 2}, {2, 3}}}, {Start: 0, End: 2, Caps: [][2]int{{0, 2}, {-1, -1}}}}
	if err != api.OK || !slices.EqualFunc(l, want, Equal) {
		t.Errorf("got %v, %d", l, err)
	}
	for s, ends := range map[string][]int{"a*": {2, 1, 0}, "a*?": {0, 1, 2}, "a*+": {2}, "(?:a|a)*b": nil} {
		l, _, _ := All(parse(t, s), symbols("aa"), 0, 100, 1000)
		var got []int
		for _, m := range l {
			got = append(got, m.End)
		}
		if !slices.Equal(got, ends) {
			t.Errorf("%s: %v", s, got)
		}
	}
	if n, err := Steps(parse(t, "a*"), symbols("aa"), 0, 6); n != 6 || err != api.OK {
		t.Errorf("%d steps, %d", n, err)
	}
	if n, _ := Steps(parse(t, "(?:a|a)*b"), symbols("a"), 0, 100); n != 16 {
		t.Errorf("%d steps", n)
	}
}

func TestDefinition(t *testing.T) {
	r := sample.New(1)
	found := 0
	for i := range 6000 {
		p := r.Pattern(sample.All(), 3+r.Int(4))
		l := r.Text("abcd", 6)
		at := r.Int(len(l) + 1)
		x := &definition{text: l}
		want := x.all(p, at, 5000)
		if len(want) == 5000 || x.steps > 200000 {
			continue
		}
		found += min(1, len(want))
		got, steps, err := All(p, l, at, 5000, api.MaxFuel)
		if err != api.OK || steps != x.steps || !slices.EqualFunc(got, want, Equal) {
			t.Fatalf("%d: %v on %v at %d: %d steps instead of %d", i, p, l, at, steps, x.steps)
		}
		if n, err := Steps(p, l, at, x.steps); err != api.OK || n != x.steps {
			t.Fatal("Steps")
		}
		if _, err := Steps(p, l, at, x.steps-1); err != api.ErrFuel {
			t.Fatal("one step less suffices")
		}
		most := 1 + r.Int(4)
		y := &definition{text: l}
		want = y.all(p, at, most)
		got, steps, _ = All(p, l, at, most, y.steps)
		if steps != y.steps || !slices.EqualFunc(got, want, Equal) || steps > x.steps {
			t.Fatalf("%v on %v: the first %d matches take %d steps, %d were expected", p, l, most, steps, y.steps)
		}
		if l, n, err := All(p, l, at, most, y.steps-1); err != api.ErrFuel || n != 0 || l != nil {
			t.Fatal("fuel for one step less")
		}
		checkMatches(t, p, l, got)
	}
	if found < 2000 {
		t.Error("too few patterns match", found)
	}
}

// checkMatches looks for starts, ends and captures that are no positions, and lengths that the pattern does not have.
func checkMatches(t *testing.T, p api.Pattern, l []int, found []api.Match) {
	least, most := ast.Lengths(p.Re)
	for _, m := range found {
		n := m.End - m.Start
		if m.Start < 0 || m.End > len(l) || n < least || most >= 0 && n > most || len(m.Caps) != p.Caps {
			t.Fatalf("%v: %v", p, m)
		}
		for _, c := range m.Caps {
			if c[0] > c[1] || c[1] > len(l) || (c[0] < 0) != (c[1] < 0) {
				t.Fatalf("%v: %v", p, m)
			}
		}
	}
}

func TestFirstAndEvery(t *testing.T) {
	r := sample.New(2)
	for range 1500 {
		p := r.Pattern(sample.All(), 4)
		l := r.Text("abc", 6)
		x := &definition{text: l}
		var every []api.Match
		from := r.Int(len(l) + 1)
		for at := range len(l) + 1 {
			every = append(every, x.all(p, at, 1)...)
			if x.steps > 100000 {
				break
			}
		}
		if x.steps > 100000 {
			continue
		}
		got, err := Every(p, l, x.steps)
		if err != api.OK || !slices.EqualFunc(got, every, Equal) {
			t.Fatalf("%v on %v: %v", p, l, got)
		}
		if l, err := Every(p, l, x.steps-1); err != api.ErrFuel || l != nil {
			t.Fatal("Every with one step less")
		}
		y := &definition{text: l}
		var want []api.Match
		for at := from; at <= len(l) && len(want) == 0; at++ {
			want = y.all(p, at, 1)
		}
		m, is, steps, err := First(p, l, from, y.steps)
		if err != api.OK || is != (len(want) > 0) || is && !Equal(m, want[0]) || steps != y.steps {
			t.Fatalf("First of %v on %v from %d", p, l, from)
		}
		if m, is, n, err := First(p, l, from, y.steps-1); err != api.ErrFuel || is || n != 0 || !Equal(m, api.Match{}) {
			t.Fatal("First with one step less")
		}
	}
}

func TestErrors(t *testing.T) {
	a := parse(t, "a")
	bad := api.Pattern{Caps: -1}
	long := make([]int, api.MaxText+1)
	wide := api.Pattern{Re: a.Re, Runes: true}
	for i, c := range []struct {
		p        api.Pattern
		l        []int
		at, most int
		fuel     int
		want     api.Errno
	}{
		{bad, long, -1, 0, -1, api.ErrArg}, {api.Pattern{Re: api.Re{Op: api.OpCat, Kids: make([]api.Re, 300)}}, nil, 0, 1, 9, api.ErrLimit},
		{a, append(long, -1), -1, 0, -1, api.ErrLimit}, {a, []int{256}, 9, 1, 9, api.ErrArg}, {a, []int{-1}, 0, 1, 9, api.ErrArg}, {wide, []int{256}, 0, 1, 9, api.OK}, {wide, []int{api.MaxSymbol + 1}, 0, 1, 9, api.ErrArg},
		{a, nil, 1, 1, -1, api.ErrArg}, {a, nil, 0, 1, api.MaxFuel + 1, api.ErrArg}, {a, nil, 0, 1, api.MaxFuel, api.OK}, {a, nil, 1, 0, 9, api.ErrArg}, {a, nil, 1, 1, 9, api.ErrRange}, {a, nil, -1, 1, 0, api.ErrRange}, {a, nil, 0, 1, 0, api.ErrFuel}, {a, nil, 0, 1, 1, api.OK},
		{wide, []int{55296}, 0, 1, 9, api.OK},
	} {
		if _, n, err := All(c.p, c.l, c.at, c.most, c.fuel); err != c.want || err != api.OK && n != 0 {
			t.Errorf("case %d: All returns %d", i, err)
		}
		if c.most == 0 {
			continue
		}
		if _, err := Steps(c.p, c.l, c.at, c.fuel); err != c.want {
			t.Errorf("case %d: Steps returns %d", i, err)
		}
		if _, _, _, err := First(c.p, c.l, c.at, c.fuel); err != c.want && len(c.l) == 0 {
			t.Errorf("case %d: First returns %d", i, err)
		}
		if _, err := Every(c.p, c.l, c.fuel); err != c.want && c.want != api.ErrRange {
			t.Errorf("case %d: Every returns %d", i, err)
		}
	}
	if _, err := Same(a, bad, nil, 9); err != api.ErrArg {
		t.Error("Same: the second pattern")
	}
	if _, err := Same(wide, a, []int{256}, 9); err != api.ErrArg {
		t.Error("Same: the text has to be valid for both")
	}
}

func TestSame(t *testing.T) {
	for _, c := range []struct {
		p, q, s string
		fuel    int
		same    bool
		err     api.Errno
	}{
		{"a|ab", "ab|a", "ab", 99, false, api.OK}, {"a|ab", "ab|a", "a", 99, true, api.OK}, {"a*", "a*|a", "aa", 99, false, api.OK}, {"(a)", "a(?#1)?", "", 0, false, api.ErrFuel},
		{"a*", "a*", "aaa", 8, true, api.OK}, {"a*", "a*", "aaa", 7, false, api.ErrFuel}, {"a", "a*", "baa", 5, false, api.ErrFuel}, {"a", "a*", "baa", 6, false, api.OK}, {"(a)", "(?<1>a)", "aa", 9, true, api.OK},
	} {
		q := c.q
		if c.fuel == 0 {
			q = "a"
		}
		same, err := Same(parse(t, c.p), parse(t, q), symbols(c.s), c.fuel)
		if same != c.same || err != c.err {
			t.Errorf("%s %s on %q: %v %d", c.p, q, c.s, same, err)
		}
	}
	if Equal(api.Match{Caps: [][2]int{{1, 2}}}, api.Match{Caps: [][2]int{{1, 3}}}) || Equal(api.Match{Start: 1}, api.Match{}) || Equal(api.Match{End: 1}, api.Match{}) || !Equal(api.Match{Caps: [][2]int{}}, api.Match{}) {
		t.Error("Equal")
	}
}

func TestProperties(t *testing.T) {
	r := sample.New(3)
	shape := sample.All()
	shape.Looks, shape.Asserts = false, false
	for range 800 {
		p, l := r.Pattern(shape, 4), r.Text("abc", 6)
		s := r.Int(len(l) + 1)
		here, _, err := All(p, l, s, 500, 100000)
		there, _, err2 := All(p, l[s:], 0, 500, 100000)
		if err+err2 != api.OK {
			continue
		}
		for i := range there {
			there[i].Start += s
			there[i].End += s
			for k, c := range there[i].Caps {
				if c[0] >= 0 {
					there[i].Caps[k] = [2]int{c[0] + s, c[1] + s}
				}
			}
		}
		if !slices.EqualFunc(here, there, Equal) {
			t.Fatalf("%v is not local", p)
		}
		if re, err := ast.Expand(p.Re); err == api.OK && ast.Size(re) <= api.MaxNodes && ast.Depth(re) <= api.MaxNesting {
			if same, err := Same(p, api.Pattern{Re: re, Caps: p.Caps}, l, 100000); err == api.OK && !same {
				t.Fatalf("%v is not the same unrolled", p)
			}
		}
	}
}

func TestLongText(t *testing.T) {
	l := slices.Repeat([]int{'a'}, api.MaxText)
	m, is, steps, err := First(parse(t, "(?:(?:|(?:))(?:)(a)(?:(?:)))*"), l, 0, api.MaxFuel)
	if err != api.OK || !is || m.End != api.MaxText || steps < api.MaxText {
		t.Errorf("%v %d", m, err)
	}
}
