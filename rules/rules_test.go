package rules

import (
	"bytes"
	"slices"
	"testing"

	"rexmill/api"
	"rexmill/ast"
	"rexmill/sample"
	"rexmill/sem"
	"rexmill/syntax"
)

func parse(t *testing.T, s string) api.Pattern {
	p, _, err := syntax.Parse(s, syntax.Flags{})
	if err != api.OK {
		t.Fatal(s, err)
	}
	return p
}

func symbols(s string) []int {
	var l []int
	for _, c := range []byte(s) {
		l = append(l, int(c))
	}
	return l
}

func TestNames(t *testing.T) {
	want := []string{"flat", "merge", "unit", "twin", "head", "tail", "union", "once", "nest", "stars", "maybe", "plus", "hold", "peel", "sure", "loose", "own"}
	if !slices.Equal(Names(), want) {
		t.Error(Names())
	}
}

func TestApply(t *testing.T) {
	for _, c := range []struct {
		rule    int
		s, want string
	}{
		{0, "a(?:bc)(?:de)", "abc(?:de)"}, {0, "abc", "-"}, {0, "a|(?:bc)", "-"}, {1, "a|(?:b|c)|(?:d|e)", "a|b|c|(?:d|e)"}, {1, "(?:a|b)c", "-"}, {2, "a(?:)b(?:)", "ab(?:)"}, {2, "(?:)a", "a"}, {2, "(?:)(?:)", ""}, {2, "a|", "-"}, {2, "ab", "-"},
		{3, "a|b|a|b", "a|b|b"}, {3, "a|a", "a"}, {3, "ab", "-"}, {3, "aa", "-"}, {3, "a|b", "-"},
		{4, "ab|ac", "a(?:b|c)"}, {4, "x|ab|acd|ae", "x|a(?:b|cd)|ae"}, {4, "a|ab", "-"}, {4, "a*b|a*c", "-"}, {4, "a{2}b|a{2}c", "a{2}(?:b|c)"}, {4, "a*+b|a*+c", "a*+(?:b|c)"}, {4, "(?=a)b|(?=a)c", "(?=a)(?:b|c)"}, {4, "^b|^c", "^(?:b|c)"}, {4, `\b^b|\B^c`, "-"}, {4, `(?:^|\b)b|(?:^|\b)c`, "-"}, {4, "(?:a|b)b|(?:a|b)c", "-"}, {4, "ab|x|ac", "-"}, {4, "(?>a*)b|(?>a*)c", "(?>a*)(?:b|c)"}, {4, "(?<1>a)b|(?<1>a)c", "(?<1>a)(?:b|c)"}, {4, `(?#1)\1b|\1c`, `(?#1)\1(?:b|c)`}, {4, "(?#1)(?(1)a|b)b|(?(1)a|b)c", "(?#1)(?(1)a|b)(?:b|c)"}, {4, "(?:ab)c|(?:ab)d", "(?:ab)(?:c|d)"},
		{5, "bx|cdx", "(?:b|cd)x"}, {5, "ba*|ca*|d", "(?:b|c)a*|d"}, {5, "x|bx", "-"}, {5, "ax|ay", "-"},
		{6, "a|b|c", "[a-b]|c"}, {6, "a|b", "[a-b]"}, {6, "a|xy|b", "-"}, {6, "[]|a", "a"}, {6, "ab", "-"},
		{7, "a{1}", "a"}, {7, "a{1}?", "a"}, {7, "a{1}+", "-"}, {7, "a{1,2}", "-"}, {8, "(?:a*)*", "a*"}, {8, "(?:a+)+", "a+"}, {8, "(?:a+)*", "a*"}, {8, "(?:a*)+", "a*"}, {8, "(?:a*?)*", "-"}, {8, "(?:a*)*?", "-"}, {8, "(?:a*)*+", "-"}, {8, "(?:a{2,})*", "-"}, {8, "(?:(?:a?)*)*", "-"}, {8, "(?:a?)*", "-"}, {8, "(?:a*){0,1}", "-"},
		{9, "a*a*b", "a*b"}, {9, "a*a*", "a*"}, {9, "a*a+", "-"}, {9, "a*?a*?", "-"}, {9, "(?:a?)*(?:a?)*", "-"}, {9, "ba*a*a*", "ba*a*"}, {10, "a?a*", "a*"}, {10, "a??a*", "-"}, {10, "a?a*?", "-"}, {10, "a?b*", "-"}, {10, "(?:a?)?(?:a?)*", "-"}, {10, "a{0,2}a*", "-"}, {11, "baa*c", "ba+c"}, {11, "(a)(?<1>a)*", "(?<1>a)+"}, {11, "aa*?", "-"}, {11, "aa+", "-"}, {11, "(?:a*)(?:a*)*", "(?:a*)+"}, {11, "ab*", "-"},
		{12, "a*b", "a*+b"}, {12, "a*ab", "-"}, {12, "a*", "-"}, {12, "a*c?", "-"}, {12, "a*c?b", "a*+c?b"}, {12, "a*c?a", "a*c?+a"}, {12, "a*?b", "-"}, {12, "a*+b", "-"}, {12, "a{2}b", "-"}, {12, "a{2,3}b", "a{2,3}+b"}, {12, "(a)*b", "-"}, {12, `(x)a*\1b`, "-"}, {12, "a*(?=a)b", "a*+(?=a)b"}, {12, "a*[^a]a*b", "a*+[^a]a*b"}, {12, "a*(?:b|c*)d", "a*+(?:b|c*)d"}, {12, "a*(?:b|a*)d", "-"}, {12, "a*(b)a", "a*+(?<1>b)a"},
		{13, "(?=ab*)", "(?=a)"}, {13, "(?=abc*)", "(?=ab)"}, {13, "(?!ab*)", "-"}, {13, "(?=ab)", "-"}, {13, "(?=a(b?))", "-"}, {13, "(?=a(?:b?)*)", "(?=a)"}, {13, "(?<=ab*)", "-"}, {13, "(?=a*)", "-"}, {13, "(?=a(?=b))", "-"}, {14, "(?=a*)", ""}, {14, "(?=)", ""}, {14, "(?!)", "-"}, {14, "(?=a)", "-"}, {14, "(?=(a)?)", "-"}, {14, "(?=(?:a?)*)", ""},
		{15, "(?>a)", "a"}, {15, "(?>a*)", "-"}, {15, "(?>a{2})", "a{2}"}, {15, "(?>^)", "^"}, {15, "(?>(?!a))", "(?!a)"}, {16, "(?>a*)", "a*+"}, {16, "(?>(?:a|b){2,3})", "(?:a|b){2,3}+"}, {16, "(?>a*?)", "-"}, {16, "(?>a*+)", "-"}, {16, "(?>a)", "-"},
	} {
		p := parse(t, c.s)
		kept := ast.Encode(p)
		re, good := Apply(c.rule, p.Re)
		if c.want == "-" {
			if good || ast.Compare(re, api.Re{}) != 0 {
				t.Errorf("rule %d of %s", c.rule, c.s)
			}
			if _, err := At(p, Step{Rule: c.rule}); err != api.ErrKind {
				t.Errorf("rule %d of %s: %d", c.rule, c.s, err)
			}
			continue
		}
		if !good || ast.Compare(re, parse(t, c.want).Re) != 0 {
			s, _ := syntax.Print(api.Pattern{Re: re, Caps: p.Caps})
			t.Errorf("rule %d of %s: %s", c.rule, c.s, s)
		}
		if !bytes.Equal(ast.Encode(p), kept) {
			t.Errorf("rule %d of %s changes it", c.rule, c.s)
		}
	}
	for _, rule := range []int{-1, 17} {
		if _, good := Apply(rule, api.Re{}); good {
			t.Error("there is no such rule")
		}
	}
}

// TestSingle asks loose of atomic groups, which can be used exactly if what is in the group is single.
func TestSingle(t *testing.T) {
	for s, want := range map[string]bool{
		"": true, "a": true, "[]": true, `(?#1)\1`: true, "(?=a*)": true, "(?!a*)": true, "(?<=a*)": true, "(?<!a*)": true, "(?>a*)": true,
		`\A`: true, `\z`: true, "(?m:^)": true, "(?m:$)": true, `\b`: true, `\B`: true,
		"ab": true, `^a\b`: true, "a(?>b*)": true, "ab*": false, "^b*": false,
		"(?#1)(?(1)a|^)": true, `(?#1)(?(1)\b|\B)`: true, "(?#1)(?(1)a*|^)": false, "(?#1)(?(1)^|a*)": false,
		"(?<1>^)": true, "(?<1>a$)": true, "(?<1>^a*)": false,
		"a{3}": true, `\b{2}`: true, "(?:^a){2}": true, "(?:^a){2}?": true, "(?<1>^){32}": true, "^{0,1}": false, "^*": false, "^*?": false, "^*+": true, "(?:^|a)*+": true, "(?:a*){2}": false,
		"a|b": false, "^|$": false, "(?:^|$)a": false, "(?<1>^|$)": false, "(?:^|$){2}": false,
	} {
		p := parse(t, s)
		re, good := Apply(15, api.Re{Op: api.OpAtom, Kids: []api.Re{p.Re}})
		if good != want || good && ast.Compare(re, p.Re) != 0 || !good && ast.Compare(re, api.Re{}) != 0 {
			t.Errorf("loose of (?>%s): %v", s, good)
		}
	}
}

// TestStepsOfAssertions looks at the steps of patterns whose parts are single because of an assertion.
func TestStepsOfAssertions(t *testing.T) {
	for n := api.AtBegin; n <= api.NotAtWord; n++ {
		assertion := api.Re{Op: api.OpAssert, N: n}
		a, b := parse(t, "a").Re, parse(t, `\n`).Re
		cat := func(l ...api.Re) api.Re { return api.Re{Op: api.OpCat, Kids: l} }
		for i, c := range []struct {
			re   api.Re
			want []Step
		}{
			{api.Re{Op: api.OpAtom, Kids: []api.Re{assertion}}, []Step{{15, nil}}},
			{cat(a, api.Re{Op: api.OpAtom, Kids: []api.Re{cat(b, assertion)}}), []Step{{15, []int{1}}}},
			{api.Re{Op: api.OpAlt, Kids: []api.Re{cat(assertion, a), cat(assertion, b)}}, []Step{{4, nil}}},
			{api.Re{Op: api.OpRep, Max: -1, Kids: []api.Re{{Op: api.OpAlt, Kids: []api.Re{cat(assertion, a), cat(assertion, b)}}}}, []Step{{4, []int{0}}}},
			{api.Re{Op: api.OpRep, Max: -1, Kids: []api.Re{{Op: api.OpAlt, Kids: []api.Re{assertion, a}}}}, nil},
		} {
			p := api.Pattern{Re: c.re}
			l, err := Steps(p)
			if err != api.OK || !bytes.Equal(Encode(l), Encode(c.want)) {
				t.Errorf("assertion %d, case %d: %v %d", n, i, l, err)
			}
			for _, s := range l {
				q, err := At(p, s)
				if err != api.OK {
					t.Fatalf("assertion %d, case %d: %d", n, i, err)
				}
				checkLess(t, p, q, s)
				for _, text := range []string{"", "a", "\n", "aa", "a\n", "\na", "\n\n", "a\na", "\na\n"} {
					if same, err := Same(p, q, symbols(text), 10000); err != api.OK || !same {
						t.Errorf("assertion %d, case %d: another effect on %q: %d", n, i, text, err)
					}
				}
			}
		}
	}
}

func TestUnionLimit(t *testing.T) {
	comb := func(from int) api.Re {
		re := api.Re{Op: api.OpSet}
		for i := range 33 {
			re.Set = append(re.Set, api.Span{Lo: from + 4*i, Hi: from + 4*i})
		}
		return re
	}
	a := parse(t, "a").Re
	re := api.Re{Op: api.OpAlt, Kids: []api.Re{comb(0), comb(2), a}}
	got, good := Apply(6, re)
	if !good || len(got.Kids) != 2 || ast.Compare(got.Kids[0], comb(0)) != 0 {
		t.Error("the first kids whose union is small enough are joined", good)
	}
}

// random returns patterns to which rules can often be applied.
func random(r *sample.Rand) api.Pattern {
	p := r.Pattern(sample.All(), 3+r.Int(3))
	paths := ast.Paths(p.Re)
	for range 3 {
		from, _ := ast.At(p.Re, paths[r.Int(len(paths))])
		x := api.Re{Op: api.OpSet, Set: []api.Span{{Lo: 'a', Hi: 'a'}}}
		star := api.Re{Op: api.OpRep, Max: -1, Kids: []api.Re{from}}
		switch r.Int(8) {
		case 0:
			x = star
		case 1:
			x = api.Re{Op: api.OpCat, Kids: []api.Re{from, star}}
		case 2:
			x = api.Re{Op: api.OpAlt, Kids: []api.Re{{Op: api.OpCat, Kids: []api.Re{from, x}}, {Op: api.OpCat, Kids: []api.Re{from, star}}}}
		case 3:
			x = api.Re{Op: api.OpAlt, Kids: []api.Re{{Op: api.OpCat, Kids: []api.Re{x, from}}, {Op: api.OpCat, Kids: []api.Re{star, from}}}}
		case 4:
			x = api.Re{Op: api.OpCat, Kids: []api.Re{star, star}}
		case 5:
			x = api.Re{Op: api.OpAtom, Kids: []api.Re{from}}
		case 6:
			x = api.Re{Op: api.OpCat, Kids: []api.Re{{Op: api.OpRep, Max: 1, Kids: []api.Re{from}}, star}}
		case 7:
			x = api.Re{Op: api.OpAhead, Kids: []api.Re{{Op: api.OpCat, Kids: []api.Re{x, star}}}}
		}
		at := paths[r.Int(len(paths))]
		if re, err := ast.Put(p.Re, at, x); err == api.OK && ast.Size(re) < 60 {
			p.Re = re
			paths = ast.Paths(re)
		}
	}
	return p
}

func leaves(re api.Re) (int, int) {
	n, held := 0, 0
	for _, path := range ast.Paths(re) {
		part, _ := ast.At(re, path)
		if len(part.Kids) == 0 {
			n++
		}
		if part.Op == api.OpRep && part.Mode == api.Possessive {
			held++
		}
	}
	return n, held
}

func TestEffect(t *testing.T) {
	r := sample.New(1)
	used := [17]int{}
	for range 1500 {
		p := random(r)
		steps, err := Steps(p)
		if err != api.OK {
			continue
		}
		for _, s := range steps {
			q, err := At(p, s)
			part, _ := ast.At(p.Re, s.Path)
			next, good := Apply(s.Rule, part)
			want, _ := ast.Put(p.Re, s.Path, next)
			if err != api.OK || !good || ast.Compare(q.Re, want) != 0 || q.Caps != p.Caps {
				t.Fatal("a step of a part is what Apply does")
			}
			used[s.Rule]++
			checkLess(t, p, q, s)
			for range 3 {
				l := r.Text("abcd", 5)
				same, err := Same(p, q, l, 20000)
				if err == api.OK && !same {
					a, _ := syntax.Print(p)
					b, _ := syntax.Print(q)
					t.Fatalf("%s by rule %d at %v: %s, on %v", a, s.Rule, s.Path, b, l)
				}
			}
		}
		if len(steps) > 1 {
			checkExchange(t, r, p, steps)
		}
	}
	for rule, n := range used {
		if n < 5 {
			t.Error("rule", rule, "was used only", n, "times")
		}
	}
}

// checkLess: a step leads to something less, that uses nothing new.
func checkLess(t *testing.T, p, q api.Pattern, s Step) {
	a, held := leaves(p.Re)
	b, held2 := leaves(q.Re)
	n, m := ast.Size(p.Re), ast.Size(q.Re)
	if !(b < a || b == a && m < n || s.Rule == 12 && b == a && m == n && held2 == held+1) {
		t.Fatalf("rule %d: not less", s.Rule)
	}
	if ast.Uses(q.Re)&^(ast.Uses(p.Re)|ast.Atoms) != 0 || ast.Nullable(p.Re) != ast.Nullable(q.Re) {
		t.Fatalf("rule %d: the tree uses something new", s.Rule)
	}
	for _, k := range ast.Numbers(q.Re) {
		if !slices.Contains(ast.Numbers(p.Re), k) {
			t.Fatal("a new capture")
		}
	}
}

// checkExchange exchanges two steps at parts neither of which contains the other.
func checkExchange(t *testing.T, r *sample.Rand, p api.Pattern, steps []Step) {
	a, b := steps[r.Int(len(steps))], steps[r.Int(len(steps))]
	n := min(len(a.Path), len(b.Path))
	if slices.Equal(a.Path[:n], b.Path[:n]) {
		return
	}
	x, err := Replay(p, []Step{a, b})
	y, err2 := Replay(p, []Step{b, a})
	if err+err2 == api.OK && ast.Compare(x.Re, y.Re) != 0 {
		t.Fatal("steps cannot be exchanged")
	}
}

func TestStepsAndReplay(t *testing.T) {
	p := parse(t, "(?:ab|ac)*d")
	l, err := Steps(p)
	if err != api.OK || len(l) != 1 || l[0].Rule != 4 || !slices.Equal(l[0].Path, []int{0, 0}) {
		t.Fatal(l)
	}
	q, err := Replay(p, []Step{{4, []int{0, 0}}, {6, []int{0, 0, 1}}})
	if s, _ := syntax.Print(q); s != "(?:a[b-c])*d" || err != api.OK {
		t.Error(s, err)
	}
	for i, c := range []struct {
		p    api.Pattern
		s    Step
		want api.Errno
	}{
		{api.Pattern{Caps: 10}, Step{Rule: -1}, api.ErrArg}, {p, Step{-1, []int{9}}, api.ErrRange}, {p, Step{17, []int{9}}, api.ErrRange}, {p, Step{0, []int{9}}, api.ErrNone}, {p, Step{0, []int{-1}}, api.ErrNone}, {p, Step{0, nil}, api.ErrKind},
	} {
		x, err := At(c.p, c.s)
		y, err2 := Replay(c.p, []Step{c.s})
		if err != c.want || err2 != c.want || ast.Compare(x.Re, api.Re{}) != 0 || ast.Compare(y.Re, api.Re{}) != 0 {
			t.Errorf("case %d: %d %d", i, err, err2)
		}
	}
	if _, err := Steps(api.Pattern{Caps: 10}); err != api.ErrArg {
		t.Error("Steps")
	}
	if _, err := Replay(api.Pattern{Caps: 10}, nil); err != api.ErrArg {
		t.Error("Replay")
	}
	if q, err := Replay(p, nil); err != api.OK || ast.Compare(q.Re, p.Re) != 0 {
		t.Error("Replay of nothing")
	}
	// tail adds a level to the kids that are left, so a tree as deep as allowed cannot be rewritten.
	deep := api.Re{Op: api.OpEmpty}
	for range 21 {
		deep = api.Re{Op: api.OpCap, N: 1, Kids: []api.Re{deep}}
	}
	x := parse(t, "(?#1)(?:bcd)|(?:cd)")
	x.Re.Kids[0].Kids[0], x.Re.Kids[0].Kids[1] = deep, api.Re{}
	if ast.Valid(x) != api.OK || ast.Depth(x.Re) != 24 {
		t.Fatal(ast.Depth(x.Re))
	}
	if q, err := At(x, Step{Rule: 5}); err != api.ErrLimit || ast.Compare(q.Re, api.Re{}) != 0 {
		t.Error("a result that is too deep", err)
	}
	if l, err := Steps(x); err != api.OK || slices.ContainsFunc(l, func(s Step) bool { return s.Rule == 5 }) {
		t.Error("a step to a result that is too deep", l)
	}
}

func TestSame(t *testing.T) {
	for _, c := range []struct {
		p, q, s string
		fuel    int
		same    bool
		err     api.Errno
	}{
		{"a|a", "a", "aa", 99, true, api.OK}, {"a|ab", "ab|a", "ab", 99, false, api.OK}, {"a|ab|a", "a|ab", "ab", 99, true, api.OK}, {"(a)|a", "(a)|(?<1>a)", "a", 99, false, api.OK}, {"a|a", "a", "a", 2, false, api.ErrFuel}, {"", "(?:)", "a", 9, true, api.OK},
	} {
		same, err := Same(parse(t, c.p), parse(t, c.q), symbols(c.s), c.fuel)
		if same != c.same || err != c.err {
			t.Errorf("%s %s: %v %d", c.p, c.q, same, err)
		}
	}
	bad := api.Pattern{Caps: 10}
	if _, err := Same(parse(t, "a"), bad, nil, 9); err != api.ErrArg {
		t.Error("Same: the error of sem.Same")
	}
	if _, err := sem.Same(bad, bad, nil, 9); err != api.ErrArg {
		t.Error("sem.Same")
	}
}

func TestEncode(t *testing.T) {
	l := []Step{{3, []int{0, 2}}, {-1, nil}, {99, []int{-5}}}
	b := Encode(l)
	if !bytes.Equal(b, []byte{6, 6, 2, 0, 4, 1, 0, 198, 1, 1, 9}) {
		t.Error(b)
	}
	got, err := Decode(b)
	if err != api.OK || !bytes.Equal(Encode(got), b) || len(got) != 3 {
		t.Error(got, err)
	}
	for _, c := range [][]byte{nil, b[:len(b)-1], append(b, 0), {1}, {255, 255, 255, 255, 255, 255, 255, 255, 255, 1}} {
		if l, err := Decode(c); err != api.ErrForm || l != nil {
			t.Error(c, err)
		}
	}
	if l, err := Decode([]byte{0}); err != api.OK || len(l) != 0 {
		t.Error("no steps")
	}
}
