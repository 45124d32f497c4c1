package deriv

import (
	"reflect"
	"slices"
	"testing"

	"rexmill/api"
	"rexmill/ast"
	"rexmill/auto"
	"rexmill/sample"
	"rexmill/sem"
	"rexmill/syntax"
)

func parse(t *testing.T, s string) api.Pattern {
	p, _, err := syntax.Parse(s, syntax.Flags{})
	if err != api.OK {
		t.Fatal(s, err)
	}
	return p
}

// shown returns the text of a tree.
func shown(re api.Re) string {
	s, _ := syntax.Print(api.Pattern{Re: re, Caps: api.MaxCaps, Runes: true})
	return s[len("(?#9)"):]
}

func TestSimple(t *testing.T) {
	for _, c := range [][2]string{
		{"", ""}, {"a", "a"}, {"(a)", "a"}, {"a(b(?:cd))", "abcd"}, {"a(?:)b", "ab"}, {"(?:)(?:)", ""}, {"a[]b", "[]"}, {"a(?:)", "a"}, {"a|b", "[a-b]"}, {"b|[]|a", "[a-b]"}, {"[]|[]", "[]"}, {"ab|c|(?:ab|a)", "[ac]|ab"}, {"ab|[]", "ab"}, {"|a", "|a"}, {"a|", "|a"}, {"ac|ab", "ab|ac"},
		{"(?:)*", ""}, {"[]*", ""}, {"[]+", "[]"}, {"[]{0,3}", ""}, {"a{1}", "a"}, {"(?:a*){2,5}", "a*"}, {"(?:a*?)+", "a*"}, {"a*?", "a*"}, {"(?:a+)*", "(?:a+)*"}, {"(?:a*){1}", "a*"}, {"(?:a?)*", "(?:a?)*"}, {"(?:[]|(?:))?", ""}, {"a{2,3}?", "a{2,3}"},
	} {
		p := parse(t, c[0])
		kept := ast.Encode(p)
		got, err := Simple(p.Re)
		if err != api.OK || shown(got) != c[1] {
			t.Errorf("%s: %s, %d", c[0], shown(got), err)
		}
		if !slices.Equal(ast.Encode(p), kept) {
			t.Error("the tree changed")
		}
	}
}

func TestStep(t *testing.T) {
	for _, c := range []struct {
		s      string
		symbol int
		want   string
	}{
		{"a*b", 'a', "a*b"}, {"a*b", 'b', ""}, {"a*b", 'c', "[]"}, {"(a|b)c", 'b', "c"}, {"a{2,3}", 'a', "a{1,2}"}, {"a{1,1}", 'a', ""}, {"a{2,}", 'a', "a+"}, {"a+", 'a', "a*"}, {"a?b?c", 'c', ""}, {"a?ab", 'a', "b|ab"}, {"", 'a', "[]"}, {"(?:ab)*?", 'a', "b(?:ab)*"}, {"(?:a|ab)(?:c|)", 'a', "(?:|b)(?:|c)"}, {"a{0,1}b", 'a', "b"}, {"a{0,2}", 'a', "a?"},
	} {
		got, err := Step(parse(t, c.s).Re, c.symbol)
		if err != api.OK || shown(got) != c.want {
			t.Errorf("%s by %c: %s, %d", c.s, c.symbol, shown(got), err)
		}
	}
}

func TestAutoExample(t *testing.T) {
	a, err := Auto(parse(t, "a*b"))
	if err != api.OK || !reflect.DeepEqual(a.Next, [][]int{{1, 0, 2}, {1, 1, 1}, {1, 1, 1}}) || !slices.Equal(a.Accept, []bool{false, false, true}) || len(a.Classes) != 3 {
		t.Error(a, err)
	}
}

func TestLanguages(t *testing.T) {
	r := sample.New(1)
	for range 800 {
		p := r.Pattern(sample.Shape{Caps: true, Loops: r.Int(2) == 0}, 2+r.Int(4))
		p.Runes = r.Int(4) == 0
		simple, err := Simple(p.Re)
		again, err2 := Simple(simple)
		if err+err2 != api.OK || ast.Compare(simple, again) != 0 {
			t.Fatalf("the normal form of %v", p)
		}
		checkForm(t, simple)
		a, err := Auto(p)
		if err != api.OK {
			continue
		}
		if auto.Valid(a) != api.OK {
			t.Fatal("Auto is not valid")
		}
		for range 8 {
			l := r.Text("abcd", 6)
			found, _, err := sem.All(p, l, 0, 100000, 500000)
			if err != api.OK {
				continue
			}
			want := slices.ContainsFunc(found, func(m api.Match) bool { return m.End == len(l) })
			whole, err := Whole(p, l)
			accepted, _ := auto.Accepts(a, l)
			if err != api.OK || whole != want || accepted != want {
				t.Fatalf("%v on %v: %v %v", p, l, whole, accepted)
			}
			normal, _ := Whole(api.Pattern{Re: simple, Caps: p.Caps, Runes: p.Runes}, l)
			if normal != want {
				t.Fatal("the normal form has other texts")
			}
			if len(l) > 0 {
				rest, err := Step(p.Re, l[0])
				is, _ := Whole(api.Pattern{Re: rest, Runes: p.Runes}, l[1:])
				if err != api.OK || is != want {
					t.Fatal("the derivative has other texts")
				}
			}
		}
		if of, err := auto.Of(p); err == api.OK {
			if least, _ := auto.Minimal(a); !auto.Equal(least, of) {
				t.Fatalf("%v: not the automaton of its threads", p)
			}
		}
		if l, found, _ := auto.Shortest(a); found {
			if whole, _ := Whole(p, l); !whole {
				t.Fatal("the shortest text is not matched")
			}
		}
	}
}

// checkForm looks for parts that are not in normal form.
func checkForm(t *testing.T, re api.Re) {
	for i, kid := range re.Kids {
		checkForm(t, kid)
		if kid.Op == re.Op && re.Op != api.OpRep || kid.Op == api.OpEmpty && re.Op == api.OpCat || re.Op == api.OpAlt && i > 0 && ast.Compare(re.Kids[i-1], kid) >= 0 || isNothing(kid) {
			t.Fatal("not in normal form", re)
		}
	}
	if re.Op == api.OpCap || re.Mode != api.Greedy {
		t.Fatal("not in normal form", re)
	}
}

func TestErrors(t *testing.T) {
	comb := func(from int) api.Re {
		re := api.Re{Op: api.OpSet}
		for i := range 64 {
			re.Set = append(re.Set, api.Span{Lo: from + 4*i, Hi: from + 4*i})
		}
		return re
	}
	both := api.Re{Op: api.OpAlt, Kids: []api.Re{comb(0), comb(2)}}
	hidden := api.Re{Op: api.OpCat, Kids: []api.Re{both, nothing()}}
	late := api.Re{Op: api.OpAlt, Kids: []api.Re{{Op: api.OpCat, Kids: []api.Re{parse(t, "a").Re, comb(0)}}, {Op: api.OpCat, Kids: []api.Re{parse(t, "a").Re, comb(2)}}}}
	filled := api.Re{Op: api.OpAlt, Kids: []api.Re{comb(0), comb(2), {Op: api.OpSet, Set: []api.Span{{Lo: 1, Hi: 300}}}}}
	deep := api.Re{}
	for range 24 {
		deep = api.Re{Op: api.OpCap, N: 1, Kids: []api.Re{deep}}
	}
	for i, c := range []struct {
		re         api.Re
		simple     api.Errno
		step       api.Errno
		whole      api.Errno
		automatons api.Errno
	}{
		{deep, api.ErrLimit, api.ErrLimit, api.ErrLimit, api.ErrLimit}, {api.Re{Op: api.OpCap, N: 10, Kids: []api.Re{{}}}, api.ErrArg, api.ErrArg, api.ErrArg, api.ErrArg},
		{parse(t, "(?=a)").Re, api.ErrKind, api.ErrKind, api.ErrKind, api.ErrKind}, {parse(t, "a*+").Re, api.ErrKind, api.ErrKind, api.ErrKind, api.ErrKind}, {parse(t, `a\b`).Re, api.ErrKind, api.ErrKind, api.ErrKind, api.ErrKind}, {parse(t, "(?>a)").Re, api.ErrKind, api.ErrKind, api.ErrKind, api.ErrKind},
		{both, api.ErrLimit, api.OK, api.ErrLimit, api.ErrLimit}, {hidden, api.ErrLimit, api.OK, api.ErrLimit, api.ErrLimit}, {late, api.OK, api.ErrLimit, api.ErrLimit, api.ErrLimit}, {filled, api.OK, api.OK, api.OK, api.ErrLimit},
	} {
		p := widest(c.re)
		re, err := Simple(c.re)
		if err != c.simple || err != api.OK && ast.Compare(re, api.Re{}) != 0 {
			t.Errorf("case %d: Simple returns %d", i, err)
		}
		re, err = Step(c.re, 'a')
		if err != c.step || err != api.OK && ast.Compare(re, api.Re{}) != 0 {
			t.Errorf("case %d: Step returns %d", i, err)
		}
		if is, err := Whole(p, []int{'a'}); err != c.whole || err != api.OK && is {
			t.Errorf("case %d: Whole returns %d", i, err)
		}
		if a, err := Auto(p); err != c.automatons || err != api.OK && a.Next != nil {
			t.Errorf("case %d: Auto returns %d", i, err)
		}
	}
	a := parse(t, "a")
	for i, c := range []struct {
		p    api.Pattern
		l    []int
		want api.Errno
	}{{a, append(make([]int, api.MaxText), 300), api.ErrLimit}, {a, []int{256}, api.ErrRange}, {a, []int{-1}, api.ErrRange}, {api.Pattern{Re: a.Re, Runes: true}, []int{256}, api.OK}, {api.Pattern{Re: a.Re, Runes: true}, []int{api.MaxSymbol + 1}, api.ErrRange}} {
		if _, err := Whole(c.p, c.l); err != c.want {
			t.Errorf("Whole %d: %d", i, err)
		}
	}
	for _, symbol := range []int{-1, api.MaxSymbol + 1} {
		if _, err := Step(a.Re, symbol); err != api.ErrRange {
			t.Error("Step by", symbol)
		}
	}
	if _, err := Step(parse(t, "a*+").Re, -1); err != api.ErrKind {
		t.Error("ErrKind comes before ErrRange")
	}
	if _, err := Auto(parse(t, "(?:a|b)*a(?:a|b){12}")); err != api.ErrLimit {
		t.Error("too many states")
	}
	long := make([]api.Re, 30)
	for i := range long {
		long[i] = parse(t, "[ab]?c").Re
		long[i].Kids[1] = parse(t, "(?:c|d|ee)?").Re
	}
	if _, err := Step(api.Re{Op: api.OpCat, Kids: long}, 'a'); err != api.ErrLimit {
		t.Error("a derivative with too many nodes", err)
	}
}
