package differ

import (
	"slices"
	"testing"

	"rexmill/api"
	"rexmill/rules"
	"rexmill/sample"
	"rexmill/sem"
	"rexmill/syntax"
)

func parse(t *testing.T, s string) api.Pattern {
	p, _, err := syntax.Parse(s, syntax.Flags{})
	if err != api.OK {
		t.Fatal(s, err)
	}
	return p
}

func TestAlphabet(t *testing.T) {
	runes := func(s string) api.Pattern {
		p := parse(t, s)
		p.Runes = true
		return p
	}
	for i, c := range []struct {
		l    []api.Pattern
		want []int
		err  api.Errno
	}{
		{nil, []int{0}, api.OK}, {[]api.Pattern{parse(t, "[a-c]b")}, []int{0, 97, 98}, api.OK}, {[]api.Pattern{parse(t, "a"), parse(t, "[ab]")}, []int{0, 97, 98}, api.OK}, {[]api.Pattern{parse(t, `(a)\1`)}, []int{0, 1, 97}, api.OK}, {[]api.Pattern{parse(t, `([ac])\1`), parse(t, "")}, []int{0, 1, 97, 99}, api.OK}, {[]api.Pattern{parse(t, "^a")}, []int{0, 10, 48, 97}, api.OK}, {[]api.Pattern{parse(t, `[\x00-\xff]`)}, []int{0}, api.OK}, {[]api.Pattern{runes("a"), runes(`\b`)}, []int{0, 10, 48, 97}, api.OK}, {[]api.Pattern{parse(t, `(?#1)\1[\x00\x05]`)}, []int{0, 1, 2, 5}, api.OK},
		{[]api.Pattern{runes("a"), parse(t, "a"), {Caps: 10}}, nil, api.ErrArg}, {[]api.Pattern{runes("a"), parse(t, "a")}, nil, api.ErrArg}, {[]api.Pattern{runes("a"), parse(t, "a"), {Re: api.Re{Op: api.OpCat, Kids: make([]api.Re, 256)}}}, nil, api.ErrLimit},
	} {
		got, err := Alphabet(c.l)
		if err != c.err || !slices.Equal(got, c.want) {
			t.Errorf("case %d: %v, %d", i, got, err)
		}
	}
	comb := api.Re{Op: api.OpSet}
	for i := range 64 {
		comb.Set = append(comb.Set, api.Span{Lo: 2*i + 1, Hi: 2*i + 1})
	}
	if _, err := Alphabet([]api.Pattern{{Re: comb}}); err != api.ErrLimit {
		t.Error("the error of Split")
	}
}

func TestTexts(t *testing.T) {
	got, err := Texts([]int{3, 7}, 2)
	want := [][]int{nil, {3}, {7}, {3, 3}, {3, 7}, {7, 3}, {7, 7}}
	if err != api.OK || !slices.EqualFunc(got, want, slices.Equal[[]int]) {
		t.Error(got, err)
	}
	for i, c := range []struct {
		alphabet []int
		length   int
		n        int
		want     api.Errno
	}{
		{nil, 16, 1, api.OK}, {[]int{5}, 16, 17, api.OK}, {[]int{5}, 17, 0, api.ErrArg}, {[]int{5}, -1, 0, api.ErrArg}, {[]int{5, 5}, 1, 0, api.ErrArg}, {[]int{-5, 5, 4}, 1, 0, api.ErrArg}, {[]int{-5, 5}, 15, 65535, api.OK}, {[]int{-5, 5}, 16, 0, api.ErrLimit}, {make([]int, 300), 9, 0, api.ErrArg}, {[]int{1, 2, 3}, 0, 1, api.OK},
	} {
		l, err := Texts(c.alphabet, c.length)
		if err != c.want || len(l) != c.n {
			t.Errorf("case %d: %d texts, %d", i, len(l), err)
		}
	}
	wide := make([]int, 65536)
	for i := range wide {
		wide[i] = i
	}
	if _, err := Texts(wide, 1); err != api.ErrLimit {
		t.Error("65537 texts")
	}
	if l, err := Texts(wide[1:], 1); err != api.OK || len(l) != 65536 {
		t.Error("65536 texts")
	}
}

func TestShortest(t *testing.T) {
	for _, c := range []struct {
		p, q   string
		length int
		want   []int
		found  bool
		err    api.Errno
	}{
		{"a*", "a+", 3, nil, true, api.OK}, {"a|ab", "ab|a", 3, []int{'a', 'b'}, true, api.OK}, {"a|ab", "ab|a", 1, nil, false, api.OK}, {"a|b", "[ab]", 4, nil, false, api.OK}, {"(a)", "(?#1)a", 2, []int{'a'}, true, api.OK}, {"(?:a|b)c", "[ab]c|d", 2, []int{'d'}, true, api.OK}, {`([^a])\1`, `([^a])[^a]`, 2, []int{0, 1}, true, api.OK}, {"^a", "a", 2, []int{0, 'a'}, true, api.OK}, {"a", "a", -1, nil, false, api.ErrArg}, {"[abc]", "[cd]", 16, nil, false, api.ErrLimit}, {"(?:a|a)*", "b", 9, nil, true, api.OK},
	} {
		p, q := parse(t, c.p), parse(t, c.q)
		got, found, err := Shortest(p, q, c.length, 1000)
		back, found2, err2 := Shortest(q, p, c.length, 1000)
		if err != c.err || found != c.found || !slices.Equal(got, c.want) || found2 != found || err2 != err || !slices.Equal(back, got) {
			t.Errorf("%s %s: %v %v %d", c.p, c.q, got, found, err)
		}
	}
	bad := api.Pattern{Caps: 10}
	if _, _, err := Shortest(parse(t, "a"), bad, -1, -1); err != api.ErrArg {
		t.Error("the error of Alphabet")
	}
	if _, _, err := Shortest(parse(t, "a"), parse(t, "a"), 2, -1); err != api.ErrArg {
		t.Error("the error of Same")
	}
	if _, _, err := Shortest(parse(t, "a*"), parse(t, "a{0,}"), 9, 8); err != api.ErrFuel {
		t.Error("too little fuel", err)
	}
	if l, found, err := Shortest(parse(t, "a*"), parse(t, "a{0,2}"), 9, 9); !found || len(l) != 3 || err != api.OK {
		t.Error("the result comes before the error", l, err)
	}
}

func TestExplain(t *testing.T) {
	p, q := parse(t, "a|ab"), parse(t, "ab|a")
	x, err := Explain(p, q, []int{'b', 'a', 'b', 'a', 'b'}, 99)
	if err != api.OK || x.At != 1 || len(x.P) != 2 || len(x.Q) != 2 || x.P[0].End != 2 || x.Q[0].End != 3 || Check(p, q, x, 99) != api.OK {
		t.Error(x, err)
	}
	if y, err := Explain(p, q, []int{'a'}, 99); err != api.ErrNone || y.Text != nil {
		t.Error("no difference", err)
	}
	if _, err := Explain(p, q, []int{'a', 'b'}, 2); err != api.ErrFuel {
		t.Error("too little fuel")
	}
	if _, err := Explain(p, q, []int{256}, 2); err != api.ErrArg {
		t.Error("a text that is not valid")
	}
	for i, change := range []func(x *Proof){
		func(x *Proof) { x.At = 0 }, func(x *Proof) { x.P = x.P[:1] }, func(x *Proof) { x.Q = nil }, func(x *Proof) { x.Text = x.Text[:2] }, func(x *Proof) { x.P = []api.Match{x.P[1], x.P[0]} }, func(x *Proof) { x.Text = append([]int{'a'}, x.Text...) },
	} {
		y := x
		change(&y)
		if got := Check(p, q, y, 99); got != api.ErrProof {
			t.Error("change", i, got)
		}
	}
	if Check(p, q, x, 1) != api.ErrFuel || Check(p, q, Proof{Text: []int{-1}}, 1) != api.ErrArg || Check(q, p, x, 99) != api.ErrProof {
		t.Error("Check")
	}
	two, _ := Explain(parse(t, "a|a|b"), parse(t, "a"), []int{'a', 'b'}, 99)
	if two.At != 1 || len(two.P) != 1 || len(two.Q) != 0 {
		t.Error("equal matches count once", two)
	}
}

func TestProperties(t *testing.T) {
	r := sample.New(1)
	differences := 0
	for range 400 {
		p, q := r.Pattern(sample.All(), 4), r.Pattern(sample.All(), 4)
		q.Caps = p.Caps
		if steps, err := rules.Steps(p); err == api.OK && len(steps) > 0 {
			next, _ := rules.At(p, steps[r.Int(len(steps))])
			if _, found, err := Shortest(p, next, 2, 3000); found && err == api.OK {
				t.Fatal("a step leads to a difference")
			}
		}
		if _, found, err := Shortest(p, p, 2, 3000); found && err == api.OK {
			t.Fatal("a pattern differs from itself")
		}
		l, found, err := Shortest(p, q, 3, 3000)
		if err != api.OK || !found {
			continue
		}
		differences++
		x, err := Explain(p, q, l, 3000)
		if err != api.OK || Check(p, q, x, 3000) != api.OK {
			t.Fatal("no proof for a difference")
		}
		alphabet, _ := Alphabet([]api.Pattern{p, q})
		all, _ := Texts(alphabet, len(l))
		for _, text := range all {
			same, _ := rules.Same(p, q, text, 3000)
			if slices.Equal(text, l) {
				break
			}
			if !same {
				t.Fatal("a shorter difference")
			}
		}
	}
	if differences < 100 {
		t.Error("too few differences", differences)
	}
	shape := sample.All()
	shape.Refs = false
	for range 300 {
		p := r.Pattern(shape, 4)
		l := r.Text("abcd", 5)
		other := slices.Clone(l)
		for i, s := range other {
			if s == 'd' && !slices.ContainsFunc(symbolSets(p.Re), func(set []api.Span) bool {
				return slices.ContainsFunc(set, func(x api.Span) bool { return x.Hi == 'd' })
			}) {
				other[i] = 'e'
			}
		}
		x, err := sem.Every(p, l, 10000)
		y, err2 := sem.Every(p, other, 10000)
		if err+err2 == api.OK && !slices.EqualFunc(x, y, sem.Equal) {
			t.Fatal("symbols of the same class have other matches")
		}
	}
}
