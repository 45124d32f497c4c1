package syntax

import (
	"slices"
	"strings"
	"testing"

	"rexmill/api"
	"rexmill/ast"
	"rexmill/sample"
)

func set2(n ...int) api.Re {
	re := api.Re{Op: api.OpSet}
	for i := 0; i+1 < len(n); i += 2 {
		re.Set = append(re.Set, api.Span{Lo: n[i], Hi: n[i+1]})
	}
	return re
}

func sym(c int) api.Re { return set2(c, c) }

func node(op int, kids ...api.Re) api.Re { return api.Re{Op: op, Kids: kids} }

func num(op, n int, kids ...api.Re) api.Re { return api.Re{Op: op, N: n, Kids: kids} }

func rep(least, most, mode int, kid api.Re) api.Re {
	return api.Re{Op: api.OpRep, Min: least, Max: most, Mode: mode, Kids: []api.Re{kid}}
}

func neg(op int, kid api.Re) api.Re { return api.Re{Op: op, Neg: true, Kids: []api.Re{kid}} }

func TestMeaning(t *testing.T) {
	a, b, e := sym('a'), sym('b'), api.Re{}
	cat := func(l ...api.Re) api.Re { return node(api.OpCat, l...) }
	alt := func(l ...api.Re) api.Re { return node(api.OpAlt, l...) }
	digits := set2('0', '9')
	for _, c := range []struct {
		s    string
		f    Flags
		re   api.Re
		caps int
	}{
		{"", Flags{}, e, 0}, {"a", Flags{}, a, 0}, {"ab", Flags{}, cat(a, b), 0}, {"a|b|", Flags{}, alt(a, b, e), 0}, {"(?:ab)", Flags{}, cat(a, b), 0}, {"(?:)a", Flags{}, cat(e, a), 0},
		{"a*", Flags{}, rep(0, -1, 0, a), 0}, {"a+?", Flags{}, rep(1, -1, 1, a), 0}, {"a?+", Flags{}, rep(0, 1, 2, a), 0}, {"a{2}", Flags{}, rep(2, 2, 0, a), 0}, {"a{2,}?", Flags{}, rep(2, -1, 1, a), 0},
		{"a{02,32}+", Flags{}, rep(2, 32, 2, a), 0}, {"a{0,}", Flags{}, rep(0, -1, 0, a), 0}, {"^*", Flags{}, rep(0, -1, 0, num(api.OpAssert, 0)), 0}, {"(?:a*)*", Flags{}, rep(0, -1, 0, rep(0, -1, 0, a)), 0},
		{`a(b|c)*?\1`, Flags{}, cat(a, rep(0, -1, 1, num(api.OpCap, 1, alt(b, sym('c')))), num(api.OpRef, 1)), 1},
		{`\n\r\t\x41\u{0000fF}\.\_`, Flags{}, cat(sym(10), sym(13), sym(9), sym(65), sym(255), sym('.'), sym('_')), 0},
		{`\u{10ffff}`, Flags{Runes: true}, sym(api.MaxSymbol), 0}, {"ä", Flags{Runes: true}, sym(228), 0}, {"ä", Flags{}, cat(sym(195), sym(164)), 0},
		{".", Flags{}, set2(0, 9, 11, 255), 0}, {".", Flags{Dot: true, Runes: true}, set2(0, api.MaxSymbol), 0}, {`\d`, Flags{}, digits, 0}, {`\D`, Flags{}, set2(0, 47, 58, 255), 0},
		{`\w`, Flags{}, set2('0', '9', 'A', 'Z', '_', '_', 'a', 'z'), 0}, {`\s`, Flags{Fold: true}, set2(9, 13, 32, 32), 0}, {`\S`, Flags{Runes: true}, set2(0, 8, 14, 31, 33, api.MaxSymbol), 0}, {`\W`, Flags{}, set2(0, 47, 58, 64, 91, 94, 96, 96, 123, 255), 0},
		{"[]", Flags{}, set2(), 0}, {"[^]", Flags{}, set2(0, 255), 0}, {`[a-cx\d\-.|*]`, Flags{}, set2('*', '*', '-', '.', '0', '9', 'a', 'c', 'x', 'x', '|', '|'), 0}, {`[^\D]`, Flags{}, digits, 0},
		{"a", Flags{Fold: true}, set2('A', 'A', 'a', 'a'), 0}, {"[^b-c]", Flags{Fold: true}, set2(0, 65, 68, 97, 100, 255), 0}, {`\x41`, Flags{Fold: true}, set2('A', 'A', 'a', 'a'), 0}, {`[\x41-\x42]`, Flags{}, set2(65, 66), 0},
		{"^$", Flags{}, cat(num(api.OpAssert, 0), num(api.OpAssert, 1)), 0}, {"^$", Flags{Multi: true}, cat(num(api.OpAssert, 2), num(api.OpAssert, 3)), 0}, {`\A\z\b\B`, Flags{Multi: true}, cat(num(api.OpAssert, 0), num(api.OpAssert, 1), num(api.OpAssert, 4), num(api.OpAssert, 5)), 0},
		{"(?>a)(?=a)(?!a)(?<=a)(?<!a)", Flags{}, cat(node(api.OpAtom, a), node(api.OpAhead, a), neg(api.OpAhead, a), node(api.OpBehind, a), neg(api.OpBehind, a)), 0},
		{"(?<3>a)(?(3)|b)(b)", Flags{}, cat(num(api.OpCap, 3, a), num(api.OpCond, 3, e, b), num(api.OpCap, 4, b)), 4}, {"((a)(b))", Flags{}, num(api.OpCap, 1, cat(num(api.OpCap, 2, a), num(api.OpCap, 3, b))), 3},
		{"(?#7)(a)", Flags{}, num(api.OpCap, 1, a), 7}, {"(?#1)(?<3>a)", Flags{}, num(api.OpCap, 3, a), 3}, {`\2(a)(b)`, Flags{}, cat(num(api.OpRef, 2), num(api.OpCap, 1, a), num(api.OpCap, 2, b)), 2},
		{"(?i:a(?-i:a)a)a", Flags{}, cat(cat(set2('A', 'A', 'a', 'a'), a, set2('A', 'A', 'a', 'a')), a), 0}, {"(?s-im:.^a)", Flags{Fold: true, Multi: true}, cat(set2(0, 255), num(api.OpAssert, 0), a), 0}, {"(?i-i:a)", Flags{}, a, 0}, {"(?iism:^)", Flags{}, num(api.OpAssert, 2), 0},
		{"(?#9)", Flags{}, e, 9}, {"(?<5>(a))", Flags{}, num(api.OpCap, 5, num(api.OpCap, 6, a)), 6},
	} {
		p, offset, err := Parse(c.s, c.f)
		if err != api.OK || offset != 0 || ast.Compare(p.Re, c.re) != 0 || p.Caps != c.caps || p.Runes != c.f.Runes {
			t.Errorf("%q %v: %v, %d captures, %d at %d", c.s, c.f, p.Re, p.Caps, err, offset)
		}
	}
}

func TestForm(t *testing.T) {
	for _, c := range []struct {
		s      string
		offset int
	}{
		{"a)", 1}, {"(a", 2}, {"*", 0}, {"a**", 2}, {"a*?+", 3}, {"a*??", 3}, {"|*", 1}, {"(*a)", 1}, {"a{", 2}, {"a{x}", 2}, {"a{1", 3}, {"a{123}", 4}, {"a{1,", 4}, {"a{1,234}", 6}, {"a{,3}", 2}, {"{", 0}, {"}", 0}, {"]", 0}, {"a}", 1},
		{"[", 1}, {"[a", 2}, {"[^^]", 2}, {"[-a]", 1}, {"[a-]", 3}, {"[a-b-c]", 4}, {`[\d-a]`, 3}, {`[a-\d]`, 4}, {`[a-\`, 4}, {`[\b]`, 2}, {"[[]", 1}, {`[\1]`, 2}, {`[\A]`, 2}, {"[a-^]", 3},
		{`\`, 1}, {`\0`, 1}, {`\q`, 1}, {`\ `, 1}, {`\x`, 2}, {`\xg`, 2}, {`\x1`, 3}, {`\x1g`, 3}, {`\u1`, 2}, {`\u{`, 3}, {`\u{}`, 3}, {`\u{1234567}`, 9}, {`\u{12g}`, 5}, {`\u{12`, 5}, {`\Z`, 1},
		{"(?", 2}, {"(?a)", 2}, {"(?#1)", -1}, {"a(?#1)", 3}, {"(?#0)", 3}, {"(?#12)", 4}, {"(?#", 3}, {"(?#1", 4}, {"(?:(?#1))", 5}, {"(?<", 3}, {"(?<0>a)", 3}, {"(?<12>a)", 4}, {"(?<a>a)", 3}, {"(?<1", 4}, {"(?<=a", 5}, {"(?(", 3}, {"(?(1", 4}, {"(?(1)a)", 6}, {"(?(1)a|b|c)", 8}, {"(?(1)a|b", 8}, {"(?(x)a|b)", 3},
		{"(?i)", 3}, {"(?-:a)", 3}, {"(?i-:a)", 4}, {"(?i--s:a)", 4}, {"(?ix:a)", 3}, {"(?i", 3}, {"(?-", 3}, {"(?:a", 4}, {"(?P<1>a)", 2}, {"a|)", 2}, {"()(", 3},
	} {
		_, offset, err := Parse(c.s, Flags{})
		if c.offset < 0 && err == api.ErrForm || c.offset >= 0 && (err != api.ErrForm || offset != c.offset) {
			t.Errorf("%q: %d at %d, want %d", c.s, err, offset, c.offset)
		}
	}
	if _, offset, err := Parse("ää)", Flags{Runes: true}); err != api.ErrForm || offset != 4 {
		t.Error("offsets count bytes")
	}
}

func TestOtherErrors(t *testing.T) {
	evens := ""
	for i := 0; i < 130; i += 2 {
		evens += symbolText(i)
	}
	upper := "ACEGIKMOQSUWY"
	far := ""
	for i := range 40 {
		far += symbolText(300 + 2*i)
	}
	for i, c := range []struct {
		s      string
		runes  bool
		offset int
		want   api.Errno
	}{
		{strings.Repeat("a", 2049), false, 0, api.ErrLimit}, {strings.Repeat("(", 2049), false, 0, api.ErrLimit}, {strings.Repeat("\xff", 2049), true, 0, api.ErrLimit},
		{"a\xc3", true, 1, api.ErrUtf}, {")\xc3\xa4\xe2\x82a", true, 3, api.ErrUtf}, {"\xed\xa0\x80", true, 0, api.ErrUtf}, {"\xff", false, 0, api.OK},
		{"a{2,1}", false, 1, api.ErrRange}, {"a{0}", false, 1, api.ErrRange}, {"a{0,0}", false, 1, api.ErrRange}, {"a{33}", false, 1, api.ErrLimit}, {"a{33,2}", false, 1, api.ErrLimit}, {"a{2,99}", false, 1, api.ErrLimit}, {"a{32,}", false, 0, api.OK}, {"a{33,}", false, 1, api.ErrLimit},
		{`a\u{100}`, false, 1, api.ErrRange}, {`a\u{110000}`, true, 1, api.ErrRange}, {`[b\u{100}]`, false, 2, api.ErrRange}, {`[a-\u{100}]`, false, 3, api.ErrRange}, {"[xb-a]", false, 2, api.ErrRange}, {`[\x62-a]`, false, 1, api.ErrRange}, {`[\u{200}-a]`, false, 1, api.ErrRange}, {`\u{ffffff}`, true, 0, api.ErrRange}, {`[\u{ffffff}]`, true, 1, api.ErrRange},
		{"x[" + evens + "]", false, 1, api.ErrLimit}, {"x[^" + evens[4:] + "]", false, 1, api.ErrLimit}, {"x[" + evens[4:] + "]", false, 0, api.OK}, {"[" + far + upper + "]", true, 0, api.OK}, {"a(?i:[" + far + upper + "])", true, 5, api.ErrLimit},
		{strings.Repeat("(a)", 9), false, 0, api.OK}, {strings.Repeat("(a)", 10), false, 27, api.ErrLimit}, {strings.Repeat("(a)", 11), false, 27, api.ErrLimit}, {"(?<9>a)(b)", false, 7, api.ErrLimit},
		{`\2(a)`, false, 0, api.ErrName}, {`(a)\2`, false, 3, api.ErrName}, {"(?(1)a|b)", false, 0, api.ErrName}, {"(?#2)(?(2)a|b)", false, 0, api.OK}, {`(?(2)\3(a)|b{0})`, false, 0, api.ErrName}, {`a{0}\1`, false, 1, api.ErrRange}, {`\1a{0}`, false, 0, api.ErrName},
		{`a{40}b{0})`, false, 9, api.ErrForm}, {strings.Repeat("(?>", 24) + strings.Repeat(")", 24), false, 0, api.ErrLimit}, {strings.Repeat("a", 256), false, 0, api.ErrLimit}, {strings.Repeat("a", 255), false, 0, api.OK},
	} {
		p, offset, err := Parse(c.s, Flags{Runes: c.runes})
		if err != c.want || offset != c.offset || err != api.OK && ast.Compare(p.Re, api.Re{}) != 0 {
			t.Errorf("case %d %.60q: %d at %d", i, c.s, err, offset)
		}
	}
	if _, _, err := Parse(strings.Repeat("(?:", 500)+strings.Repeat(")", 500), Flags{}); err != api.OK {
		t.Error("groups that leave no nodes")
	}
}

func TestPrint(t *testing.T) {
	a := sym('a')
	for _, c := range []struct {
		p    api.Pattern
		want string
	}{
		{api.Pattern{}, ""}, {api.Pattern{Caps: 3}, "(?#3)"}, {api.Pattern{Re: num(api.OpCap, 1, a), Caps: 1}, "(?<1>a)"}, {api.Pattern{Re: num(api.OpCap, 1, a), Caps: 2}, "(?#2)(?<1>a)"},
		{api.Pattern{Re: set2()}, "[]"}, {api.Pattern{Re: set2('a', 'b', '-', '-')}, ""}, {api.Pattern{Re: set2('-', '-', 'a', 'b')}, `[\-a-b]`}, {api.Pattern{Re: set2(0, 255)}, `[\x00-\xff]`}, {api.Pattern{Re: sym(9)}, `\t`}, {api.Pattern{Re: sym(300), Runes: true}, `\u{12c}`}, {api.Pattern{Re: sym(' ')}, " "}, {api.Pattern{Re: sym('_')}, `\_`}, {api.Pattern{Re: sym(127)}, `\x7f`},
		{api.Pattern{Re: node(api.OpCat, api.Re{}, node(api.OpCat, a, a), node(api.OpAlt, a, api.Re{}))}, "(?:)(?:aa)(?:a|)"}, {api.Pattern{Re: node(api.OpAlt, node(api.OpCat, a, a), api.Re{}, node(api.OpAlt, a, a))}, "aa||(?:a|a)"},
		{api.Pattern{Re: rep(0, -1, 1, rep(1, 1, 2, api.Re{}))}, "(?:(?:){1}+)*?"}, {api.Pattern{Re: rep(2, -1, 0, num(api.OpCap, 1, node(api.OpAlt, a, a))), Caps: 1}, "(?<1>a|a){2,}"}, {api.Pattern{Re: rep(2, 5, 0, node(api.OpAtom, a))}, "(?>a){2,5}"}, {api.Pattern{Re: rep(1, -1, 0, a)}, "a+"}, {api.Pattern{Re: rep(0, 1, 2, a)}, "a?+"},
		{api.Pattern{Re: num(api.OpCond, 1, node(api.OpAlt, a, a), a), Caps: 1}, "(?#1)(?(1)(?:a|a)|a)"}, {api.Pattern{Re: node(api.OpCat, node(api.OpAhead, a), neg(api.OpAhead, a), node(api.OpBehind, a), neg(api.OpBehind, a))}, "(?=a)(?!a)(?<=a)(?<!a)"},
		{api.Pattern{Re: node(api.OpCat, num(api.OpAssert, 0), num(api.OpAssert, 1), num(api.OpAssert, 2), num(api.OpAssert, 3), num(api.OpAssert, 4), num(api.OpAssert, 5))}, `\A\z(?m:^)(?m:$)\b\B`}, {api.Pattern{Re: num(api.OpRef, 2), Caps: 2}, `(?#2)\2`},
	} {
		s, err := Print(c.p)
		if s != c.want || (err != api.OK) != (ast.Valid(c.p) != api.OK) {
			t.Errorf("got %q, %d, want %q", s, err, c.want)
		}
	}
	long := make([]api.Re, 255)
	for i := range long {
		long[i] = sym(100000 + i)
	}
	if s, err := Print(api.Pattern{Re: node(api.OpCat, long...), Runes: true}); err != api.ErrLimit || s != "" {
		t.Error("a text that is too long")
	}
	if _, err := Print(api.Pattern{Re: node(api.OpCat, long...)}); err != api.ErrArg {
		t.Error("the error of Valid comes first")
	}
}

func TestRoundTrip(t *testing.T) {
	r := sample.New(1)
	for range 3000 {
		p := r.Pattern(sample.All(), 6)
		p.Runes = r.Int(2) == 0
		s, err := Print(p)
		if err != api.OK {
			continue
		}
		got, _, err := Parse(s, Flags{Runes: p.Runes})
		if err != api.OK || ast.Compare(got.Re, p.Re) != 0 || got.Caps != p.Caps || got.Runes != p.Runes {
			t.Fatalf("%q is read as %v, %d", s, got, err)
		}
	}
}

func TestTextsAtRandom(t *testing.T) {
	r := sample.New(2)
	pieces := strings.Split("a b ( (?: (?# (?<1> (?( 1) | ) * + ? { { 1 2 , } [ ] - ^ $ . \\ \\d \\1 \\x4 \\u{ i: ä (?i: (?-s: (?= ?", " ")
	read := 0
	for range 12000 {
		s := ""
		for range 1 + r.Int(9) {
			s += pieces[r.Int(len(pieces))]
		}
		f := Flags{Fold: r.Int(2) == 0, Dot: r.Int(2) == 0, Multi: r.Int(2) == 0, Runes: r.Int(2) == 0}
		p, offset, err := Parse(s, f)
		switch {
		case err == api.OK:
			read++
			out, err := Print(p)
			again, _, err2 := Parse(out, Flags{Runes: f.Runes})
			if err+err2 != api.OK || ast.Compare(again.Re, p.Re) != 0 || again.Caps != p.Caps {
				t.Fatalf("%q is printed as %q", s, out)
			}
			checkFlags(t, s, p, f)
		case err == api.ErrForm && offset < len(s):
			checkOffset(t, s, offset, f)
		case err == api.ErrForm:
			if !completed(s, f) {
				t.Fatalf("%q is no beginning of a pattern text", s)
			}
		}
	}
	if read < 600 {
		t.Error("too few texts were read:", read)
	}
}

// checkFlags: a text in a group with flags is read as the text with these flags.
func checkFlags(t *testing.T, s string, p api.Pattern, f Flags) {
	if strings.HasPrefix(s, "(?#") {
		return
	}
	on, off := "", ""
	for i, b := range []bool{f.Fold, f.Dot, f.Multi} {
		if b {
			on += "ism"[i : i+1]
		} else {
			off += "ism"[i : i+1]
		}
	}
	head := on
	if off != "" {
		head += "-" + off
	}
	q, _, err := Parse("(?"+head+":"+s+")", Flags{Runes: f.Runes})
	if err != api.OK || ast.Compare(q.Re, p.Re) != 0 {
		t.Fatalf("%q in a group with the flags %q", s, head)
	}
}

// checkOffset: the text up to the offset can be completed, the next symbol cannot follow it, whatever comes later.
func checkOffset(t *testing.T, s string, offset int, f Flags) {
	if !completed(s[:offset], f) {
		t.Fatalf("%q: %q is no beginning", s, s[:offset])
	}
	next := offset + 1
	if f.Runes && s[offset] >= 128 {
		next++
	}
	for _, tail := range []string{"", ")", "]", "a)", "1)"} {
		if _, k, err := Parse(s[:next]+tail, f); err != api.ErrForm || k != offset {
			t.Fatalf("%q: %q goes on", s, s[:next]+tail)
		}
	}
}

// completed reports whether a text becomes one without ErrForm by some endings.
func completed(s string, f Flags) bool {
	heads := []string{"", "a", "]", "a]", "1}", "}", "1)|", "1)", ")|", "|", "=", "n", "n]", "1", "1>", ">", "11", "1]", "11]", "i:", ":", "}]", "1}]", "{1}", "{1}]", "#1)"}
	for _, h := range heads {
		for k := range 10 {
			for _, middle := range []string{")", "|)"} {
				for first := range min(k, 3) + 1 {
					tail := strings.Repeat(")", first) + strings.Repeat(middle, k-first)
					if _, _, err := Parse(s+h+tail, f); err != api.ErrForm {
						return true
					}
				}
			}
		}
	}
	return false
}

func TestQuote(t *testing.T) {
	if s, err := Quote([]int{'a', '.', 10, 255, ' '}, false); err != api.OK || s != `a\.\n\xff ` {
		t.Errorf("%q", s)
	}
	r := sample.New(3)
	for range 200 {
		l := r.Text("ab.*\\[ \n\x01", 9)
		s, _ := Quote(l, false)
		p, _, err := Parse(s, Flags{})
		if err != api.OK {
			t.Fatal(s)
		}
		if !slices.Equal(symbolsOf(p.Re), l) {
			t.Fatalf("%q is the text of %v", s, p.Re)
		}
	}
	for i, c := range []struct {
		l     []int
		runes bool
		want  api.Errno
	}{
		{[]int{256}, false, api.ErrRange}, {make([]int, 255), false, api.OK}, {make([]int, 256), false, api.ErrLimit}, {[]int{55296}, true, api.ErrRange}, {make([]int, 70000), true, api.ErrLimit},
	} {
		if s, err := Quote(c.l, c.runes); err != c.want || err != api.OK && s != "" {
			t.Errorf("case %d: %d", i, err)
		}
	}
	long := make([]int, 255)
	for i := range long {
		long[i] = 100000
	}
	if _, err := Quote(long, true); err != api.ErrLimit {
		t.Error("texts with more than 2048 bytes")
	}
}

// symbolsOf returns the only text that a sequence of single symbols matches.
func symbolsOf(re api.Re) []int {
	var l []int
	for _, kid := range re.Kids {
		l = append(l, symbolsOf(kid)...)
	}
	if re.Op == api.OpSet && len(re.Set) == 1 && re.Set[0].Lo == re.Set[0].Hi {
		l = append(l, re.Set[0].Lo)
	}
	return l
}
