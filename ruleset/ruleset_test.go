package ruleset

import (
	"slices"
	"strconv"
	"strings"
	"testing"

	"rexmill/api"
	"rexmill/hash"
	"rexmill/sample"
	"rexmill/sem"
	"rexmill/syntax"
	"rexmill/wire"
)

func compile(t *testing.T, l ...Rule) *Set {
	s, i, err := Compile(l)
	if err != api.OK || i != 0 {
		t.Fatal(i, err)
	}
	return s
}

func symbols(s string) []int {
	var l []int
	for _, c := range []byte(s) {
		l = append(l, int(c))
	}
	return l
}

// found returns matches from rule, start and end of each.
func found(n ...int) []api.Found {
	var l []api.Found
	for i := 0; i < len(n); i += 3 {
		l = append(l, api.Found{Rule: n[i], Start: n[i+1], End: n[i+2]})
	}
	return l
}

func TestExample(t *testing.T) {
	s := compile(t, Rule{"as", "a+", false}, Rule{"b", "b|ab", false})
	l, err := s.Found(symbols("aab"), 100)
	if err != api.OK || !slices.Equal(l, found(0, 0, 2, 0, 1, 2, 1, 1, 3, 1, 2, 3)) {
		t.Error(l, err)
	}
	m, is, err := s.Match(1, symbols("aab"), 1, 0)
	if !is || m.Start != 1 || m.End != 3 || err != api.OK {
		t.Error(m)
	}
}

func TestCompileErrors(t *testing.T) {
	many := make([]Rule, 501)
	for i := range many {
		many[i] = Rule{Name: "a" + strconv.Itoa(i)}
	}
	good := Rule{"x", "a", false}
	for i, c := range []struct {
		l     []Rule
		index int
		want  api.Errno
	}{
		{make([]Rule, 501), 500, api.ErrLimit}, {many[:500], 0, api.OK}, {nil, 0, api.OK}, {[]Rule{good, {"", ")", false}}, 1, api.ErrName}, {[]Rule{{"X", "", false}}, 0, api.ErrName}, {[]Rule{{"1a", "", false}}, 0, api.ErrName}, {[]Rule{{"-", "", false}}, 0, api.ErrName}, {[]Rule{{"a_b", "", false}}, 0, api.ErrName}, {[]Rule{{"aä", "", false}}, 0, api.ErrName}, {[]Rule{{strings.Repeat("a", 17), "", false}}, 0, api.ErrName}, {[]Rule{{"a-0" + strings.Repeat("z", 13), "", false}}, 0, api.OK},
		{[]Rule{good, {"y", "", false}, {"x", ")", false}}, 2, api.ErrTwice}, {[]Rule{good, {"y", ")", false}, {"x", "", false}}, 1, api.ErrForm}, {[]Rule{{"x", "\xff", true}}, 0, api.ErrUtf}, {[]Rule{{"x", "\xff", false}}, 0, api.OK}, {[]Rule{{"x", "a{2,1}", false}}, 0, api.ErrRange}, {[]Rule{{"x", `\1`, false}}, 0, api.ErrName}, {[]Rule{{"x", strings.Repeat("a", 2049), false}}, 0, api.ErrLimit},
	} {
		s, index, err := Compile(c.l)
		if err != c.want || index != c.index || (s == nil) != (err != api.OK) {
			t.Errorf("case %d: %d at %d", i, err, index)
		}
	}
}

func TestFoundErrors(t *testing.T) {
	s := compile(t, Rule{"a", "a", false}, Rule{"b", "(?>b)", false}, Rule{"c", "c", true})
	for i, c := range []struct {
		l    []int
		fuel int
		want api.Errno
	}{{nil, -1, api.ErrArg}, {nil, 0, api.ErrFuel}, {nil, 2, api.OK}, {[]int{'b'}, 1, api.ErrFuel}, {[]int{256}, 9, api.ErrArg}, {make([]int, api.MaxText+1), 9, api.ErrLimit}} {
		if l, err := s.Found(c.l, c.fuel); err != c.want || l != nil {
			t.Errorf("case %d: %d", i, err)
		}
	}
	for _, rule := range []int{-1, 3} {
		if _, is, err := s.Match(rule, make([]int, api.MaxText+1), -1, -1); err != api.ErrNone || is {
			t.Error("Match of no rule", err)
		}
	}
	if _, _, err := s.Match(0, nil, 1, 9); err != api.ErrRange {
		t.Error("Match at no position")
	}
	if _, _, err := s.Match(1, nil, 0, 0); err != api.ErrFuel {
		t.Error("Match without fuel")
	}
	if m, is, err := s.Match(2, []int{256}, 0, 0); is || err != api.OK || !sem.Equal(m, api.Match{}) {
		t.Error("Match of a rule over code points")
	}
	none := compile(t)
	if l, err := none.Found([]int{-1}, -1); l != nil || err != api.OK || len(none.Rules()) != 0 {
		t.Error("no rules")
	}
}

// random returns rules with patterns at random.
func random(r *sample.Rand) []Rule {
	var l []Rule
	for i := range r.Int(4) {
		s, err := syntax.Print(r.Pattern(sample.All(), 4))
		if err == api.OK {
			l = append(l, Rule{"r" + strconv.Itoa(i), s, r.Int(3) == 0})
		}
	}
	return l
}

func TestDefinition(t *testing.T) {
	r := sample.New(1)
	for range 600 {
		rules := random(r)
		s := compile(t, rules...)
		if !slices.Equal(s.Rules(), rules) {
			t.Fatal("Rules")
		}
		text := r.Text("abcd", 8)
		var want []api.Found
		all := true
		for i, rule := range rules {
			p, _, _ := syntax.Parse(rule.Text, syntax.Flags{Runes: rule.Runes})
			every, err := sem.Every(p, text, 200000)
			all = all && err == api.OK
			for _, m := range every {
				want = append(want, api.Found{Rule: i, Start: m.Start, End: m.End})
				got, is, err := s.Match(i, text, m.Start, api.MaxFuel)
				if err != api.OK || !is || !sem.Equal(got, m) {
					t.Fatal("Match", rule, m)
				}
			}
		}
		if !all {
			continue
		}
		got, err := s.Found(text, api.MaxFuel)
		if err != api.OK || !slices.Equal(got, want) {
			t.Fatal("Found", rules, text, got, want)
		}
		checkBytes(t, s, rules)
	}
}

func checkBytes(t *testing.T, s *Set, rules []Rule) {
	b, err := Encode(rules)
	back, err2 := Decode(b)
	if err+err2 != api.OK || !slices.Equal(back, rules) {
		t.Fatal("Decode of Encode")
	}
	if s.Hash() != hash.Bytes("rules", b) || compile(t, back...).Hash() != s.Hash() {
		t.Fatal("Hash")
	}
	if l, err := Decode(append(b, 0)); err != api.ErrForm || l != nil {
		t.Fatal("a byte too many")
	}
	if _, err := Decode(b[:len(b)-1]); err != api.ErrForm {
		t.Fatal("a byte too few")
	}
}

func TestEncode(t *testing.T) {
	b, err := Encode([]Rule{{"ab", "\xff)", true}})
	if err != api.OK || !slices.Equal(b, []byte{2, 2, 'a', 'b', 2, 255, ')', 1}) {
		t.Error(b, err)
	}
	many := make([]Rule, 501)
	for i := range many {
		many[i] = Rule{Name: "a" + strconv.Itoa(i)}
	}
	for i, l := range [][]Rule{many, {{"A", "", false}}, {{"", "", false}}, {{"a", "", false}, {"a", "b", true}}, {{"a", strings.Repeat("(", 2049), false}}} {
		if b, err := Encode(l); err != api.ErrArg || b != nil {
			t.Error("case", i, err)
		}
		w := &wire.Writer{}
		w.Int(len(l))
		for _, r := range l {
			w.Text(r.Name)
			w.Text(r.Text)
			w.Bool(r.Runes)
		}
		if got, err := Decode(w.Done()); err != api.ErrForm || got != nil {
			t.Error("case", i, "is read", err)
		}
	}
	if _, err := Encode([]Rule{{"a", strings.Repeat("(", 2048), false}}); err != api.OK {
		t.Error("rules do not have to compile")
	}
	if _, err := Decode([]byte{1}); err != api.ErrForm {
		t.Error("a negative number of rules")
	}
}

func TestLong(t *testing.T) {
	s := compile(t, Rule{"a", "(?=a)a|b", false}, Rule{"b", "ab*?c", false})
	l := symbols(strings.Repeat("abbc", 500))
	if found, err := s.Found(l, 1000); err != api.OK || len(found) != 2000-500+500 {
		t.Error(len(found), err)
	}
}
