package canary

import (
	"slices"
	"testing"

	"rexmill/api"
	"rexmill/ruleset"
	"rexmill/sample"
)

// set compiles rules from names and texts.
func set(t *testing.T, l ...string) *ruleset.Set {
	var rules []ruleset.Rule
	for i := 0; i < len(l); i += 2 {
		rules = append(rules, ruleset.Rule{Name: l[i], Text: l[i+1]})
	}
	s, _, err := ruleset.Compile(rules)
	if err != api.OK {
		t.Fatal(err)
	}
	return s
}

func symbols(s string) []int {
	var l []int
	for _, c := range []byte(s) {
		l = append(l, int(c))
	}
	return l
}

func see(t *testing.T, c *Canary, s string, compared, alike bool) {
	t.Helper()
	x, y, err := c.See(symbols(s), 1000)
	if x != compared || y != alike || err != api.OK {
		t.Error(s, x, y, err)
	}
}

func TestExample(t *testing.T) {
	c, err := New(set(t, "x", "a", "y", "b"), set(t, "x", "a", "y", "b+"), 2, 0, 3)
	if err != api.OK {
		t.Fatal(err)
	}
	see(t, c, "ab", true, true)
	see(t, c, "bb", false, false)
	see(t, c, "b", true, true)
	see(t, c, "bb", false, false)
	if c.Verdict() != Open {
		t.Error("the verdict is open")
	}
	see(t, c, "bb", true, false)
	seen, compared, differed := c.Counts()
	if c.Verdict() != RollBack || !slices.Equal(c.Unlike(), []Case{{4, "y"}}) || seen != 5 || compared != 3 || differed != 1 {
		t.Error(c.Verdict(), c.Unlike())
	}
	if x, y, err := c.See(nil, 9); x || y || err != api.ErrState || c.Verdict() != RollBack {
		t.Error("a verdict stays")
	}
}

func TestVerdicts(t *testing.T) {
	old, fresh := set(t, "x", "a", "z", "c"), set(t, "y", "b", "x", "a+")
	c, _ := New(old, fresh, 1, 2, 4)
	see(t, c, "aa", true, false)
	see(t, c, "bc", true, false)
	see(t, c, "d", true, true)
	d := c.Copy()
	if c.Verdict() != Open {
		t.Error("two differences are not too many")
	}
	see(t, c, "a", true, true)
	see(t, d, "b", true, false)
	if c.Verdict() != Good || d.Verdict() != RollBack {
		t.Error(c.Verdict(), d.Verdict())
	}
	want := []Case{{0, "x"}, {1, "y"}, {1, "z"}}
	if !slices.Equal(c.Unlike(), want) || !slices.Equal(d.Unlike(), append(want, Case{3, "y"})) {
		t.Error(c.Unlike(), d.Unlike())
	}
	c.Unlike()[0].Rule = "?"
	if c.Unlike()[0].Rule != "x" {
		t.Error("Unlike shares memory")
	}
	last, _ := New(old, fresh, 1, 0, 1)
	see(t, last, "aa", true, false)
	if last.Verdict() != RollBack {
		t.Error("RollBack comes before Good")
	}
}

func TestAllow(t *testing.T) {
	old, fresh := set(t, "x", "a", "z", "c"), set(t, "y", "b", "x", "a+")
	c, _ := New(old, fresh, 1, 0, 9)
	if c.Allow([]string{"x", "w"}) != api.ErrName || c.Allow([]string{"x", "y"}) != api.OK || c.Allow(nil) != api.OK {
		t.Error("Allow")
	}
	see(t, c, "aab", true, true)
	if c.Allow([]string{"w"}) != api.ErrName || c.Allow([]string{"z"}) != api.ErrState || c.Allow(nil) != api.ErrState {
		t.Error("Allow after a text")
	}
	see(t, c, "c", true, false)
	d, _ := New(old, fresh, 1, 0, 9)
	d.Allow([]string{"x"})
	d.Allow([]string{"z", "x"})
	see(t, d, "aac", true, true)
	see(t, d, "b", true, false)
}

func TestErrors(t *testing.T) {
	s := set(t, "x", "(?>a)")
	for i, c := range []struct {
		old, fresh          *ruleset.Set
		every, most, enough int
		want                api.Errno
	}{{nil, s, 1, 0, 1, api.ErrArg}, {s, nil, 1, 0, 1, api.ErrArg}, {s, s, 0, 0, 1, api.ErrArg}, {s, s, 1<<20 + 1, 0, 1, api.ErrArg}, {s, s, 1, -1, 1, api.ErrArg}, {s, s, 1, 1<<20 + 1, 1, api.ErrArg}, {s, s, 1, 0, 0, api.ErrArg}, {s, s, 1, 0, 1<<20 + 1, api.ErrArg}, {s, s, 1 << 20, 1 << 20, 1 << 20, api.OK}} {
		if x, err := New(c.old, c.fresh, c.every, c.most, c.enough); err != c.want || (x == nil) != (err != api.OK) {
			t.Error("case", i, err)
		}
	}
	c, _ := New(s, set(t, "y", "(?>ab)"), 2, 0, 9)
	for i, k := range []struct {
		text string
		fuel int
		want api.Errno
	}{{"a", 0, api.ErrFuel}, {"ab", 2, api.ErrFuel}, {"ab", -1, api.ErrArg}} {
		if x, y, err := c.See(symbols(k.text), k.fuel); x || y || err != k.want {
			t.Error("See", i, err)
		}
	}
	if _, _, err := c.See([]int{-1}, 9); err != api.ErrArg {
		t.Error("a text that is not valid")
	}
	if n, _, _ := c.Counts(); n != 0 {
		t.Error("a text with an error was seen")
	}
	see(t, c, "c", true, true)
	if _, _, err := c.See([]int{-1}, -1); err != api.OK {
		t.Error("a text that is not compared has no error")
	}
}

func TestProperties(t *testing.T) {
	r := sample.New(1)
	pool := []string{"a", "a+", "b|ab", "c?", "[ab]*c", "(?>a)b"}
	for range 200 {
		var l, m []string
		for _, name := range []string{"p", "q", "r"} {
			if r.Int(4) > 0 {
				l = append(l, name, pool[r.Int(6)])
			}
			if r.Int(4) > 0 {
				m = append([]string{name, pool[r.Int(6)]}, m...)
			}
		}
		x, y := set(t, l...), set(t, m...)
		a, _ := New(x, y, 1, 1<<20, 1<<20)
		b, _ := New(y, x, 1, 1<<20, 1<<20)
		var turned []string
		for i := len(l) - 2; i >= 0; i -= 2 {
			turned = append(turned, l[i], l[i+1])
		}
		same, _ := New(x, set(t, turned...), 1, 0, 1<<20)
		for range 10 {
			text := r.Text("abcd", 6)
			_, alike, _ := a.See(text, 1000)
			_, alike2, _ := b.See(text, 1000)
			one, _ := New(x, y, 1, 1<<20, 1<<20)
			_, alone, _ := one.See(text, 1000)
			if _, equal, err := same.See(text, 1000); !equal || err != api.OK || alike != alike2 || alike != alone {
				t.Fatal("texts", l, m, text)
			}
		}
		if !slices.Equal(a.Unlike(), b.Unlike()) || same.Verdict() != Open {
			t.Fatal("exchanged sets")
		}
	}
}
