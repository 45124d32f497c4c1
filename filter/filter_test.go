package filter

import (
	"slices"
	"strconv"
	"testing"

	"rexmill/api"
	"rexmill/ruleset"
	"rexmill/sample"
	"rexmill/sem"
	"rexmill/syntax"
	"rexmill/text"
)

func rules(texts ...string) []ruleset.Rule {
	var l []ruleset.Rule
	for i, s := range texts {
		l = append(l, ruleset.Rule{Name: "r" + strconv.Itoa(i), Text: s})
	}
	return l
}

func set(t *testing.T, l []ruleset.Rule) *ruleset.Set {
	t.Helper()
	s, _, err := ruleset.Compile(l)
	if err != api.OK {
		t.Fatal(err)
	}
	return s
}

// filter returns a filter with one version in use.
func filter(t *testing.T, share, period int, l []ruleset.Rule) *Filter {
	f, err := New(share, period)
	if err != api.OK || f.Install(0, set(t, l)) != api.OK || f.Use(0) != api.OK {
		t.Fatal(err)
	}
	return f
}

// found returns matches from rule, start and end of each.
func found(n ...int) []api.Found {
	var l []api.Found
	for i := 0; i < len(n); i += 3 {
		l = append(l, api.Found{Rule: n[i], Start: n[i+1], End: n[i+2]})
	}
	return l
}

func data(t *testing.T, f *Filter, conn int, piece string, tick int, want ...int) {
	t.Helper()
	if l, err := f.Data(conn, []byte(piece), tick); err != api.OK || !slices.Equal(l, found(want...)) {
		t.Errorf("Data %q: %v %d", piece, l, err)
	}
}

func end(t *testing.T, f *Filter, conn, tick int, want ...int) {
	t.Helper()
	if l, err := f.End(conn, tick); err != api.OK || !slices.Equal(l, found(want...)) {
		t.Errorf("End: %v %d", l, err)
	}
}

func open(t *testing.T, f *Filter, conn, tick int) {
	t.Helper()
	if err := f.Open(conn, tick); err != api.OK {
		t.Errorf("Open: %d", err)
	}
}

func TestExample(t *testing.T) {
	f := filter(t, 100, 10, rules("a+"))
	open(t, f, 5, 0)
	data(t, f, 5, "ba", 0)
	data(t, f, 5, "ab", 0, 0, 1, 3, 0, 2, 3)
	end(t, f, 5, 0)
	f = filter(t, 3, 10, rules("a+"))
	open(t, f, 5, 0)
	data(t, f, 5, "ba", 0)
	data(t, f, 5, "ab", 0, 0, -1, -1)
	data(t, f, 5, "", 0)
	data(t, f, 5, "c", 20)
	end(t, f, 5, 20)
}

func TestErrors(t *testing.T) {
	for _, c := range [][2]int{{-1, 1}, {api.MaxFuel + 1, 1}, {1, 0}, {1, api.MaxTick + 1}} {
		if f, err := New(c[0], c[1]); f != nil || err != api.ErrArg {
			t.Error(c)
		}
	}
	f, _ := New(api.MaxFuel, api.MaxTick)
	s := set(t, rules("a"))
	if f.Install(-1, s) != api.ErrArg || f.Install(1025, s) != api.ErrArg || f.Install(0, nil) != api.ErrArg || f.Use(0) != api.ErrNone || f.Remove(0) != api.ErrNone {
		t.Error("versions")
	}
	if f.Open(1, 0) != api.ErrState {
		t.Error("no version is in use")
	}
	for i := range 64 {
		if f.Install(1024-i, s) != api.OK {
			t.Fatal("Install")
		}
	}
	if f.Install(1024, nil) != api.ErrArg || f.Install(1024, s) != api.ErrTwice || f.Install(3, s) != api.ErrLimit {
		t.Error("too many versions")
	}
	f.Use(1000)
	if f.Remove(1000) != api.ErrBusy || f.Remove(1024) != api.OK || f.Remove(1024) != api.ErrNone {
		t.Error("Remove")
	}
	for i, c := range []struct {
		conn, tick int
		want       api.Errno
	}{{-1, 5, api.ErrArg}, {1<<40 + 1, 5, api.ErrArg}, {1, -1, api.ErrArg}, {1, api.MaxTick + 1, api.ErrArg}, {1 << 40, 5, api.OK}, {1 << 40, 4, api.ErrLate}, {1 << 40, 5, api.ErrTwice}} {
		if err := f.Open(c.conn, c.tick); err != c.want {
			t.Error("Open", i, err)
		}
	}
	for i := range 63 {
		open(t, f, i, 5)
	}
	if f.Open(99, 5) != api.ErrLimit || f.Open(3, 5) != api.ErrTwice {
		t.Error("too many connections")
	}
	for i, c := range []struct {
		conn, tick int
		want       api.Errno
	}{{-9, -1, api.ErrArg}, {-9, api.MaxTick + 1, api.ErrArg}, {-9, 4, api.ErrLate}, {-9, 5, api.ErrNone}, {99, 7, api.ErrNone}} {
		l, err := f.Data(c.conn, make([]byte, api.MaxText+1), c.tick)
		l2, err2 := f.End(c.conn, c.tick)
		if err != c.want || err2 != c.want || l != nil || l2 != nil {
			t.Error("case", i, err, err2)
		}
	}
	data(t, f, 0, "aa", 5, 0, 0, 1, 0, 1, 2)
	if _, err := f.Data(0, make([]byte, api.MaxText-1), 6); err != api.ErrLimit {
		t.Error("a text that is too long")
	}
	if _, err := f.Data(0, make([]byte, api.MaxText-2), 5); err != api.OK {
		t.Error("a text that is as long as allowed, or an error moves the tick")
	}
	if l := f.Conns(); len(l) != 64 || l[0] != [2]int{0, 1000} || l[63] != [2]int{1 << 40, 1000} {
		t.Error("Conns")
	}
}

func TestVersions(t *testing.T) {
	f := filter(t, 1000, 10, rules("a"))
	f.Install(1, set(t, rules("b", "(?>a)")))
	open(t, f, 7, 0)
	f.Use(1)
	open(t, f, 3, 0)
	if f.Remove(0) != api.ErrBusy {
		t.Error("the version of a connection")
	}
	data(t, f, 7, "ab", 0, 0, 0, 1)
	data(t, f, 3, "ab", 0, 0, 1, 2)
	if !slices.Equal(f.Conns(), [][2]int{{3, 1}, {7, 0}}) {
		t.Error(f.Conns())
	}
	end(t, f, 7, 0)
	if f.Remove(0) != api.OK || f.Remove(1) != api.ErrBusy || f.Open(7, 0) != api.OK {
		t.Error("Remove")
	}
	end(t, f, 3, 0, 1, 0, 1)
	f.Install(2, set(t, nil))
	f.Use(2)
	open(t, f, 9, 1)
	data(t, f, 9, "abc", 1)
	end(t, f, 9, 1)
}

func TestShares(t *testing.T) {
	f := filter(t, 5, 10, rules("a", "(?>b)"))
	open(t, f, 1, 0)
	open(t, f, 2, 0)
	data(t, f, 1, "aaa", 0, 0, 0, 1, 0, 1, 2, 0, 2, 3)
	data(t, f, 2, "bbb", 0, 0, -1, -1)
	// The second rule takes two steps at each position, so four positions take 8.
	end(t, f, 2, 0, 1, -1, -1)
	data(t, f, 1, "aa", 9, 0, 3, 4, 0, 4, 5)
	end(t, f, 1, 10, 1, -1, -1)
	f = filter(t, 8, 10, rules("(?>b)", "(?>b)"))
	open(t, f, 1, 0)
	open(t, f, 2, 0)
	data(t, f, 1, "bbb", 0)
	data(t, f, 2, "b", 0)
	end(t, f, 1, 0, 0, 0, 1, 0, 1, 2, 0, 2, 3, 1, 0, 1, 1, 1, 2, 1, 2, 3)
	end(t, f, 2, 9, 0, -1, -1, 1, -1, -1)
	open(t, f, 2, 10)
	end(t, f, 2, 10)
	// What was taken for a rule that went out is the rest of its share.
	f = filter(t, 7, 10, rules("(?>b)"))
	open(t, f, 1, 0)
	open(t, f, 2, 0)
	data(t, f, 1, "bbb", 0)
	end(t, f, 1, 0, 0, -1, -1)
	end(t, f, 2, 0, 0, -1, -1)
}

func TestBytesThatAreNoText(t *testing.T) {
	l := []ruleset.Rule{{Name: "a", Text: "ä", Runes: true}, {Name: "b", Text: "(?>ä)", Runes: true}, {Name: "c", Text: `\xc3`}}
	f := filter(t, 1000, 10, l)
	open(t, f, 1, 0)
	data(t, f, 1, "ä\xc3", 0, 0, 0, 1, 2, 0, 1, 2, 2, 3)
	data(t, f, 1, "a", 0, 0, -1, -1)
	data(t, f, 1, "\xa4", 0)
	end(t, f, 1, 0, 1, -1, -1)
	open(t, f, 1, 0)
	data(t, f, 1, "ä\xc3", 0, 0, 0, 1, 2, 0, 1, 2, 2, 3)
	end(t, f, 1, 0, 0, -1, -1, 1, -1, -1)
}

func TestAnew(t *testing.T) {
	r := sample.New(1)
	for range 300 {
		var l []ruleset.Rule
		for i := range 1 + r.Int(4) {
			if s, err := syntax.Print(r.Pattern(sample.All(), 4)); err == api.OK {
				l = append(l, ruleset.Rule{Name: "r" + strconv.Itoa(i), Text: s, Runes: r.Int(2) == 0})
			}
		}
		symbols := r.Text("abcd", 9)
		b, _ := text.Encode(symbols, false)
		tooMany := false
		for _, x := range l {
			p, _, _ := syntax.Parse(x.Text, syntax.Flags{Runes: x.Runes})
			_, err := sem.Every(p, symbols, 100000)
			tooMany = tooMany || err != api.OK
		}
		if tooMany {
			continue
		}
		f := filter(t, api.MaxFuel, 10, l)
		f.Open(1, 0)
		var told []api.Found
		for fed := 0; fed < len(b); {
			n := min(r.Int(4), len(b)-fed)
			piece := slices.Clone(b[fed : fed+n])
			some, err := f.Data(1, piece, fed)
			clear(piece)
			if err != api.OK {
				t.Fatal(err)
			}
			told = append(told, some...)
			fed += n
		}
		last, err := f.End(1, 100)
		told = append(told, last...)
		slices.SortFunc(told, func(a, b api.Found) int { return slices.Compare([]int{a.Rule, a.Start}, []int{b.Rule, b.Start}) })
		want, err2 := set(t, l).Found(symbols, api.MaxFuel)
		if err+err2 != api.OK || !slices.Equal(told, want) {
			t.Fatal(l, symbols, told, want)
		}
	}
}

func TestApart(t *testing.T) {
	r := sample.New(2)
	texts := []string{"a+", "(?>ab?)", "b|ab", "(?=c)c", "c*d"}
	for range 100 {
		share, period := 1+r.Int(40), 1+r.Int(5)
		all := filter(t, share, period, rules(texts...))
		var alone []*Filter
		for _, s := range texts {
			alone = append(alone, filter(t, share, period, rules(s)))
		}
		tick := 0
		for range 60 {
			tick += r.Int(2)
			conn := r.Int(3)
			piece, _ := text.Encode(r.Text("abcd", 4), false)
			kind := r.Int(3)
			do := func(f *Filter) ([]api.Found, api.Errno) {
				switch kind {
				case 0:
					return nil, f.Open(conn, tick)
				case 1:
					return f.Data(conn, piece, tick)
				}
				return f.End(conn, tick)
			}
			told, err := do(all)
			for i, f := range alone {
				some, err2 := do(f)
				var mine []api.Found
				for _, x := range told {
					if x.Rule == i {
						x.Rule = 0
						mine = append(mine, x)
					}
				}
				if err != err2 || !slices.Equal(some, mine) {
					t.Fatal("a rule depends on others", texts[i], some, mine)
				}
			}
		}
	}
}
