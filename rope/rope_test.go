package rope

import (
	"slices"
	"testing"

	"rexmill/api"
	"rexmill/monoid"
	"rexmill/prog"
	"rexmill/sample"
	"rexmill/syntax"
	"rexmill/text"
)

func machine(t *testing.T, s string, runes bool) *monoid.Machine {
	p, _, err := syntax.Parse(s, syntax.Flags{Runes: runes})
	g, err2 := prog.Compile(p)
	m, err3 := monoid.New(g)
	if err+err2+err3 != api.OK {
		t.Fatal(s, err, err2, err3)
	}
	return m
}

// check looks at all nodes, and at what the rope says of itself.
func check(t *testing.T, m *monoid.Machine, r *Rope, want []int) {
	t.Helper()
	var walk func(n node) ([]int, int)
	walk = func(n node) ([]int, int) {
		switch x := n.(type) {
		case *leaf:
			if len(x.symbols) < 1 || len(x.symbols) > 32 {
				t.Fatal("a leaf with", len(x.symbols), "symbols")
			}
			if s, _ := m.Of(x.symbols); !monoid.Equal(s, x.summary) {
				t.Fatal("the summary of a leaf")
			}
			return x.symbols, 1
		case *inner:
			a, h := walk(x.left)
			b, k := walk(x.right)
			if h-k > 1 || k-h > 1 {
				t.Fatal("the tree is not balanced", h, k)
			}
			return slices.Concat(a, b), 1 + max(h, k)
		}
		return nil, 0
	}
	l, h := walk(r.root)
	if !slices.Equal(l, want) || !slices.Equal(r.Text(), want) || r.Len() != len(want) || r.Height() != h {
		t.Fatal("text, length or height")
	}
	if s, _ := m.Of(want); !monoid.Equal(s, r.Summary()) {
		t.Fatal("the summary")
	}
	n := len(want)
	if h > 2 && 1<<(h-2) > (n+1)*(n+1) {
		t.Fatal("the tree is too high", h, n)
	}
}

func TestNew(t *testing.T) {
	m := machine(t, "ab*c|a", false)
	r := sample.New(1)
	for n := range 400 {
		l := make([]int, n)
		for i := range l {
			l[i] = 'a' + r.Int(4)
		}
		x, err := New(m, l)
		if err != api.OK || x.Made() > 2*(n/16+1) {
			t.Fatal(n, err, x.Made())
		}
		check(t, m, x, l)
		if n > 0 {
			l[0] = 'z'
			if x.Text()[0] == 'z' {
				t.Fatal("the rope keeps the memory of its text")
			}
		}
	}
	x, _ := New(m, make([]int, 32))
	if x.Height() != 1 || x.Made() != 1 {
		t.Error("32 symbols", x.Height(), x.Made())
	}
	y, err := x.Edit(api.Edit{At: 7, Ins: []int{'a'}})
	if err != api.OK || y.Len() != 33 || y.Height() < 2 || x.Len() != 32 {
		t.Error("33 symbols")
	}
	empty, _ := New(m, nil)
	if empty.Height() != 0 || empty.Made() != 0 || !monoid.Equal(empty.Summary(), m.Empty()) {
		t.Error("no symbols")
	}
}

func TestEdits(t *testing.T) {
	r := sample.New(2)
	for round := range 30 {
		m := machine(t, []string{"ab*c|a", "(?:a|b)*c", "d"}[round%3], false)
		l := r.Text("abcd", 600)
		x, _ := New(m, l)
		for range 120 {
			at := r.Int(len(l) + 1)
			e := api.Edit{At: at, Del: r.Int(min(len(l)-at, []int{3, 100, 600}[r.Int(3)]) + 1), Ins: r.Text("abcd", []int{2, 90, 400}[r.Int(3)])}
			next, err := x.Edit(e)
			want, _ := text.Splice(l, e)
			if err != api.OK {
				t.Fatal(err)
			}
			check(t, m, next, want)
			h := max(x.Height(), next.Height())
			if next.Made() > 40*(h+2)+2*(len(e.Ins)/16+1) {
				t.Fatal("too many nodes were made", next.Made(), h)
			}
			undo, _ := text.Undo(l, e)
			back, err := next.Edit(undo)
			if err != api.OK || !monoid.Equal(back.Summary(), x.Summary()) {
				t.Fatal("undo")
			}
			check(t, m, back, l)
			check(t, m, x, l)
			x, l = next, want
			from := r.Int(len(l) + 1)
			to := from + r.Int(len(l)-from+1)
			if part, err := x.Slice(from, to); err != api.OK || !slices.Equal(part, l[from:to]) {
				t.Fatal("Slice")
			}
		}
	}
}

func TestOneByOne(t *testing.T) {
	m := machine(t, "a", false)
	x, _ := New(m, nil)
	var l []int
	for i := range 3000 {
		at := []int{0, len(l), len(l) / 2}[i/1000]
		x, _ = x.Edit(api.Edit{At: at, Ins: []int{'a' + i%3}})
		l = slices.Insert(l, at, 'a'+i%3)
	}
	check(t, m, x, l)
	for len(l) > 0 {
		at := len(l) * 2 / 3
		x, _ = x.Edit(api.Edit{At: at, Del: 1})
		l = slices.Delete(l, at, at+1)
		if len(l)%100 == 0 {
			check(t, m, x, l)
		}
	}
}

func TestErrors(t *testing.T) {
	m := machine(t, "a", false)
	long := make([]int, api.MaxText+1)
	if r, err := New(nil, long); r != nil || err != api.ErrArg {
		t.Error("no machine")
	}
	if r, err := New(m, append(long, -1)); r != nil || err != api.ErrLimit {
		t.Error("a text that is too long")
	}
	if r, err := New(m, []int{256}); r != nil || err != api.ErrRange {
		t.Error("a symbol that is none")
	}
	full, err := New(m, long[1:])
	if err != api.OK {
		t.Fatal(err)
	}
	small, _ := New(m, []int{1, 2, 3})
	for i, c := range []struct {
		r    *Rope
		e    api.Edit
		want api.Errno
	}{
		{small, api.Edit{At: -1}, api.ErrRange}, {small, api.Edit{At: 2, Del: 2}, api.ErrRange}, {small, api.Edit{Del: -1}, api.ErrRange}, {small, api.Edit{Ins: []int{-1}}, api.ErrRange}, {small, api.Edit{Ins: []int{256}}, api.ErrRange}, {small, api.Edit{Ins: []int{api.MaxSymbol + 1}}, api.ErrRange}, {full, api.Edit{Ins: []int{1}}, api.ErrLimit}, {full, api.Edit{Del: 1, Ins: []int{1}}, api.OK}, {full, api.Edit{Ins: []int{256}}, api.ErrLimit},
	} {
		r, err := c.r.Edit(c.e)
		if err != c.want || (r == nil) != (err != api.OK) {
			t.Errorf("case %d: %d", i, err)
		}
	}
	for _, c := range [][2]int{{-1, 0}, {2, 1}, {0, 4}, {4, 4}} {
		if l, err := small.Slice(c[0], c[1]); err != api.ErrRange || l != nil {
			t.Error("Slice", c)
		}
	}
	wide := machine(t, "a", true)
	if _, err := New(wide, []int{55296}); err != api.ErrRange {
		t.Error("a symbol that is no code point")
	}
}
