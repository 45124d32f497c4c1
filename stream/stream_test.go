package stream

import (
	"slices"
	"testing"

	"rexmill/api"
	"rexmill/pike"
	"rexmill/prog"
	"rexmill/sample"
	"rexmill/syntax"
	"rexmill/text"
)

func compile(t *testing.T, s string, runes bool) prog.Prog {
	p, _, err := syntax.Parse(s, syntax.Flags{Runes: runes})
	g, err2 := prog.Compile(p)
	if err+err2 != api.OK {
		t.Fatal(s, err, err2)
	}
	return g
}

func stream(t *testing.T, g prog.Prog) *Stream {
	s, err := New(g)
	if err != api.OK {
		t.Fatal(err)
	}
	return s
}

func symbols(s string) []int {
	l, _ := text.Decode([]byte(s), false)
	return l
}

func TestExamples(t *testing.T) {
	s := stream(t, compile(t, "a+", false))
	if s.Open() != 1 || s.Len() != 0 {
		t.Error("a new stream")
	}
	l, err := s.Feed(symbols("aa"))
	if len(l) != 0 || err != api.OK || s.Open() != 3 {
		t.Error(l, s.Open())
	}
	l, _ = s.Feed(symbols("b"))
	if !slices.Equal(l, [][2]int{{0, 2}, {1, 2}}) || s.Open() != 1 || s.Len() != 3 {
		t.Error(l, s.Open())
	}
	if l, err = s.Close(); len(l) != 0 || err != api.OK || s.Open() != 0 || s.Len() != 3 {
		t.Error(l)
	}
	s = stream(t, compile(t, "a|ab", false))
	if l, _ = s.Feed(symbols("a")); !slices.Equal(l, [][2]int{{0, 1}}) {
		t.Error(l)
	}
	s = stream(t, compile(t, "", false))
	if s.Open() != 1 {
		t.Error("before the first Feed nothing is decided")
	}
	if l, _ = s.Feed(nil); !slices.Equal(l, [][2]int{{0, 0}}) || s.Open() != 0 {
		t.Error("the first Feed without symbols", l)
	}
	if l, _ = s.Feed(nil); len(l) != 0 {
		t.Error("another Feed without symbols", l)
	}
	s = stream(t, compile(t, "", false))
	if l, _ = s.Close(); !slices.Equal(l, [][2]int{{0, 0}}) {
		t.Error("Close without Feed", l)
	}
}

// every returns start and end of what pike finds.
func every(g prog.Prog, l []int) [][2]int {
	found, _ := pike.Every(g, l)
	var out [][2]int
	for _, m := range found {
		out = append(out, [2]int{m.Start, m.End})
	}
	return out
}

// words returns all texts over abcd with up to n symbols.
func words(n int) [][]int {
	out := [][]int{nil}
	for from := 0; len(out[from]) < n; from++ {
		for c := 'a'; c <= 'd'; c++ {
			out = append(out, append(slices.Clone(out[from]), int(c)))
		}
	}
	return out
}

// decided looks whether threads of a run can lead to a Done, by the lists of pike and a search over instructions.
func decided(g prog.Prog, l []int, at int) bool {
	threads, _ := pike.Threads(g, l, at, len(l))
	seen := map[int]bool{}
	var leads func(i int) bool
	leads = func(i int) bool {
		if seen[i] {
			return false
		}
		seen[i] = true
		switch x := g.Insns[i]; x.Op {
		case prog.Done:
			return true
		case prog.Sym:
			return len(x.Set) > 0 && leads(i+1)
		case prog.Save:
			return leads(i + 1)
		case prog.Jump:
			return leads(x.X)
		case prog.Split:
			return leads(x.X) || leads(x.Y)
		}
		return false
	}
	for _, i := range threads {
		if g.Insns[i].Op == prog.Sym && leads(i) {
			return false
		}
	}
	return true
}

func TestPieces(t *testing.T) {
	r := sample.New(1)
	for round := range 1500 {
		p := r.Pattern(sample.Shape{Caps: true}, 2+r.Int(4))
		g, _ := prog.Compile(p)
		l := r.Text("abcd", 10)
		s := stream(t, g)
		var told [][2]int
		open := map[int]bool{0: true}
		fed := 0
		for first := true; first || fed < len(l); first = false {
			n := r.Int(4)
			if !first && n == 0 {
				n = 1
			}
			piece := l[fed:min(fed+n, len(l))]
			fed += len(piece)
			other := s.Copy()
			got, err := s.Feed(piece)
			again, err2 := other.Feed(piece)
			if err+err2 != api.OK || !slices.Equal(got, again) || other.Open() != s.Open() {
				t.Fatal("a copy is not the same", err, err2)
			}
			var want [][2]int
			for at := range fed + 1 {
				if _, known := open[at]; !known {
					open[at] = true
				}
				if open[at] && decided(g, l[:fed], at) {
					open[at] = false
					if m, found, _ := pike.Run(g, l[:fed], at); found {
						want = append(want, [2]int{at, m.End})
					}
				}
			}
			left := 0
			for _, is := range open {
				if is {
					left++
				}
			}
			if !slices.Equal(got, want) || s.Open() != left || s.Len() != fed {
				t.Fatalf("%d: %v on %v after %d: %v, want %v, %d open", round, p, l, fed, got, want, s.Open())
			}
			told = append(told, got...)
		}
		if len(l) < 6 && round%5 == 0 {
			checkSure(t, g, l, told)
		}
		last, err := s.Close()
		if err != api.OK || s.Open() != 0 {
			t.Fatal(err)
		}
		told = append(told, last...)
		slices.SortFunc(told, func(a, b [2]int) int { return a[0] - b[0] })
		if !slices.Equal(told, every(g, l)) {
			t.Fatalf("%v on %v: %v", p, l, told)
		}
	}
}

// checkSure: what was told is right for all texts that go on.
func checkSure(t *testing.T, g prog.Prog, l []int, told [][2]int) {
	for _, w := range words(3) {
		all := every(g, append(slices.Clone(l), w...))
		for _, f := range told {
			if !slices.Contains(all, f) {
				t.Fatal("what is sure changes", f, l, w)
			}
		}
	}
}

func TestBytes(t *testing.T) {
	r := sample.New(2)
	pieces := []string{"a", "b", "ä", "€", "𝄞", "\U0010ffff", "\u07ff", "\u0800", "\ud7ff", "\ue000"}
	for _, runes := range []bool{true, false} {
		g := compile(t, "a+|(?:ä|€)+b?|[𝄞b]{1,3}", runes)
		for range 300 {
			s := ""
			for range r.Int(8) {
				s += pieces[r.Int(len(pieces))]
			}
			b, err := NewBytes(g)
			if err != api.OK {
				t.Fatal(err)
			}
			var told [][2]int
			for fed := 0; fed < len(s); {
				n := min(r.Int(5), len(s)-fed)
				l, err := b.Feed([]byte(s[fed : fed+n]))
				if err != api.OK {
					t.Fatalf("%q at %d: %d", s, fed, err)
				}
				told = append(told, l...)
				fed += n
			}
			last, err := b.Close()
			told = append(told, last...)
			slices.SortFunc(told, func(a, b [2]int) int { return a[0] - b[0] })
			l, _ := text.Decode([]byte(s), runes)
			if err != api.OK || !slices.Equal(told, every(g, l)) {
				t.Fatalf("%q: %v", s, told)
			}
		}
	}
}

func TestBytesErrors(t *testing.T) {
	g := compile(t, "a", true)
	for _, s := range []string{"\x80", "a\xff", "\xc0", "\xc1", "\xf5", "\xe0\x80", "\xe0\x9f", "\xed\xa0", "\xf0\x8f", "\xf4\x90", "\xc3a", "\xe2\x82a", "\xf0\x9d\x84a", "\xe2\x28"} {
		b, _ := NewBytes(g)
		if l, err := b.Feed([]byte(s)); err != api.ErrUtf || l != nil {
			t.Errorf("%q: %d", s, err)
		}
		if l, err := b.Feed([]byte("a")); err != api.OK || !slices.Equal(l, [][2]int{{0, 1}}) {
			t.Errorf("%q: an error changes the stream", s)
		}
		b, _ = NewBytes(g)
		var err api.Errno
		for i := range len(s) {
			if _, err = b.Feed([]byte{s[i]}); err != api.OK {
				break
			}
		}
		if err != api.ErrUtf {
			t.Errorf("%q byte by byte: %d", s, err)
		}
	}
	b, _ := NewBytes(g)
	for _, s := range []string{"\xe2", "\x82"} {
		if l, err := b.Feed([]byte(s)); err != api.OK || l != nil {
			t.Error("a part of a code point", err)
		}
		if _, err := b.Close(); err != api.ErrUtf {
			t.Error("bytes are held")
		}
	}
	if _, err := b.Feed([]byte("\xac")); err != api.OK || b.stream.Len() != 1 {
		t.Error("the rest of a code point", err)
	}
	if _, err := b.Close(); err != api.OK {
		t.Error("Close")
	}
	if _, err := b.Feed([]byte("\xff")); err != api.ErrState {
		t.Error("Feed of a closed stream")
	}
	if _, err := b.Close(); err != api.ErrState {
		t.Error("Close of a closed stream")
	}
	b, _ = NewBytes(g)
	b.Feed(make([]byte, api.MaxText))
	if _, err := b.Feed([]byte("a\xff")); err != api.ErrUtf {
		t.Error("ErrUtf comes before ErrLimit")
	}
	if _, err := b.Feed([]byte("a\xe2")); err != api.ErrLimit {
		t.Error("a text that is too long")
	}
	if _, err := b.Feed([]byte("\xe2")); err != api.OK {
		t.Error("bytes that are held are no symbol")
	}
	b, _ = NewBytes(g)
	if _, err := b.Feed(make([]byte, api.MaxText+1)); err != api.ErrLimit {
		t.Error("a piece that is too long")
	}
}

func TestErrors(t *testing.T) {
	for i, c := range []struct {
		g    prog.Prog
		want api.Errno
	}{{prog.Prog{}, api.ErrArg}, {prog.Prog{Insns: make([]prog.Insn, api.MaxProg+1)}, api.ErrLimit}, {prog.Prog{Insns: []prog.Insn{{Op: prog.Assert}, {}}}, api.ErrKind}} {
		s, err := New(c.g)
		b, err2 := NewBytes(c.g)
		if err != c.want || err2 != c.want || s != nil || b != nil {
			t.Errorf("case %d: %d %d", i, err, err2)
		}
	}
	s := stream(t, compile(t, "a*", false))
	for i, c := range []struct {
		piece []int
		want  api.Errno
	}{{append(make([]int, api.MaxText), -1), api.ErrLimit}, {[]int{256}, api.ErrRange}, {[]int{'a', -1}, api.ErrRange}} {
		if l, err := s.Feed(c.piece); err != c.want || l != nil || s.Len() != 0 || s.Open() != 1 {
			t.Errorf("Feed %d: %d", i, err)
		}
	}
	s.Close()
	if _, err := s.Feed([]int{-1}); err != api.ErrState {
		t.Error("Feed of a closed stream")
	}
	if _, err := s.Close(); err != api.ErrState {
		t.Error("Close of a closed stream")
	}
	if c := s.Copy(); c.Open() != 0 {
		t.Error("a copy of a closed stream")
	}
	wide := stream(t, compile(t, "a", true))
	if _, err := wide.Feed([]int{55296}); err != api.ErrRange {
		t.Error("a symbol that is no code point")
	}
	none := stream(t, compile(t, `a(?:[\u{d800}-\u{dfff}]|)`, true))
	if l, _ := none.Feed([]int{'a'}); !slices.Equal(l, [][2]int{{0, 1}}) {
		t.Error("a symbol that is no code point keeps a position open")
	}
}

func TestLong(t *testing.T) {
	for _, p := range []string{"a+", "a*b", "a|a*b", "(?:aa)*"} {
		g := compile(t, p, false)
		s := stream(t, g)
		n := 0
		for range 16 {
			l, err := s.Feed(slices.Repeat([]int{'a'}, 4096))
			if err != api.OK {
				t.Fatal(err)
			}
			n += len(l)
		}
		l, _ := s.Close()
		n += len(l)
		if want := map[string]int{"a+": 65536, "a*b": 0, "a|a*b": 65536, "(?:aa)*": 65537}[p]; n != want {
			t.Error(p, n)
		}
	}
}
