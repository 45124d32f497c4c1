package auto

import (
	"reflect"
	"slices"
	"testing"

	"rexmill/api"
	"rexmill/sample"
	"rexmill/sem"
	"rexmill/syntax"
)

func parse(t *testing.T, s string) api.Pattern {
	p, _, err := syntax.Parse(s, syntax.Flags{})
	if err != api.OK {
		t.Fatal(s, err)
	}
	return p
}

func of(t *testing.T, s string) Auto {
	a, err := Of(parse(t, s))
	if err != api.OK {
		t.Fatal(s, err)
	}
	return a
}

func span(n ...int) []api.Span {
	var l []api.Span
	for i := 0; i < len(n); i += 2 {
		l = append(l, api.Span{Lo: n[i], Hi: n[i+1]})
	}
	return l
}

// random returns a valid automaton.
func random(r *sample.Rand) Auto {
	classes := [][]api.Span{span(0, 'a'-1, 'd', 255), span('a', 'a'), span('b', 'c')}
	if r.Int(2) == 0 {
		classes = [][]api.Span{span(0, 'a'), span('b', 255)}
	}
	a := Auto{Classes: classes}
	n := 1 + r.Int(6)
	for range n {
		row := make([]int, len(classes))
		for c := range row {
			row[c] = r.Int(n)
		}
		a.Next = append(a.Next, row)
		a.Accept = append(a.Accept, r.Int(3) == 0)
	}
	return a
}

// words returns the texts over some symbols with up to n of them, in order.
func words(symbols []int, n int) [][]int {
	out := [][]int{nil}
	for from := 0; len(out[from]) < n; from++ {
		for _, s := range symbols {
			out = append(out, append(slices.Clone(out[from]), s))
		}
	}
	return out
}

var abc = []int{0, 'a', 'b', 'c', 'd'}

func accepts(t *testing.T, a Auto, l []int) bool {
	is, err := Accepts(a, l)
	if err != api.OK {
		t.Fatal(err)
	}
	return is
}

func TestExample(t *testing.T) {
	a := of(t, "a*b")
	want := Auto{
		Classes: [][]api.Span{span(0, 96, 99, 255), span(97, 97), span(98, 98)},
		Next:    [][]int{{1, 0, 2}, {1, 1, 1}, {1, 1, 1}},
		Accept:  []bool{false, false, true},
	}
	if !reflect.DeepEqual(a, want) {
		t.Error(a)
	}
	l, found, _ := Shortest(a)
	n, _ := Count(a, 3)
	if !found || !slices.Equal(l, []int{'b'}) || n != 1 {
		t.Error(l, n)
	}
}

func TestOf(t *testing.T) {
	r := sample.New(1)
	texts := words(abc, 4)
	for range 600 {
		p := r.Pattern(sample.Shape{Caps: true}, 2+r.Int(4))
		a, err := Of(p)
		if err != api.OK || Valid(a) != api.OK {
			t.Fatal(p, err)
		}
		if m, _ := Minimal(a); !Equal(m, a) {
			t.Fatal("Of is not least")
		}
		for range 40 {
			l := texts[r.Int(len(texts))]
			found, _, err := sem.All(p, l, 0, 100000, 1000000)
			whole := slices.ContainsFunc(found, func(m api.Match) bool { return m.End == len(l) })
			if err == api.OK && accepts(t, a, l) != whole {
				t.Fatalf("%v on %v", p, l)
			}
		}
	}
	if a, err := Of(api.Pattern{Re: api.Re{Op: api.OpSet}, Runes: true}); err != api.OK || !reflect.DeepEqual(a, Auto{[][]api.Span{span(0, api.MaxSymbol)}, [][]int{{0}}, []bool{false}}) {
		t.Error(a)
	}
}

func TestOfErrors(t *testing.T) {
	for _, c := range []struct {
		s    string
		want api.Errno
	}{
		{"(?=a)", api.ErrKind}, {"a^", api.ErrKind}, {"(?:(?:a{32}){32}){8}", api.ErrLimit}, {"(?:a|b)*a(?:a|b){10}", api.ErrLimit}, {"(?:a|b)*a(?:a|b){8}", api.OK}, {"(?:a{32}){31}a{30}", api.OK}, {"(?:a{32}){31}a{31}", api.ErrLimit}, {"(?:a{32}){32}", api.ErrLimit},
	} {
		a, err := Of(parse(t, c.s))
		if err != c.want || err != api.OK && a.Next != nil {
			t.Errorf("%s: %d", c.s, err)
		}
	}
	// 64 spans, and 64 others between them: the rest of the symbols has too many spans.
	comb := func(from int) api.Re {
		re := api.Re{Op: api.OpSet}
		for i := range 64 {
			re.Set = append(re.Set, api.Span{Lo: from + 4*i, Hi: from + 4*i})
		}
		return re
	}
	if _, err := Of(api.Pattern{Re: comb(1)}); err != api.ErrLimit {
		t.Error("a class with too many spans")
	}
	// The classes of a and b are wrong for Split, though not for the least automaton.
	if _, err := Of(api.Pattern{Re: api.Re{Op: api.OpAlt, Kids: []api.Re{comb(0), comb(2)}}}); err != api.ErrLimit {
		t.Error("the error of Split")
	}
}

// same reports whether two automata accept the same ones of some texts, where b is asked by a function.
func same(t *testing.T, a Auto, texts [][]int, want func(l []int) bool) bool {
	return !slices.ContainsFunc(texts, func(l []int) bool { return accepts(t, a, l) != want(l) })
}

func TestCalculations(t *testing.T) {
	r := sample.New(2)
	texts := words(abc, 4)
	for range 400 {
		a, b := random(r), random(r)
		minA, err := Minimal(a)
		if err != api.OK || Valid(minA) != api.OK || !same(t, minA, texts, func(l []int) bool { return accepts(t, a, l) }) {
			t.Fatal("Minimal", a, minA)
		}
		meet, err := Meet(a, b)
		union, err2 := Union(a, b)
		not, err3 := Not(a)
		back, err4 := Reverse(a)
		if err+err2+err3+err4 != api.OK {
			t.Fatal(err, err2, err3, err4)
		}
		if !same(t, meet, texts, func(l []int) bool { return accepts(t, a, l) && accepts(t, b, l) }) ||
			!same(t, union, texts, func(l []int) bool { return accepts(t, a, l) || accepts(t, b, l) }) ||
			!same(t, not, texts, func(l []int) bool { return !accepts(t, a, l) }) ||
			!same(t, back, texts, func(l []int) bool {
				l = slices.Clone(l)
				slices.Reverse(l)
				return accepts(t, a, l)
			}) {
			t.Fatal("a combination of", a, b)
		}
		for _, x := range []Auto{meet, union, not, back} {
			if m, err := Minimal(x); err != api.OK || !Equal(m, x) {
				t.Fatal("a result is not least")
			}
		}
		again, _ := Reverse(back)
		twice, _ := Not(not)
		if !Equal(again, minA) || !Equal(twice, minA) {
			t.Fatal("Reverse or Not twice")
		}
		checkLeast(t, minA, texts)
		checkShortest(t, a, b, texts)
	}
}

// checkLeast: all states are reached in order, and no two of them are alike; symbols are in different classes exactly if they lead to different states.
func checkLeast(t *testing.T, a Auto, texts [][]int) {
	next := 0
	seen := map[int]bool{}
	for _, l := range texts {
		state := 0
		for _, s := range l {
			for c, class := range a.Classes {
				if slices.ContainsFunc(class, func(x api.Span) bool { return x.Lo <= s && s <= x.Hi }) {
					state = a.Next[state][c]
					break
				}
			}
		}
		if !seen[state] {
			if state != next {
				t.Fatal("states are not numbered as they are reached", a)
			}
			seen[state] = true
			next++
		}
	}
	for i := range a.Classes {
		for k := range i {
			if !slices.ContainsFunc(a.Next, func(row []int) bool { return row[i] != row[k] }) {
				t.Fatal("two classes are alike")
			}
		}
	}
	for s := range a.Next {
		for k := range s {
			if equivalent(a, s, k) {
				t.Fatal("two states are alike", a, s, k)
			}
		}
	}
}

// equivalent looks through all pairs that two states lead to.
func equivalent(a Auto, s, k int) bool {
	seen := map[[2]int]bool{}
	work := [][2]int{{s, k}}
	for len(work) > 0 {
		p := work[0]
		work = work[1:]
		if a.Accept[p[0]] != a.Accept[p[1]] {
			return false
		}
		if seen[p] {
			continue
		}
		seen[p] = true
		for c := range a.Classes {
			work = append(work, [2]int{a.Next[p[0]][c], a.Next[p[1]][c]})
		}
	}
	return true
}

func checkShortest(t *testing.T, a, b Auto, texts [][]int) {
	find := func(good func(l []int) bool) ([]int, bool) {
		i := slices.IndexFunc(texts, good)
		if i < 0 {
			return nil, false
		}
		return texts[i], true
	}
	want, is := find(func(l []int) bool { return accepts(t, a, l) })
	got, found, err := Shortest(a)
	if err != api.OK || is && (!found || !slices.Equal(got, want)) || found && !accepts(t, a, got) {
		t.Fatal("Shortest", a, got, want)
	}
	want, is = find(func(l []int) bool { return accepts(t, a, l) != accepts(t, b, l) })
	got, found, err = Differ(a, b)
	if err != api.OK || is && (!found || !slices.Equal(got, want)) || found && accepts(t, a, got) == accepts(t, b, got) {
		t.Fatal("Differ", a, b, got, want)
	}
	minA, _ := Minimal(a)
	minB, _ := Minimal(b)
	if Equal(minA, minB) == found {
		t.Fatal("least automata are equal exactly if there is no difference")
	}
	for n := range 4 {
		want := 0
		for _, l := range words(leastSymbols(a), n) {
			if len(l) == n && accepts(t, a, l) {
				want++
			}
		}
		if got, err := Count(a, n); err != api.OK || got != want {
			t.Fatal("Count", a, n, got, want)
		}
	}
}

func leastSymbols(a Auto) []int {
	var l []int
	for _, c := range a.Classes {
		l = append(l, c[0].Lo)
	}
	return l
}

func TestValid(t *testing.T) {
	good := func() Auto {
		return Auto{Classes: [][]api.Span{span(0, 5, 7, 255), span(6, 6)}, Next: [][]int{{0, 1}, {1, 0}}, Accept: []bool{true, false}}
	}
	for i, c := range []struct {
		change func(a *Auto)
		want   api.Errno
	}{
		{func(a *Auto) {}, api.OK}, {func(a *Auto) { a.Classes[0][1].Hi = api.MaxSymbol }, api.OK}, {func(a *Auto) { a.Classes[0][1].Hi = 254 }, api.ErrArg}, {func(a *Auto) { a.Classes[0][1].Hi = 256 }, api.ErrArg},
		{func(a *Auto) { a.Classes[0], a.Classes[1] = a.Classes[1], a.Classes[0] }, api.ErrArg}, {func(a *Auto) { a.Classes[1] = nil }, api.ErrArg}, {func(a *Auto) { a.Classes[1] = span(6, 7) }, api.ErrArg}, {func(a *Auto) { a.Classes[1] = span(6, 6, 6, 6) }, api.ErrArg}, {func(a *Auto) { a.Classes[0][0].Lo = 1 }, api.ErrArg}, {func(a *Auto) { a.Classes = nil; a.Next = [][]int{{}, {}} }, api.ErrArg},
		{func(a *Auto) { a.Next[1][1] = 2 }, api.ErrArg}, {func(a *Auto) { a.Next[1][0] = -1 }, api.ErrArg}, {func(a *Auto) { a.Next[1] = []int{1} }, api.ErrArg}, {func(a *Auto) { a.Accept = a.Accept[:1] }, api.ErrArg}, {func(a *Auto) { *a = Auto{Classes: a.Classes} }, api.ErrArg},
		{func(a *Auto) { a.Next = make([][]int, 1025); a.Classes[1] = nil }, api.ErrLimit}, {func(a *Auto) { a.Accept = make([]bool, 1025) }, api.ErrLimit}, {func(a *Auto) { a.Classes = make([][]api.Span, 1025) }, api.ErrLimit},
	} {
		a := good()
		c.change(&a)
		if got := Valid(a); got != c.want {
			t.Errorf("case %d: %d", i, got)
		}
		_, err1 := Accepts(a, make([]int, api.MaxText+1))
		x, err2 := Minimal(a)
		_, err3 := Meet(good(), a)
		_, err4 := Union(a, good())
		_, err5 := Not(a)
		_, err6 := Reverse(a)
		_, _, err7 := Shortest(a)
		_, _, err8 := Differ(a, good())
		_, err9 := Count(a, -1)
		if c.want == api.OK {
			continue
		}
		for k, err := range []api.Errno{err1, err2, err3, err4, err5, err6, err7, err8, err9} {
			if err != c.want || x.Next != nil {
				t.Errorf("case %d: function %d returns %d", i, k, err)
			}
		}
	}
}

func TestOtherErrors(t *testing.T) {
	a := of(t, "a*")
	wide, _ := Of(api.Pattern{Runes: true})
	_, err1 := Meet(a, wide)
	_, err2 := Union(wide, a)
	_, _, err3 := Differ(a, wide)
	if err1 != api.ErrArg || err2 != api.ErrArg || err3 != api.ErrArg {
		t.Error("the tops differ", err1, err2, err3)
	}
	for i, c := range []struct {
		l    []int
		want api.Errno
	}{{append(make([]int, api.MaxText), -1), api.ErrLimit}, {[]int{256}, api.ErrRange}, {[]int{-1}, api.ErrRange}, {[]int{255}, api.OK}} {
		if is, err := Accepts(a, c.l); err != c.want || is {
			t.Errorf("Accepts %d: %d", i, err)
		}
	}
	all := of(t, `[\x00-\xff]*`)
	for _, c := range []struct {
		a    Auto
		n    int
		k    int
		want api.Errno
	}{{all, 4096, 1, api.OK}, {all, 4097, 0, api.ErrRange}, {all, -1, 0, api.ErrRange}, {of(t, "[ab][bc]*"), 2, 4, api.OK}, {of(t, "[^]*a"), 40, 1 << 39, api.OK}, {of(t, "[^]*a"), 42, 0, api.ErrLimit}, {of(t, "a|[^]*"), 41, 1, api.OK}} {
		n, err := Count(c.a, c.n)
		if err != c.want || n != c.k && c.k != 4 {
			t.Errorf("Count for %d: %d, %d", c.n, n, err)
		}
	}
	ring := func(n, from int) Auto {
		x := Auto{Classes: [][]api.Span{span(0, 255)}}
		for i := range n {
			x.Next = append(x.Next, []int{(i + 1) % n})
			x.Accept = append(x.Accept, i == from)
		}
		return x
	}
	if _, err := Meet(ring(32, 0), ring(33, 0)); err != api.ErrLimit {
		t.Error("1056 pairs")
	}
	if x, err := Meet(ring(31, 0), ring(33, 0)); err != api.OK || len(x.Next) != 1023 {
		t.Error("1023 pairs", err)
	}
	if _, _, err := Differ(ring(32, 0), ring(33, 1)); err != api.ErrLimit {
		t.Error("Differ: the limit counts, even if there is a difference")
	}
	big := of(t, "[^]{10}a[^]*")
	if _, err := Reverse(big); err != api.ErrLimit {
		t.Error("Reverse with too many sets of states")
	}
	if x, err := Reverse(of(t, "[^]{8}a[^]*")); err != api.OK || len(x.Next) < 512 {
		t.Error("Reverse with many states", err)
	}
	if l, found, err := Shortest(of(t, "[]")); l != nil || found || err != api.OK {
		t.Error("no text is accepted")
	}
	if l, found, err := Differ(a, a); l != nil || found || err != api.OK {
		t.Error("there is no difference")
	}
	if Equal(a, all) || !Equal(Auto{}, Auto{}) || Equal(Auto{Accept: []bool{true}}, Auto{Accept: []bool{false}}) || Equal(Auto{Next: [][]int{{1}}}, Auto{Next: [][]int{{2}}}) {
		t.Error("Equal")
	}
	many, evens := api.Re{Op: api.OpSet}, api.Re{Op: api.OpSet}
	for i := range 64 {
		many.Set = append(many.Set, api.Span{Lo: 4 * i, Hi: 4 * i})
		evens.Set = append(evens.Set, api.Span{Lo: 4*i + 2, Hi: 4*i + 2})
	}
	x, err := Of(api.Pattern{Re: many})
	y, err2 := Of(api.Pattern{Re: evens})
	_, err3 = Union(x, y)
	if err != api.OK || err2 != api.ErrLimit && err2 != api.OK || err2 == api.OK && err3 != api.ErrLimit {
		t.Error(err, err2, err3)
	}
}
