package memo

import (
	"iter"
	"slices"
	"strconv"
	"testing"

	"rexmill/api"
	"rexmill/ast"
	"rexmill/sample"
	"rexmill/sem"
	"rexmill/syntax"
	"rexmill/text"
)

func parse(t *testing.T, s string) api.Pattern {
	p, _, err := syntax.Parse(s, syntax.Flags{})
	if err != api.OK {
		t.Fatal(s, err)
	}
	return p
}

func symbols(s string) []int {
	l, _ := text.Decode([]byte(s), false)
	return l
}

type result = iter.Seq2[int, []int]

// slow is the evaluation with memory, written with iterators: what comes after a beginning runs while its results are yielded, so a beginning has failed when all of them were yielded.
type slow struct {
	text    []int
	context bool
	steps   int
	failed  map[string]bool
}

// where is what tells beginnings apart: the path to the node, what is around it inside of the part, and where the part ends.
type where struct{ path, around, end string }

func str(l ...int) string {
	s := ""
	for _, n := range l {
		s += strconv.Itoa(n) + ","
	}
	return s
}

func (x *slow) begin(key string, i int, c []int, w where, l result) result {
	return func(yield func(int, []int) bool) {
		key := key + "@" + str(i) + w.path + "/" + w.around + "/" + w.end
		if x.context {
			key += str(c...)
		}
		if x.failed[key] {
			return
		}
		x.steps++
		for j, d := range l {
			if !yield(j, d) {
				return
			}
		}
		x.failed[key] = true
	}
}

func head(l result, want int) (int, []int, bool) {
	for j, d := range l {
		if want < 0 || j == want {
			return j, d, true
		}
	}
	return 0, nil, false
}

func one(j int, d []int) result {
	return func(yield func(int, []int) bool) { yield(j, d) }
}

func (w where) kid(n int) where {
	w.path += "." + strconv.Itoa(n)
	return w
}

func (x *slow) tree(re api.Re, w where, i int, c []int) result {
	if re.Op != api.OpRep {
		return x.begin("M", i, c, w, x.results(re, w, i, c))
	}
	if re.Mode != api.Possessive {
		return x.round(re, w, 0, i, c)
	}
	return func(yield func(int, []int) bool) {
		re.Mode = api.Greedy
		if j, d, found := head(x.round(re, where{path: w.path}, 0, i, c), -1); found {
			yield(j, d)
		}
	}
}

func (x *slow) results(re api.Re, w where, i int, c []int) result {
	return func(yield func(int, []int) bool) {
		all := func(l result) bool {
			for j, d := range l {
				if !yield(j, d) {
					return false
				}
			}
			return true
		}
		switch re.Op {
		case api.OpEmpty:
			yield(i, c)
		case api.OpSet:
			if i < len(x.text) && slices.ContainsFunc(re.Set, func(s api.Span) bool { return s.Lo <= x.text[i] && x.text[i] <= s.Hi }) {
				yield(i+1, c)
			}
		case api.OpAssert:
			if text.Assert(re.N, x.text, i) {
				yield(i, c)
			}
		case api.OpCat:
			all(x.sequence(re, w, 0, i, c))
		case api.OpAlt:
			for n, kid := range re.Kids {
				if !all(x.tree(kid, w.kid(n), i, c)) {
					return
				}
			}
		case api.OpCap:
			inside := w.kid(0)
			if x.context {
				inside.around += "c" + str(i)
			}
			for j, d := range x.tree(re.Kids[0], inside, i, c) {
				d = slices.Clone(d)
				d[2*re.N-2], d[2*re.N-1] = i, j
				if !yield(j, d) {
					return
				}
			}
		case api.OpRef:
			f, t := c[2*re.N-2], c[2*re.N-1]
			if f >= 0 && i+t-f <= len(x.text) && slices.Equal(x.text[f:t], x.text[i:i+t-f]) {
				yield(i+t-f, c)
			}
		case api.OpCond:
			n := 0
			if c[2*re.N-2] < 0 {
				n = 1
			}
			all(x.tree(re.Kids[n], w.kid(n), i, c))
		default:
			x.part(re, w.kid(0), i, c, yield)
		}
	}
}

func (x *slow) part(re api.Re, w where, i int, c []int, yield func(int, []int) bool) {
	j, d, found := 0, c, false
	w.around, w.end = "", ""
	if re.Op == api.OpBehind {
		w.end = str(i)
		for s := i; s >= 0 && !found; s-- {
			_, d, found = head(x.tree(re.Kids[0], w, s, c), i)
		}
	} else {
		j, d, found = head(x.tree(re.Kids[0], w, i, c), -1)
	}
	switch {
	case re.Neg && !found:
		yield(i, c)
	case re.Neg || !found:
	case re.Op == api.OpAtom:
		yield(j, d)
	default:
		yield(i, d)
	}
}

func (x *slow) sequence(re api.Re, w where, n, i int, c []int) result {
	if n == len(re.Kids) {
		return one(i, c)
	}
	return func(yield func(int, []int) bool) {
		for j, d := range x.tree(re.Kids[n], w.kid(n), i, c) {
			for k, e := range x.sequence(re, w, n+1, j, d) {
				if !yield(k, e) {
					return
				}
			}
		}
	}
}

func (x *slow) round(re api.Re, w where, k, i int, c []int) result {
	number := k
	if re.Max < 0 {
		number = min(k, re.Min)
	}
	inside := w.kid(0)
	inside.around += "r" + str(number)
	if k >= re.Min && ast.Nullable(re.Kids[0]) {
		inside.around += "p" + str(i)
	}
	return x.begin("R"+str(number), i, c, w, func(yield func(int, []int) bool) {
		more := func() bool {
			if k >= re.Min && re.Max >= 0 && k >= re.Max {
				return true
			}
			for j, d := range x.tree(re.Kids[0], inside, i, c) {
				if k >= re.Min && j == i {
					continue
				}
				for e, f := range x.round(re, w, k+1, j, d) {
					if !yield(e, f) {
						return false
					}
				}
			}
			return true
		}
		switch {
		case k < re.Min:
			more()
		case re.Mode == api.Greedy:
			_ = more() && yield(i, c)
		default:
			_ = yield(i, c) && more()
		}
	})
}

func TestExamples(t *testing.T) {
	for _, c := range []struct {
		p, s         string
		steps, plain int
	}{
		{"(?:a|a)*b", "a", 11, 16}, {"a|b", "b", 3, 3}, {"(?:a|a)*b", "aaaaaaaa", 46, 0},
	} {
		_, _, steps, err := Run(parse(t, c.p), symbols(c.s), 0, 100)
		if steps != c.steps || err != api.OK {
			t.Errorf("%s on %s: %d steps, %d", c.p, c.s, steps, err)
		}
		if _, n, _ := sem.All(parse(t, c.p), symbols(c.s), 0, 1, 100); c.plain > 0 && n != c.plain {
			t.Errorf("%s on %s: %d plain steps", c.p, c.s, n)
		}
	}
}

func TestSame(t *testing.T) {
	r := sample.New(1)
	saved := 0
	for i := range 8000 {
		p := r.Pattern(sample.All(), 3+r.Int(4))
		l := r.Text("abcd", 8)
		at := r.Int(len(l) + 1)
		want, plain, err := sem.All(p, l, at, 1, 100000)
		if err != api.OK {
			continue
		}
		m, found, steps, err := Run(p, l, at, plain)
		if err != api.OK || found != (len(want) > 0) || found && !sem.Equal(m, want[0]) || steps > plain || !found && !sem.Equal(m, api.Match{}) {
			t.Fatalf("%d: %v on %v at %d: %v", i, p, l, at, m)
		}
		x := &slow{text: l, context: ast.Uses(p.Re)&(ast.Refs|ast.Conds) != 0, failed: map[string]bool{}}
		head(x.tree(p.Re, where{}, at, slices.Repeat([]int{-1}, 2*p.Caps)), -1)
		if steps != x.steps {
			t.Fatalf("%d: %v on %v at %d: %d steps, want %d", i, p, l, at, steps, x.steps)
		}
		saved += plain - steps
		if _, _, n, err := Run(p, l, at, steps); err != api.OK || n != steps {
			t.Fatal("the fuel that suffices")
		}
		if m, found, n, err := Run(p, l, at, steps-1); err != api.ErrFuel || found || n != 0 || !sem.Equal(m, api.Match{}) {
			t.Fatal("one step less")
		}
		if bound, err := Bound(p, len(l)); err == api.OK && bound < steps {
			t.Fatalf("%v: more steps than the bound", p)
		}
	}
	if saved < 1000 {
		t.Error("the memory saves nothing")
	}
}

func TestErrors(t *testing.T) {
	a := parse(t, "a")
	for i, c := range []struct {
		p        api.Pattern
		l        []int
		at, fuel int
		want     api.Errno
	}{
		{api.Pattern{Caps: 10}, make([]int, api.MaxText+1), -1, -1, api.ErrArg}, {a, append(make([]int, api.MaxText), 300), -1, -1, api.ErrLimit}, {a, []int{256}, 5, 9, api.ErrArg}, {a, nil, 1, -1, api.ErrArg}, {a, nil, 1, api.MaxFuel + 1, api.ErrArg}, {a, nil, 1, 0, api.ErrRange}, {a, nil, -1, 5, api.ErrRange}, {a, nil, 0, 0, api.ErrFuel}, {a, nil, 0, 1, api.OK},
	} {
		if _, found, n, err := Run(c.p, c.l, c.at, c.fuel); err != c.want || found || err != api.OK && n != 0 {
			t.Errorf("case %d: %d", i, err)
		}
	}
}

func TestBound(t *testing.T) {
	for _, c := range []struct {
		s    string
		n    int
		want int
		err  api.Errno
	}{
		{"a{1,2}", 0, 36, api.OK}, {"a", 0, 4, api.OK}, {"", 65536, 65538 * 65538, api.OK}, {"a*", 1, 3 * 9, api.OK}, {"a{2,}", 1, 9 * 9, api.OK}, {"(?:a?)*", 1, (2*3 + 2) * 27, api.OK}, {"(?=a)", 1, 2 * 9 * 2 * 9, api.OK}, {"(?:(?=a)|a*+)b", 0, 8 * 4 * 8 * 4, api.OK},
		{"a", 65537, 0, api.ErrRange}, {"a", -1, 0, api.ErrRange}, {`(a)\1`, -1, 0, api.ErrKind}, {"(a)(?(1)a|b)", 1, 0, api.ErrKind}, {"(?:a?)*", 65536, 0, api.ErrLimit}, {"(?=(?=(?=(?=a))))", 65536, 0, api.ErrLimit}, {"(?:(?:(?:(?:(?:(?:(?:(?:a{32}){32}){32}){32}){32}){32}){32}){32}){32}", 0, 0, api.ErrLimit}, {"a*+", 0, 3 * 4 * 3 * 4, api.OK},
	} {
		if n, err := Bound(parse(t, c.s), c.n); n != c.want || err != c.err {
			t.Errorf("%s: %d, %d", c.s, n, err)
		}
	}
	if _, err := Bound(api.Pattern{Caps: 10}, -1); err != api.ErrArg {
		t.Error("the error of Valid comes first")
	}
}

func TestLong(t *testing.T) {
	l := slices.Repeat([]int{'a'}, 20000)
	_, found, steps, err := Run(parse(t, "(?:a|a)*b"), l, 0, api.MaxFuel)
	if found || err != api.OK || steps != 5*20000+6 {
		t.Error(found, steps, err)
	}
	p := parse(t, "(?:a|a)*b")
	for n := range 6 {
		if x, err := sem.Steps(p, l[:n], 0, api.MaxFuel); err != api.OK || x < 1<<n {
			t.Error("the plain backtracker takes more than 2^n steps")
		}
	}
}
