package bound

import (
	"bytes"
	"slices"
	"strings"
	"testing"

	"rexmill/amb"
	"rexmill/api"
	"rexmill/growth"
	"rexmill/prog"
	"rexmill/sample"
	"rexmill/sem"
	"rexmill/syntax"
)

func parse(t *testing.T, s string) api.Pattern {
	p, _, err := syntax.Parse(s, syntax.Flags{})
	if err != api.OK {
		t.Fatal(s, err)
	}
	return p
}

func TestExamples(t *testing.T) {
	for _, c := range []struct {
		s              string
		ranks          []int
		factor, degree int
	}{
		{"a*a*b", []int{0, 1, 1, 1}, 528, 2}, {"a*b", []int{0, 0, 0}, 2 * 4 * 3 * 5, 1}, {"", []int{0}, 2, 0}, {"ab", []int{0, 0, 0}, 2 * 3 * 3 * 3, 0}, {"a|b", []int{0, 0, 0}, 2 * 3 * 3 * 4, 0},
		{"a*b*", []int{0, 0, 0}, 2 * 5 * 3 * (1 + 2 + 4), 1}, {"(?:ab)*a", []int{0, 0, 0, 0}, 2 * 6 * 4 * (2*1 + 2 + 2), 1}, {"[]a*", []int{0, 0, 0}, 2 * 4 * 3 * 1, 0}, {"a*[ab]", []int{0, 0, 0}, 2 * 4 * 3 * 5, 1}, {"a*[ab]c*", []int{0, 1, 1, 1}, 2 * 6 * 4 * (1 + 2 + 2 + 4), 2},
	} {
		got, err := Of(parse(t, c.s))
		if err != api.OK || !slices.Equal(got.Ranks, c.ranks) || got.Factor != c.factor || got.Degree != c.degree {
			t.Errorf("%s: %v %d", c.s, got, err)
		}
	}
	c, _ := Of(parse(t, "a*a*b"))
	if n, err := Steps(c, 1); n != 2112 || err != api.OK {
		t.Error(n)
	}
}

// certified checks a certificate against the definition, by looking at all pairs of edges and nodes.
func certified(x amb.Graph, c Cert) bool {
	n := len(x.Nodes)
	leads := func(a, b int) bool {
		seen := map[int]bool{}
		work := []int{a}
		for len(work) > 0 {
			i := work[0]
			work = work[1:]
			for _, e := range x.Edges {
				if e.From == i && !seen[e.To] {
					seen[e.To] = true
					work = append(work, e.To)
				}
			}
		}
		return seen[b]
	}
	table := make([][]bool, n)
	for a := range n {
		table[a] = make([]bool, n)
		for b := range n {
			table[a][b] = leads(a, b)
		}
	}
	reached := func(i int) bool {
		for a, k := range x.First {
			if k > 0 && (a == i || table[a][i]) {
				return true
			}
		}
		return false
	}
	same := func(a, b int) bool { return a == b || table[a][b] && table[b][a] }
	reads := func(i, class int) bool {
		return slices.ContainsFunc(x.Edges, func(e amb.Edge) bool { return e.From == i && e.Class == class })
	}
	common := func(a, b int) bool {
		for c := range x.Classes {
			if reads(a, c) && reads(b, c) {
				return true
			}
		}
		return false
	}
	open := func(i int) bool {
		for _, e := range x.Edges {
			for _, f := range x.Edges {
				if e.From == f.From && same(e.From, i) && table[i][i] && e.Class == f.Class && e.To != f.To && common(e.To, f.To) && (same(e.To, i) || same(f.To, i)) {
					return true
				}
			}
		}
		return false
	}
	ahead := func(i int) bool {
		for k := range n {
			if table[k][k] && (k == i || table[i][k]) {
				return true
			}
		}
		return false
	}
	if len(c.Ranks) != n {
		return false
	}
	greatest := -1
	loop := false
	for i, r := range c.Ranks {
		if r < 0 || r > 64 {
			return false
		}
		if reached(i) {
			greatest = max(greatest, r)
			loop = loop || table[i][i]
		}
	}
	for _, e := range x.Edges {
		if !reached(e.From) {
			continue
		}
		least := c.Ranks[e.From]
		if same(e.From, e.To) {
			if c.Ranks[e.To] != least {
				return false
			}
			continue
		}
		if open(e.From) && ahead(e.To) {
			least++
		}
		if c.Ranks[e.To] < least {
			return false
		}
	}
	return !loop || c.Degree >= greatest+1
}

func TestAtRandom(t *testing.T) {
	r := sample.New(1)
	good := 0
	for range 1000 {
		p := r.Pattern(sample.Shape{Caps: true}, 2+r.Int(5))
		g, err := prog.Compile(p)
		x, err2 := amb.Of(g)
		if err+err2 != api.OK {
			continue
		}
		c, err := Of(p)
		grows, _ := growth.Of(p)
		if (err == api.ErrNone) != (grows.Kind == growth.Exponential) {
			t.Fatalf("%v: %d", p, err)
		}
		if err != api.OK {
			continue
		}
		good++
		if Check(p, c) != api.OK || !certified(x, c) || grows.Degree > c.Degree {
			t.Fatalf("%v: %v", p, c)
		}
		for range 3 {
			l := r.Text("abcd", 8)
			steps, err := sem.Steps(p, l, 0, 3000000)
			most, err2 := Steps(c, len(l))
			if err+err2 == api.OK && steps > most {
				t.Fatalf("%v takes %d steps on %v", p, steps, l)
			}
			rank := 0
			for i, k := range c.Ranks {
				if k > rank && i >= 0 {
					rank = k
				}
			}
			ways, _ := amb.Count(x, l)
			if most, err := Steps(Cert{Factor: c.Factor, Degree: rank}, len(l)); err == api.OK && ways > most {
				t.Fatalf("%v has %d ways", p, ways)
			}
		}
		checkOthers(t, r, p, x, c)
	}
	if good < 400 {
		t.Error("too few certificates", good)
	}
}

// checkOthers changes a certificate.
func checkOthers(t *testing.T, r *sample.Rand, p api.Pattern, x amb.Graph, c Cert) {
	more := c
	more.Factor++
	more.Degree++
	less := c
	less.Factor--
	if Check(p, more) != api.OK || Check(p, less) != api.ErrProof {
		t.Fatal("another factor")
	}
	less = c
	less.Degree--
	if Check(p, less) != api.ErrProof {
		t.Fatal("a lesser degree")
	}
	other := c
	for range 4 {
		other.Ranks = slices.Clone(c.Ranks)
		other.Ranks[r.Int(len(c.Ranks))] += r.Int(4) - 1
		if r.Int(3) == 0 {
			for i := range other.Ranks {
				other.Ranks[i]++
			}
		}
		other.Degree = c.Degree + r.Int(3)
		if (Check(p, other) == api.OK) != certified(x, other) {
			t.Fatalf("%v with %v: %d", p, other, Check(p, other))
		}
	}
}

func TestCheckLimits(t *testing.T) {
	p := parse(t, "a*")
	c, _ := Of(p)
	for i, change := range []func(c *Cert){
		func(c *Cert) { c.Ranks = c.Ranks[:1] }, func(c *Cert) { c.Ranks = append(slices.Clone(c.Ranks), 0) }, func(c *Cert) { c.Ranks = []int{65, 65}; c.Degree = 64 }, func(c *Cert) { c.Ranks = []int{-1, 0} }, func(c *Cert) { c.Factor = api.MaxFuel + 1 }, func(c *Cert) { c.Degree = 65 }, func(c *Cert) { c.Ranks = nil },
	} {
		d := Cert{slices.Clone(c.Ranks), c.Factor, c.Degree}
		change(&d)
		if Check(p, d) != api.ErrProof {
			t.Error("case", i)
		}
	}
	if Check(p, Cert{[]int{63, 64}, api.MaxFuel, 64}) != api.ErrProof || Check(p, Cert{[]int{63, 63}, api.MaxFuel, 64}) != api.OK {
		t.Error("the greatest ranks")
	}
	if Check(parse(t, "ab"), Cert{[]int{5, 5, 5}, 100, 0}) != api.OK {
		t.Error("ranks without a loop")
	}
}

func TestErrors(t *testing.T) {
	for _, c := range []struct {
		s    string
		want api.Errno
	}{{"(?=a)", api.ErrKind}, {"^", api.ErrKind}, {strings.Repeat("a", 64), api.ErrLimit}, {"(?:a|a)*", api.ErrNone}, {strings.Repeat("(?:a|a)", 31), api.ErrLimit}, {"(?:(?:a{32}){32}){9}", api.ErrLimit}} {
		p := parse(t, c.s)
		got, err := Of(p)
		if err != c.want || got.Ranks != nil || Check(p, Cert{}) != c.want {
			t.Errorf("%s: %d", c.s, err)
		}
	}
	for i, c := range []struct {
		c    Cert
		n    int
		want int
		err  api.Errno
	}{
		{Cert{Factor: 1}, 0, 1, api.OK}, {Cert{Factor: 0}, 0, 0, api.ErrArg}, {Cert{Factor: api.MaxFuel + 1}, 0, 0, api.ErrArg}, {Cert{Factor: api.MaxFuel}, 65536, api.MaxFuel, api.OK}, {Cert{Factor: 3, Degree: 2}, 4, 75, api.OK}, {Cert{Factor: 1, Degree: -1}, 4, 0, api.ErrArg}, {Cert{Factor: 1, Degree: 65}, 0, 0, api.ErrArg}, {Cert{Factor: 1, Degree: 64}, 0, 1, api.OK}, {Cert{Factor: 1, Degree: 64}, 1, 0, api.ErrLimit}, {Cert{Factor: 1, Degree: 40}, 1, 1 << 40, api.OK}, {Cert{Factor: 2, Degree: 40}, 1, 0, api.ErrLimit}, {Cert{Factor: 1}, -1, 0, api.ErrArg}, {Cert{Factor: 1}, 65537, 0, api.ErrArg},
	} {
		if n, err := Steps(c.c, c.n); n != c.want || err != c.err {
			t.Errorf("Steps %d: %d, %d", i, n, err)
		}
	}
}

func TestRough(t *testing.T) {
	for _, c := range []struct {
		s         string
		n         int
		low, high int
	}{
		{"a", 5, 1, 1}, {"", 5, 1, 1}, {"ab", 5, 2, 3}, {"a|b", 0, 3, 3}, {"(a)", 0, 2, 2}, {"(?>a|b)", 0, 3, 4}, {"(?=a|bc)", 3, 3, 6}, {"(?<=a)", 3, 2, 5}, {"a*", 2, 2, 6}, {"a*?", 2, 2, 6}, {"(?>a*?)", 2, 2, 7}, {"(?>a+?)", 2, 3, 9}, {"a*+", 0, 2, 2}, {"(?:a|b)*", 1, 4, (1 + 3) * 3}, {"(?:a|b)++", 1, 3, 4 * 7}, {"(?:a|b){2,3}", 9, 4, 4 * 15}, {"(?#1)(?(1)a|bc)", 0, 2, 4}, {`(?#1)\1`, 9, 1, 1}, {"(?:a|b)(?:a|b)c", 0, 4, 1 + 3 + 6 + 4},
		{"(?:a|b)*", 60, 4, -1}, {"(?:a|b)*", 65536, 4, -1}, {"(?:a|b)*+", 30, 3, 4 * (1<<31 - 1)}, {"(?<=(?:a|b){32})", 65536, 4, -1}, {"(?:a|b){32}", 65536, 4, 4 * (1<<33 - 1)},
	} {
		low, high, err := Rough(parse(t, c.s), c.n)
		if low != c.low || high != c.high || err != api.OK {
			t.Errorf("%s with %d: %d %d %d", c.s, c.n, low, high, err)
		}
	}
	if _, _, err := Rough(api.Pattern{Re: api.Re{Op: api.OpCat, Kids: make([]api.Re, 256)}}, -1); err != api.ErrLimit {
		t.Error("the error of Valid comes first")
	}
	for _, n := range []int{-1, api.MaxText + 1} {
		if _, _, err := Rough(parse(t, "a"), n); err != api.ErrArg {
			t.Error("Rough for", n)
		}
	}
	r := sample.New(2)
	for range 4000 {
		p := r.Pattern(sample.All(), 2+r.Int(5))
		l := r.Text("abcd", 6)
		low, high, _ := Rough(p, len(l))
		steps, err := sem.Steps(p, l, 0, 300000)
		if err == api.OK && (steps < low || high >= 0 && steps > high) {
			t.Fatalf("%v on %v: %d steps, not %d to %d", p, l, steps, low, high)
		}
	}
}

func TestEncode(t *testing.T) {
	for _, c := range []Cert{{}, {[]int{0, 1, -7}, 528, 2}, {[]int{1 << 50}, -3, -4}} {
		b := Encode(c)
		got, err := Decode(b)
		if err != api.OK || !slices.Equal(got.Ranks, c.Ranks) || got.Factor != c.Factor || got.Degree != c.Degree {
			t.Error(got, err)
		}
		if _, err := Decode(append(b, 1)); err != api.ErrForm {
			t.Error("a byte is left")
		}
		if x, err := Decode(b[:len(b)-1]); err != api.ErrForm || x.Ranks != nil || x.Factor != 0 {
			t.Error("a byte is missing")
		}
	}
	if !bytes.Equal(Encode(Cert{[]int{1, 2}, 3, 4}), []byte{2, 2, 4, 6, 8}) {
		t.Error("Encode")
	}
}
