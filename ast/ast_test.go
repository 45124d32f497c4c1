package ast

import (
	"bytes"
	"reflect"
	"slices"
	"testing"

	"rexmill/api"
	"rexmill/sample"
)

func set(n ...int) api.Re {
	re := api.Re{Op: api.OpSet}
	for i := 0; i+1 < len(n); i += 2 {
		re.Set = append(re.Set, api.Span{Lo: n[i], Hi: n[i+1]})
	}
	return re
}

func node(op int, kids ...api.Re) api.Re { return api.Re{Op: op, Kids: kids} }

func rep(least, most, mode int, kid api.Re) api.Re {
	return api.Re{Op: api.OpRep, Min: least, Max: most, Mode: mode, Kids: []api.Re{kid}}
}

func capture(n int, kid api.Re) api.Re { return api.Re{Op: api.OpCap, N: n, Kids: []api.Re{kid}} }

// deep returns a tree of so many levels.
func deep(n int) api.Re {
	re := set('a', 'a')
	for range n - 1 {
		re = node(api.OpAtom, re)
	}
	return re
}

// wide returns an OpCat with n kids.
func wide(n int) api.Re {
	return node(api.OpCat, make([]api.Re, n)...)
}

func TestValid(t *testing.T) {
	a := set('a', 'a')
	comb := set()
	for i := range 65 {
		comb.Set = append(comb.Set, api.Span{Lo: 2 * i, Hi: 2 * i})
	}
	most := comb
	most.Set = comb.Set[:64]
	for i, c := range []struct {
		p    api.Pattern
		want api.Errno
	}{
		{api.Pattern{}, api.OK}, {api.Pattern{Re: a, Caps: 9}, api.OK}, {api.Pattern{Caps: 10}, api.ErrArg}, {api.Pattern{Caps: -1}, api.ErrArg},
		{api.Pattern{Re: deep(24)}, api.OK}, {api.Pattern{Re: deep(25)}, api.ErrLimit}, {api.Pattern{Re: deep(25), Caps: -1}, api.ErrLimit},
		{api.Pattern{Re: wide(255)}, api.OK}, {api.Pattern{Re: wide(256)}, api.ErrLimit}, {api.Pattern{Re: deep(60000)}, api.ErrLimit},
		{api.Pattern{Re: set(0, 255)}, api.OK}, {api.Pattern{Re: set(0, 256)}, api.ErrArg}, {api.Pattern{Re: set(0, 256), Runes: true}, api.OK},
		{api.Pattern{Re: set(0, api.MaxSymbol+1), Runes: true}, api.ErrArg}, {api.Pattern{Re: set(1, 2, 3, 4)}, api.ErrArg}, {api.Pattern{Re: set(1, 2, 4, 4)}, api.OK},
		{api.Pattern{Re: set(2, 1)}, api.ErrArg}, {api.Pattern{Re: set(-1, 1)}, api.ErrArg}, {api.Pattern{Re: comb}, api.ErrArg}, {api.Pattern{Re: most}, api.OK},
		{api.Pattern{Re: node(api.OpCat, a)}, api.ErrArg}, {api.Pattern{Re: node(api.OpAlt)}, api.ErrArg}, {api.Pattern{Re: node(api.OpAlt, a, a)}, api.OK},
		{api.Pattern{Re: node(api.OpRep, a)}, api.ErrArg}, {api.Pattern{Re: rep(0, -1, 3, a)}, api.ErrArg}, {api.Pattern{Re: rep(0, -1, -1, a)}, api.ErrArg},
		{api.Pattern{Re: rep(3, 2, 0, a)}, api.ErrArg}, {api.Pattern{Re: rep(32, 32, 2, a)}, api.OK}, {api.Pattern{Re: rep(33, -1, 0, a)}, api.ErrArg},
		{api.Pattern{Re: rep(0, 33, 0, a)}, api.ErrArg}, {api.Pattern{Re: rep(0, 0, 0, a)}, api.ErrArg}, {api.Pattern{Re: rep(0, -2, 0, a)}, api.ErrArg},
		{api.Pattern{Re: api.Re{Op: api.OpRep, Max: 1}}, api.ErrArg}, {api.Pattern{Re: api.Re{Op: api.OpRep, Max: 1, Kids: []api.Re{a, a}}}, api.ErrArg},
		{api.Pattern{Re: capture(1, a)}, api.ErrArg}, {api.Pattern{Re: capture(1, a), Caps: 1}, api.OK}, {api.Pattern{Re: capture(0, a), Caps: 1}, api.ErrArg},
		{api.Pattern{Re: api.Re{Op: api.OpRef, N: 1}, Caps: 1}, api.OK}, {api.Pattern{Re: api.Re{Op: api.OpRef, N: 2}, Caps: 1}, api.ErrArg},
		{api.Pattern{Re: api.Re{Op: api.OpRef, N: 1, Kids: []api.Re{a}}, Caps: 1}, api.ErrArg},
		{api.Pattern{Re: api.Re{Op: api.OpCond, N: 1, Kids: []api.Re{a, a}}, Caps: 1}, api.OK}, {api.Pattern{Re: api.Re{Op: api.OpCond, N: 1, Kids: []api.Re{a}}, Caps: 1}, api.ErrArg},
		{api.Pattern{Re: api.Re{Op: api.OpAssert, N: 5}}, api.OK}, {api.Pattern{Re: api.Re{Op: api.OpAssert, N: 6}}, api.ErrArg}, {api.Pattern{Re: api.Re{Op: api.OpAssert, N: -1}}, api.ErrArg},
		{api.Pattern{Re: api.Re{Op: api.OpAhead, Neg: true, Kids: []api.Re{a}}}, api.OK}, {api.Pattern{Re: api.Re{Op: api.OpAtom, Neg: true, Kids: []api.Re{a}}}, api.ErrArg},
		{api.Pattern{Re: node(api.OpBehind, a, a)}, api.ErrArg}, {api.Pattern{Re: node(api.OpAtom)}, api.ErrArg}, {api.Pattern{Re: node(12)}, api.ErrArg}, {api.Pattern{Re: node(-1)}, api.ErrArg},
		{api.Pattern{Re: api.Re{N: 1}, Caps: 1}, api.ErrArg}, {api.Pattern{Re: api.Re{Min: 1}}, api.ErrArg}, {api.Pattern{Re: api.Re{Mode: 1}}, api.ErrArg}, {api.Pattern{Re: api.Re{Op: api.OpCat, Max: 1, Kids: []api.Re{a, a}}}, api.ErrArg},
		{api.Pattern{Re: api.Re{Op: api.OpCap, N: 1, Set: a.Set, Kids: []api.Re{a}}, Caps: 1}, api.ErrArg}, {api.Pattern{Re: node(api.OpCat, a, set(9, 8))}, api.ErrArg},
	} {
		if got := Valid(c.p); got != c.want {
			t.Errorf("case %d: got %d, want %d", i, got, c.want)
		}
	}
	if Size(deep(300)) != 300 || Depth(deep(300)) != 300 || Size(wide(9)) != 10 || Depth(wide(9)) != 2 {
		t.Error("size or depth")
	}
}

func TestMeasures(t *testing.T) {
	a, e := set('a', 'a'), api.Re{}
	for i, c := range []struct {
		re          api.Re
		uses        int
		empty       bool
		least, most int
	}{
		{e, 0, true, 0, 0}, {set(), 0, false, 1, 1}, {rep(2, 3, 0, a), 0, false, 2, 3}, {rep(0, -1, 1, a), 0, true, 0, -1},
		{rep(1, -1, 2, e), Atoms | Loops, true, 0, 0}, {rep(1, 2, 0, rep(0, 1, 0, a)), Loops, true, 0, 2}, {api.Re{Op: api.OpRef, N: 1}, Refs, true, 0, -1},
		{node(api.OpCat, a, e, rep(0, -1, 0, a)), 0, false, 1, -1}, {node(api.OpCat, e, e), 0, true, 0, 0}, {node(api.OpAlt, a, e), 0, true, 0, 1},
		{node(api.OpAlt, a, rep(2, -1, 0, a)), 0, false, 1, -1}, {api.Re{Op: api.OpCond, N: 1, Kids: []api.Re{a, rep(3, 3, 0, a)}}, Conds, false, 1, 3},
		{node(api.OpAhead, a), Looks, true, 0, 0}, {node(api.OpBehind, capture(1, a)), Looks | Caps, true, 0, 0}, {node(api.OpAtom, a), Atoms, false, 1, 1},
		{api.Re{Op: api.OpAssert}, Asserts, true, 0, 0}, {capture(1, rep(0, 1, 0, a)), Caps, true, 0, 1},
		{rep(32, 32, 0, rep(32, 32, 0, rep(32, 32, 0, rep(32, 32, 0, a)))), 0, false, 1000000, 1000000},
		{rep(0, 5, 0, rep(0, -1, 0, a)), Loops, true, 0, -1}, {rep(0, -1, 0, node(api.OpCat, e, e)), Loops, true, 0, 0},
	} {
		least, most := Lengths(c.re)
		if Uses(c.re) != c.uses || Nullable(c.re) != c.empty || least != c.least || most != c.most {
			t.Errorf("case %d: %d %v %d %d", i, Uses(c.re), Nullable(c.re), least, most)
		}
	}
}

func TestCompare(t *testing.T) {
	a := set('a', 'a')
	order := []api.Re{
		{}, {N: 1}, set(), set(1, 1), set(1, 2), set(2, 2), set(0, 0, 2, 2),
		node(api.OpCat), node(api.OpCat, a, a), node(api.OpCat, a, set('b', 'b')), node(api.OpCat, a, a, a),
		rep(0, -1, 0, a), rep(0, -1, 1, a), rep(0, 1, 0, a), rep(1, -1, 0, a),
		capture(1, a), capture(2, set()), node(api.OpAhead, a), {Op: api.OpAhead, Neg: true, Kids: []api.Re{a}},
	}
	for i, x := range order {
		for k, y := range order {
			want := 0
			if i < k {
				want = -1
			} else if i > k {
				want = 1
			}
			if got := Compare(x, y); got != want {
				t.Errorf("Compare of %d and %d is %d", i, k, got)
			}
		}
	}
}

func TestParts(t *testing.T) {
	r := sample.New(1)
	for range 400 {
		p := r.Pattern(sample.All(), 5)
		re := p.Re
		paths := Paths(re)
		if len(paths) != Size(re) || len(paths[0]) != 0 || !slices.IsSortedFunc(paths, slices.Compare[[]int]) {
			t.Fatal("Paths")
		}
		least, _ := Lengths(re)
		if (least == 0) != Nullable(re) {
			t.Fatalf("%v: least length %d", re, least)
		}
		path := paths[r.Int(len(paths))]
		old, err := At(re, path)
		same, err2 := Put(re, path, old)
		if err+err2 != api.OK || Compare(same, re) != 0 {
			t.Fatal("Put of what At returned changes something")
		}
		with := r.Pattern(sample.All(), 3).Re
		next, _ := Put(re, path, with)
		got, _ := At(next, path)
		if Compare(got, with) != 0 || Size(next) != Size(re)-Size(old)+Size(with) || Compare(re, p.Re) != 0 {
			t.Fatal("Put")
		}
		wrong := append(slices.Clone(path), 99)
		if _, err := At(re, wrong); err != api.ErrNone {
			t.Fatal("At of nothing")
		}
		if x, err := Put(re, wrong, with); err != api.ErrNone || Compare(x, api.Re{}) != 0 {
			t.Fatal("Put of nothing")
		}
		if _, err := At(re, []int{-1}); err != api.ErrNone {
			t.Fatal("At of a negative index")
		}
	}
	re := node(api.OpCat, capture(3, capture(1, set())), capture(3, set()), capture(2, set()))
	if !slices.Equal(Numbers(re), []int{3, 1, 2}) || len(Numbers(set())) != 0 {
		t.Error("Numbers")
	}
	x, _ := At(re, nil)
	x.Kids[0].N = 9
	if re.Kids[0].N != 3 {
		t.Error("At shares memory with the tree")
	}
}

func TestExpand(t *testing.T) {
	a := set('a', 'a')
	opt := func(x api.Re) api.Re { return rep(0, 1, 0, x) }
	cat := func(l ...api.Re) api.Re { return node(api.OpCat, l...) }
	for i, c := range [][2]api.Re{
		{rep(2, 3, 0, a), cat(a, a, opt(a))}, {rep(1, 1, 1, a), a}, {rep(0, 2, 0, a), opt(cat(a, opt(a)))}, {rep(0, 3, 0, a), opt(cat(a, opt(cat(a, opt(a)))))},
		{rep(2, -1, 1, a), cat(a, a, rep(0, -1, 1, a))}, {rep(2, 2, 0, a), cat(a, a)}, {rep(0, -1, 0, api.Re{}), rep(0, -1, 0, api.Re{})},
		{rep(1, 1, 0, rep(1, 2, 1, a)), cat(a, rep(0, 1, 1, a))}, {rep(1, 3, 0, capture(1, a)), cat(capture(1, a), opt(cat(capture(1, a), opt(capture(1, a)))))},
	} {
		got, err := Expand(c[0])
		again, _ := Expand(got)
		if err != api.OK || Compare(got, c[1]) != 0 || Compare(again, got) != 0 {
			t.Errorf("case %d: %v %d", i, got, err)
		}
		if expandedSize(c[0]) != Size(got) {
			t.Errorf("case %d: size %d", i, expandedSize(c[0]))
		}
	}
	big := rep(32, 32, 0, rep(32, 32, 0, a))
	for i, c := range []struct {
		re   api.Re
		want api.Errno
	}{
		{rep(0, -1, 2, a), api.ErrKind}, {rep(1, 2, 0, opt(a)), api.ErrKind}, {rep(0, 1, 0, api.Re{}), api.OK}, {big, api.OK}, {rep(4, 4, 0, big), api.ErrLimit},
		{cat(rep(4, 4, 0, big), rep(0, 1, 2, a)), api.ErrKind}, {rep(1, 1, 0, rep(32, 32, 0, rep(32, 32, 0, big))), api.ErrLimit}, {rep(3, 4, 0, rep(32, 32, 0, rep(32, 32, 0, a))), api.ErrLimit},
	} {
		if re, err := Expand(c.re); err != c.want || err != api.OK && Compare(re, api.Re{}) != 0 {
			t.Errorf("limit %d: %d", i, err)
		}
	}
	r := sample.New(2)
	shape := sample.All()
	shape.Atoms = false
	for range 400 {
		re := r.Pattern(shape, 5).Re
		got, err := Expand(re)
		if err != api.OK {
			continue
		}
		numbers := Numbers(got)
		if Uses(got) != Uses(re) || !slices.Equal(numbers, Numbers(re)) || Nullable(got) != Nullable(re) || Size(got) != expandedSize(re) {
			t.Fatalf("%v is expanded to %v", re, got)
		}
	}
}

func TestExactLimitOfExpand(t *testing.T) {
	// 4095 leaves under one OpCat: 32 * 32 * 3 + 32 * 31 + 31 leaves, in parts that are joined.
	kids := make([]api.Re, 255)
	for i := range kids {
		kids[i] = set('a', 'a')
	}
	re := rep(16, 16, 0, node(api.OpCat, kids[:254]...))
	got, err := Expand(re)
	if err != api.OK || Size(got) != 4081 {
		t.Errorf("%d nodes, %d", Size(got), err)
	}
	for _, extra := range []int{15, 16} {
		got, err := Expand(node(api.OpCat, append([]api.Re{re}, kids[:extra-1]...)...))
		if (extra == 15) != (err == api.OK) || err == api.OK && Size(got) != 4096 {
			t.Errorf("%d more: %d nodes, %d", extra, Size(got), err)
		}
	}
}

func TestEncode(t *testing.T) {
	p := api.Pattern{Re: rep(2, 3, 1, set(1, 2, 5, 5)), Caps: 2, Runes: true}
	want := []byte{4, 1, 1, 8, 5, 4, 6, 2, 0, 0, 2, 5, 2, 2, 4, 10, 10, 5, 0, 0, 0, 0, 0, 0}
	if got := Encode(p); !bytes.Equal(got, want) {
		t.Errorf("got %v", got)
	}
	r := sample.New(3)
	for range 300 {
		p := r.Pattern(sample.All(), 5)
		b := Encode(p)
		got, err := Decode(b)
		if err != api.OK || !bytes.Equal(Encode(got), b) || Compare(got.Re, p.Re) != 0 || got.Caps != p.Caps {
			t.Fatalf("%v is read as %v", p, got)
		}
		for range 10 {
			c := slices.Clone(b)
			c[r.Int(len(c))] ^= 1 << r.Int(8)
			if q, err := Decode(c); err == api.OK && (!bytes.Equal(Encode(q), c) || Valid(q) != api.OK) {
				t.Fatal("bytes that are no encoding are read")
			}
			if q, err := Decode(b[:r.Int(len(b))]); err != api.ErrForm || !reflect.DeepEqual(q, api.Pattern{}) {
				t.Fatal("a prefix is read")
			}
		}
	}
	for i, p := range []api.Pattern{{Re: deep(25)}, {Re: wide(256)}, {Caps: 10}, {Re: set(2, 1)}, {Re: node(api.OpCat)}, {Re: deep(5000)}} {
		if _, err := Decode(Encode(p)); err != api.ErrForm {
			t.Errorf("pattern %d is read", i)
		}
	}
	if _, err := Decode(append(Encode(p), 0)); err != api.ErrForm {
		t.Error("a byte is left")
	}
}
