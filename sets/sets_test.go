package sets

import (
	"slices"
	"testing"

	"rexmill/api"
	"rexmill/sample"
)

const top = api.MaxSymbol

func spans(n ...int) []api.Span {
	var l []api.Span
	for i := 0; i+1 < len(n); i += 2 {
		l = append(l, api.Span{Lo: n[i], Hi: n[i+1]})
	}
	return l
}

// comb returns n spans of one symbol each with gaps.
func comb(n, from int) []api.Span {
	var l []api.Span
	for i := range n {
		l = append(l, api.Span{Lo: from + 2*i, Hi: from + 2*i})
	}
	return l
}

// random returns a set of symbols from 0 to 30, and the same as truth values.
func random(r *sample.Rand) ([]api.Span, []bool) {
	in := make([]bool, 31)
	var l []api.Span
	for range r.Int(6) {
		lo := r.Int(31)
		hi := min(30, lo+r.Int(6))
		l = append(l, api.Span{Lo: lo, Hi: hi})
		for i := lo; i <= hi; i++ {
			in[i] = true
		}
	}
	s, _ := Normal(l)
	return s, in
}

func TestValidHasEqual(t *testing.T) {
	for i, c := range []struct {
		l    []api.Span
		want api.Errno
	}{
		{nil, api.OK}, {spans(0, top), api.OK}, {spans(1, 3, 5, 5), api.OK},
		{spans(1, 3, 4, 5), api.ErrArg}, {spans(3, 1), api.ErrArg}, {spans(-1, 1), api.ErrArg},
		{spans(0, top+1), api.ErrArg}, {spans(5, 6, 1, 2), api.ErrArg}, {spans(1, 3, 3, 5), api.ErrArg},
		{comb(64, 0), api.OK}, {comb(65, 0), api.ErrLimit}, {append(comb(65, 0), api.Span{Lo: 0, Hi: 0}), api.ErrArg},
	} {
		if got := Valid(c.l); got != c.want {
			t.Errorf("case %d: got %d, want %d", i, got, c.want)
		}
	}
	if !Has(spans(5, 2, 7, 9), 8) || Has(spans(5, 2), 3) || !Has(spans(-5, -1), -3) {
		t.Error("Has of lists that are no sets")
	}
	if !Equal(nil, spans()) || Equal(spans(1, 2), spans(1, 3)) || Equal(spans(1, 2), nil) {
		t.Error("Equal")
	}
}

func TestNormal(t *testing.T) {
	got, err := Normal(spans(5, 9, 1, 3, 4, 4))
	if err != api.OK || !Equal(got, spans(1, 9)) {
		t.Errorf("got %v %d", got, err)
	}
	if _, err := Normal(append(comb(80, 0), api.Span{Lo: 4, Hi: 3})); err != api.ErrArg {
		t.Error("a span that is not valid comes before the limit")
	}
	if l, err := Normal(comb(65, 0)); err != api.ErrLimit || l != nil {
		t.Error("too many spans")
	}
	if l, err := Normal(append(comb(65, 0), api.Span{Lo: 1, Hi: 1})); err != api.OK || len(l) != 64 {
		t.Error("only the result counts")
	}
}

func TestCombinations(t *testing.T) {
	r := sample.New(1)
	for range 2000 {
		a, inA := random(r)
		b, inB := random(r)
		n := r.Int(31)
		union, _ := Union(a, b)
		meet, _ := Meet(a, b)
		minus, _ := Minus(a, b)
		not, _ := Not(a, n)
		count, _ := Count(a)
		for i := range 40 {
			x, y := i < 31 && inA[min(i, 30)], i < 31 && inB[min(i, 30)]
			if Has(union, i) != (x || y) || Has(meet, i) != (x && y) || Has(minus, i) != (x && !y) || Has(not, i) != (!x && i <= n) {
				t.Fatalf("%v %v at %d", a, b, i)
			}
			if x {
				count--
			}
		}
		if count != 0 || Valid(union)+Valid(meet)+Valid(minus)+Valid(not) != api.OK {
			t.Fatalf("%v %v: count or a result that is no set", a, b)
		}
		all, _ := Not(b, top)
		if m, _ := Meet(a, all); !Equal(m, minus) {
			t.Fatal("Minus is not Meet with Not")
		}
		if again, _ := Not(not, n); n == 30 && !Equal(again, a) {
			t.Fatal("Not does not undo Not")
		}
	}
}

func TestErrorsOfCombinations(t *testing.T) {
	bad, long := spans(2, 1), comb(65, 0)
	for _, f := range []func(a, b []api.Span) ([]api.Span, api.Errno){Union, Meet, Minus} {
		if _, err := f(long, bad); err != api.ErrLimit {
			t.Error("the error of the first set comes first")
		}
		if _, err := f(nil, bad); err != api.ErrArg {
			t.Error("the error of the second set")
		}
	}
	if l, err := Union(comb(40, 0), comb(40, 1000)); err != api.ErrLimit || l != nil {
		t.Error("a union with too many spans")
	}
	if _, err := Not(bad, -1); err != api.ErrArg {
		t.Error("Not: the set comes first")
	}
	if _, err := Not(nil, top+1); err != api.ErrRange {
		t.Error("Not: top")
	}
	if _, err := Not(comb(64, 1), 500); err != api.ErrLimit {
		t.Error("Not with 65 spans")
	}
	if _, err := Count(bad); err != api.ErrArg {
		t.Error("Count")
	}
	if _, err := Fold(bad); err != api.ErrArg {
		t.Error("Fold")
	}
}

func TestFold(t *testing.T) {
	for _, c := range [][2][]api.Span{
		{spans(65, 66), spans(65, 66, 97, 98)}, {spans(0, 64), spans(0, 64)}, {spans(60, 65), spans(60, 65, 97, 97)},
		{spans(120, 200), spans(88, 90, 120, 200)}, {spans(90, 97), spans(65, 65, 90, 97, 122, 122)},
	} {
		got, err := Fold(c[0])
		again, _ := Fold(got)
		if err != api.OK || !Equal(got, c[1]) || !Equal(again, got) {
			t.Errorf("Fold of %v is %v", c[0], got)
		}
	}
	odd := append(comb(40, 300), comb(0, 0)...)
	odd = append(spans(65, 65, 67, 67, 69, 69, 71, 71, 73, 73, 75, 75, 77, 77, 79, 79, 81, 81, 83, 83, 85, 85, 87, 87, 89, 89), odd...)
	if _, err := Fold(odd); err != api.ErrLimit {
		t.Error("Fold with too many spans")
	}
}

func TestSplit(t *testing.T) {
	got, err := Split([][]api.Span{spans(1, 5), spans(3, 9)}, 9)
	want := [][]api.Span{spans(0, 0), spans(1, 2), spans(3, 5), spans(6, 9)}
	if err != api.OK || !slices.EqualFunc(got, want, Equal) {
		t.Errorf("got %v %d", got, err)
	}
	if got, _ := Split(nil, 0); len(got) != 1 || !Equal(got[0], spans(0, 0)) {
		t.Error("no sets")
	}
	r := sample.New(2)
	for range 300 {
		var l [][]api.Span
		for range r.Int(4) {
			s, _ := random(r)
			l = append(l, s)
		}
		n := r.Int(40)
		classes, _ := Split(l, n)
		last := -1
		for c, class := range classes {
			if Valid(class) != api.OK || len(class) == 0 || class[0].Lo <= last {
				t.Fatal("a class that is none, or out of order")
			}
			last = class[0].Lo
			for x := range n + 2 {
				same := x <= n
				for _, s := range l {
					same = same && Has(s, x) == Has(s, last)
				}
				if Has(class, x) != same {
					t.Fatalf("%v up to %d: class %d at %d", l, n, c, x)
				}
			}
			if k, err := Class(classes, last); err != api.OK || k != c {
				t.Fatal("Class")
			}
		}
		if _, err := Class(classes, n+1); err != api.ErrNone {
			t.Fatal("Class of a symbol in no class")
		}
	}
}

func TestSplitErrors(t *testing.T) {
	many := make([][]api.Span, 1025)
	if _, err := Split(append(many, spans(2, 1)), -1); err != api.ErrArg {
		t.Error("a set that is none comes first")
	}
	if _, err := Split(many, -1); err != api.ErrRange {
		t.Error("top comes second")
	}
	if _, err := Split(many, 9); err != api.ErrLimit {
		t.Error("too many sets")
	}
	if l, err := Split(many[:1024], 9); err != api.OK || len(l) != 1 {
		t.Error("1024 sets are not too many")
	}
	if _, err := Split([][]api.Span{comb(64, 1)}, 200); err != api.ErrLimit {
		t.Error("a class with 65 spans")
	}
	var single [][]api.Span
	for i := range 1024 {
		single = append(single, spans(i, i))
	}
	if _, err := Split(single, 1024); err != api.ErrLimit {
		t.Error("1025 classes")
	}
	if l, err := Split(single, 1023); err != api.OK || len(l) != 1024 {
		t.Error("1024 classes")
	}
}

func TestEncode(t *testing.T) {
	r := sample.New(3)
	for range 200 {
		s, _ := random(r)
		b := Encode(s)
		if got, err := Decode(b); err != api.OK || !Equal(got, s) {
			t.Fatalf("Decode of Encode of %v is %v", s, got)
		}
		if _, err := Decode(append(b, 0)); err != api.ErrForm {
			t.Fatal("a byte too many")
		}
		if _, err := Decode(b[:len(b)-1]); err != api.ErrForm {
			t.Fatal("a byte too few")
		}
	}
	if !slices.Equal(Encode(spans(3, -1)), []byte{2, 6, 1}) {
		t.Error("Encode of a list that is no set")
	}
	for _, b := range [][]byte{Encode(spans(3, 1)), Encode(comb(65, 0)), {1}, {130, 1}, Encode(spans(1, 2, 3, 4))} {
		if l, err := Decode(b); err != api.ErrForm || l != nil {
			t.Errorf("%v is read as %v", b, l)
		}
	}
}

func TestNothingShared(t *testing.T) {
	a := spans(1, 5)
	got, _ := Normal(a)
	got[0].Lo = 2
	u, _ := Union(a, nil)
	u[0].Lo = 2
	if a[0].Lo != 1 {
		t.Error("a result shares memory with an argument")
	}
}
