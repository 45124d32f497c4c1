package edits

import (
	"bytes"
	"slices"
	"testing"

	"rexmill/api"
	"rexmill/sample"
	"rexmill/text"
)

func edit(at, del int, ins ...int) api.Edit { return api.Edit{At: at, Del: del, Ins: ins} }

func equal(a, b api.Edit) bool {
	return a.At == b.At && a.Del == b.Del && slices.Equal(a.Ins, b.Ins)
}

func TestMove(t *testing.T) {
	for i, c := range [][3]api.Edit{
		{edit(5, 0, 9), edit(1, 2, 1, 2, 3), edit(6, 0, 9)}, {edit(5, 0, 9), edit(5, 0, 1, 2, 3), edit(8, 0, 9)}, {edit(2, 4), edit(4, 4), edit(2, 2)}, {edit(4, 4), edit(2, 4), edit(2, 2)}, {edit(4, 4), edit(2, 4, 7), edit(3, 2)}, {edit(2, 6), edit(3, 2, 7), edit(2, 5)}, {edit(3, 2, 8), edit(2, 6, 7), edit(3, 0, 8)}, {edit(3, 0, 8), edit(2, 6, 7), edit(3, 0, 8)}, {edit(2, 0, 8), edit(2, 6, 7), edit(3, 0, 8)}, {edit(8, 0, 8), edit(2, 6, 7), edit(3, 0, 8)},
		{edit(1, 1, 8), edit(2, 6, 7), edit(1, 1, 8)}, {edit(1, 1, 8), edit(2, 0, 7), edit(1, 1, 8)}, {edit(1, 2, 8), edit(2, 0, 7), edit(1, 3, 8)}, {edit(2, 2), edit(2, 0, 7), edit(3, 2)}, {edit(2, 2), edit(2, 2, 7), edit(3, 0)}, {edit(1, 2), edit(2, 3, 7), edit(1, 1)}, {edit(0, 3), edit(3, 0, 5), edit(0, 3)},
	} {
		got, err := Move(c[0], c[1])
		if err != api.OK || !equal(got, c[2]) {
			t.Errorf("case %d: %v", i, got)
		}
	}
	most := edit(api.MaxText, api.MaxText, make([]int, api.MaxText)...)
	if _, err := Move(most, most); err != api.OK {
		t.Error("the greatest edits")
	}
	for i, bad := range []api.Edit{edit(-1, 0), edit(0, -1), edit(api.MaxText+1, 0), edit(0, api.MaxText+1), edit(0, 0, -1), edit(0, 0, api.MaxSymbol+1), edit(0, 0, make([]int, api.MaxText+1)...)} {
		x, err := Move(bad, edit(0, 0))
		_, err2 := Move(edit(0, 0), bad)
		if err != api.ErrRange || err2 != api.ErrRange || !equal(x, api.Edit{}) {
			t.Error("an edit that is not well-formed", i)
		}
		if l, err := New().Take(Item{Edit: bad}); err != api.ErrArg || l != nil {
			t.Error("Take of an edit that is not well-formed", i)
		}
	}
}

// random returns an edit of a text.
func random(r *sample.Rand, l []int) api.Edit {
	at := r.Int(len(l) + 1)
	return api.Edit{At: at, Del: r.Int(min(4, len(l)-at+1)), Ins: r.Text("xyz", 3)}
}

func TestMovingAtRandom(t *testing.T) {
	r := sample.New(1)
	for range 5000 {
		l := r.Text("abcdef", 9)
		a, b := random(r, l), random(r, l)
		x, _ := Move(a, b)
		y, _ := Move(b, a)
		afterA, _ := text.Splice(l, a)
		afterB, _ := text.Splice(l, b)
		one, err := text.Splice(afterB, x)
		two, err2 := text.Splice(afterA, y)
		if err+err2 != api.OK {
			t.Fatal(l, a, b, x, y)
		}
		apart := a.At+a.Del < b.At || b.At+b.Del < a.At
		if apart && !slices.Equal(one, two) {
			t.Fatal("edits that are apart", l, a, b)
		}
		c := random(r, afterA)
		want, _ := text.Splice(afterA, c)
		joined, err := Join(l, a, c)
		got, err2 := text.Splice(l, joined)
		if err+err2 != api.OK || !slices.Equal(got, want) || joined.At != min(a.At, c.At) {
			t.Fatal("Join", l, a, c, joined)
		}
		checkDiff(t, l, want)
	}
}

func checkDiff(t *testing.T, a, b []int) {
	d := Diff(a, b)
	if got, err := text.Splice(a, d); err != api.OK || !slices.Equal(got, b) {
		t.Fatal("Diff", a, b, d)
	}
	best := len(a) + len(b)
	for at := range len(a) + 1 {
		for del := range len(a) - at + 1 {
			n := len(b) - len(a) + del
			if n >= 0 && at <= len(b) && slices.Equal(a[:at], b[:at]) && at+n <= len(b) && slices.Equal(a[at+del:], b[at+n:]) {
				best = min(best, del+n)
			}
		}
	}
	if d.Del+len(d.Ins) != best {
		t.Fatal("Diff is not least", a, b, d)
	}
}

func TestJoinAndDiff(t *testing.T) {
	if d := Diff([]int{1, 2, 2, 3}, []int{1, 2, 3}); !equal(d, edit(2, 1)) {
		t.Error(d)
	}
	if d := Diff([]int{1, 2}, []int{1, 2}); !equal(d, edit(2, 0)) {
		t.Error(d)
	}
	l := []int{1, 2, 3, 4, 5}
	if e, err := Join(l, edit(1, 1, 8), edit(3, 1)); err != api.OK || !equal(e, edit(1, 3, 8, 3)) {
		t.Error(e, err)
	}
	if e, err := Join(l, edit(6, 0), edit(-1, 0)); err != api.ErrRange || !equal(e, api.Edit{}) {
		t.Error("the first error", err)
	}
	if _, err := Join(l, edit(0, 0, make([]int, api.MaxText)...), edit(-1, 0)); err != api.ErrLimit {
		t.Error("the error of the first edit comes first")
	}
	if _, err := Join(l, edit(0, 5), edit(1, 0)); err != api.ErrRange {
		t.Error("the second edit is one of the result of the first one")
	}
}

func TestOnce(t *testing.T) {
	r := sample.New(2)
	for range 200 {
		var items []Item
		next := map[int]int{}
		l := r.Text("abc", 6)
		for i := range 1 + r.Int(12) {
			c := r.Int(3)
			e := random(r, l)
			l, _ = text.Splice(l, e)
			items = append(items, Item{c, next[c], i, e})
			next[c]++
		}
		var mixed []Item
		for range 3 {
			for _, i := range order(r, len(items)) {
				mixed = append(mixed, items[i])
			}
		}
		d := New()
		var got []api.Edit
		for _, x := range mixed {
			l, err := d.Take(x)
			if err != api.OK {
				t.Fatal(err)
			}
			got = append(got, l...)
		}
		if len(got) != len(items) || d.Version() != len(items) {
			t.Fatal("not all items were applied")
		}
		for i, x := range items {
			if !equal(x.Edit, got[i]) {
				t.Fatal("another order or another edit")
			}
		}
	}
}

// order returns the numbers below n in some order.
func order(r *sample.Rand, n int) []int {
	var l []int
	for i := range n {
		l = slices.Insert(l, r.Int(i+1), i)
	}
	return l
}

// slow is a desk as section 27 says, with lists.
type slow struct {
	applied []api.Edit
	held    []Item
	done    []Item
}

func (d *slow) take(x Item) []api.Edit {
	same := func(y Item) bool { return y.Client == x.Client && y.Number == x.Number }
	if slices.ContainsFunc(d.held, same) || slices.ContainsFunc(d.done, same) {
		return nil
	}
	d.held = append(d.held, x)
	var out []api.Edit
	for {
		best := -1
		for i, y := range d.held {
			n := 0
			for _, z := range d.done {
				if z.Client == y.Client {
					n++
				}
			}
			if y.Number == n && y.Base <= len(d.applied) && (best < 0 || y.Client < d.held[best].Client) {
				best = i
			}
		}
		if best < 0 {
			return out
		}
		y := d.held[best]
		e := y.Edit
		for _, a := range d.applied[y.Base:] {
			e = moved(e, a)
		}
		d.applied = append(d.applied, e)
		out = append(out, e)
		d.done = append(d.done, y)
		d.held = slices.Delete(d.held, best, best+1)
	}
}

func TestAtRandom(t *testing.T) {
	r := sample.New(3)
	for range 300 {
		d, s := New(), &slow{}
		l := r.Text("abcdef", 9)
		versions := [][]int{l}
		for range 30 {
			base := r.Int(len(versions))
			x := Item{r.Int(4), r.Int(5), base, random(r, versions[base])}
			if r.Int(5) == 0 {
				x.Base += 3
				x.Edit = edit(0, 0, 7)
			}
			want := s.take(x)
			got, err := d.Take(x)
			if err != api.OK || !slices.EqualFunc(got, want, equal) || d.Version() != len(s.applied) {
				t.Fatal(got, want, err)
			}
			for _, e := range got {
				next, err := text.Splice(versions[len(versions)-1], e)
				if err != api.OK {
					t.Fatal("an edit that cannot be applied", e)
				}
				versions = append(versions, next)
			}
		}
	}
}

func TestTakeErrors(t *testing.T) {
	for i, x := range []Item{{Client: -1}, {Client: 1024}, {Number: -1}, {Number: 4096}, {Base: -1}, {Base: 4096}} {
		if l, err := New().Take(x); err != api.ErrArg || l != nil {
			t.Error("case", i, err)
		}
	}
	d := New()
	for i := range 256 {
		if l, err := d.Take(Item{Client: 1, Number: 1 + i}); l != nil || err != api.OK {
			t.Fatal(err)
		}
	}
	if _, err := d.Take(Item{Client: 2, Number: 5}); err != api.ErrLimit {
		t.Error("too many items are held")
	}
	if l, err := d.Take(Item{Client: 1, Number: 256}); err != api.OK || l != nil {
		t.Error("an item that is held already")
	}
	if _, err := d.Take(Item{Client: 1, Number: 0}); err != api.ErrLimit {
		t.Error("an item that would be applied at once")
	}
	if _, err := d.Take(Item{Client: -1}); err != api.ErrArg {
		t.Error("ErrArg comes first")
	}
	d = New()
	for i := range 4096 {
		if l, err := d.Take(Item{Client: 3, Number: i, Base: i}); len(l) != 1 || err != api.OK {
			t.Fatal(i, err)
		}
	}
	if _, err := d.Take(Item{Client: 4}); err != api.ErrLimit || d.Version() != 4096 {
		t.Error("too many edits were applied")
	}
	if l, err := d.Take(Item{Client: 3, Number: 7}); err != api.OK || l != nil {
		t.Error("an item that was applied already")
	}
}

func TestMemory(t *testing.T) {
	d := New()
	ins := []int{1, 2}
	l, _ := d.Take(Item{Edit: api.Edit{Ins: ins}})
	ins[0] = 9
	l[0].Ins[1] = 9
	got, _ := d.Take(Item{Client: 1, Edit: edit(0, 0)})
	if d.applied[0].Ins[0] != 1 || d.applied[0].Ins[1] != 2 || got[0].At != 2 {
		t.Error("the desk shares memory")
	}
}

func TestEncode(t *testing.T) {
	for _, x := range []Item{{}, {1, 2, 3, edit(4, 5, 6, 7)}, {-1, 1 << 40, -9, edit(-4, -5, -6)}} {
		b := Encode(x)
		got, err := Decode(b)
		if err != api.OK || got.Client != x.Client || got.Number != x.Number || got.Base != x.Base || !equal(got.Edit, x.Edit) {
			t.Error(got, err)
		}
		if y, err := Decode(b[:len(b)-1]); err != api.ErrForm || y.Edit.Ins != nil || y.Client != 0 {
			t.Error("a byte is missing")
		}
		if _, err := Decode(append(b, 0)); err != api.ErrForm {
			t.Error("a byte is left")
		}
	}
	if !bytes.Equal(Encode(Item{1, 2, 3, edit(4, 5, 6)}), []byte{2, 4, 6, 8, 10, 1, 12}) {
		t.Error("Encode")
	}
}
