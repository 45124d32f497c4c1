package wire

import (
	"bytes"
	"math"
	"slices"
	"testing"

	"rexmill/api"
)

func TestWriter(t *testing.T) {
	w := &Writer{}
	if len(w.Done()) != 0 {
		t.Error("the zero Writer has bytes")
	}
	w.Uint(300)
	w.Int(-1)
	w.Text("ab")
	want := []byte{172, 2, 1, 2, 97, 98}
	first := w.Done()
	if !bytes.Equal(first, want) {
		t.Errorf("got %v, want %v", first, want)
	}
	first[0] = 9
	w.Bool(true)
	w.Bool(false)
	w.Raw([]byte{7})
	w.Ints([]int{1, -2})
	want = append(want, 1, 0, 1, 7, 2, 2, 3)
	if got := w.Done(); !bytes.Equal(got, want) {
		t.Errorf("got %v, want %v", got, want)
	}
}

func TestRoundTrip(t *testing.T) {
	ints := []int{0, 1, -1, 63, -64, 64, math.MaxInt, math.MinInt, 1 << 40}
	uints := []uint64{0, 127, 128, 1<<14 - 1, 1 << 14, math.MaxUint64, 1 << 63}
	w := &Writer{}
	for _, n := range ints {
		w.Int(n)
	}
	for _, n := range uints {
		before := len(w.Done())
		w.Uint(n)
		need := 1
		for m := n >> 7; m > 0; m >>= 7 {
			need++
		}
		if len(w.Done())-before != need {
			t.Errorf("the varint of %d has not %d bytes", n, need)
		}
	}
	w.Text("äb")
	w.Raw(nil)
	w.Ints(ints)
	w.Bool(true)
	b := w.Done()
	read := func(b []byte) (*Reader, bool) {
		r := Read(b)
		same := true
		for _, n := range ints {
			same = r.Int() == n && same
		}
		for _, n := range uints {
			same = r.Uint() == n && same
		}
		same = r.Text() == "äb" && same
		same = len(r.Raw()) == 0 && same
		same = slices.Equal(r.Ints(), ints) && same
		same = r.Bool() && same
		return r, same
	}
	if r, same := read(b); !same || r.End() != api.OK {
		t.Error("the values that were written are not read")
	}
	for i := range b {
		if r, _ := read(b[:i]); r.End() != api.ErrMore {
			t.Fatalf("the prefix of %d bytes leads to %d", i, r.End())
		}
	}
	if r, _ := read(append(b, 0)); r.End() != api.ErrForm {
		t.Error("a byte that is left is not noticed")
	}
}

func TestReadErrors(t *testing.T) {
	nine := []byte{255, 255, 255, 255, 255, 255, 255, 255, 255}
	cases := []struct {
		b    []byte
		read func(r *Reader)
		want api.Errno
	}{
		{nil, func(r *Reader) { r.Uint() }, api.ErrMore},
		{[]byte{128}, func(r *Reader) { r.Uint() }, api.ErrMore},
		{[]byte{128, 0}, func(r *Reader) { r.Int() }, api.ErrForm},
		{append(slices.Clone(nine), 1), func(r *Reader) { r.Uint() }, api.OK},
		{append(slices.Clone(nine), 2), func(r *Reader) { r.Uint() }, api.ErrForm},
		{append(slices.Clone(nine), 129, 0), func(r *Reader) { r.Uint() }, api.ErrForm},
		{nine, func(r *Reader) { r.Uint() }, api.ErrMore},
		{[]byte{2}, func(r *Reader) { r.Bool() }, api.ErrForm},
		{nil, func(r *Reader) { r.Bool() }, api.ErrMore},
		{[]byte{3, 1, 1}, func(r *Reader) { r.Raw() }, api.ErrMore},
		{append(slices.Clone(nine), 1, 5), func(r *Reader) { r.Text() }, api.ErrMore},
		{[]byte{2, 128, 0}, func(r *Reader) { r.Ints() }, api.ErrForm},
		{[]byte{2, 128, 128}, func(r *Reader) { r.Ints() }, api.ErrMore},
	}
	for i, c := range cases {
		r := Read(c.b)
		c.read(r)
		if r.End() != c.want {
			t.Errorf("case %d: got %d, want %d", i, r.End(), c.want)
		}
	}
}

func TestErrorSticks(t *testing.T) {
	b := []byte{2, 5, 6, 7}
	r := Read(b)
	b[0] = 1
	if r.Bool() || r.End() != api.ErrForm {
		t.Error("a later change of the bytes matters, or a malformed byte is read")
	}
	if r.Int() != 0 || r.Uint() != 0 || r.Bool() || r.Text() != "" || len(r.Raw()) != 0 || len(r.Ints()) != 0 {
		t.Error("a value is read after an error")
	}
	if r.End() != api.ErrForm {
		t.Error("the first error does not stay")
	}
	r = Read([]byte{5, 6})
	if r.End() != api.ErrForm || r.Uint() != 5 || r.Uint() != 6 || r.End() != api.OK {
		t.Error("End records that bytes are left")
	}
	if l := Read([]byte{2, 2, 128}).Ints(); len(l) != 0 {
		t.Error("numbers in front of an error are returned")
	}
}

func TestOneEncoding(t *testing.T) {
	for a := range 256 {
		for c := range 256 {
			b := []byte{byte(a), byte(c)}
			r := Read(b)
			n := r.Int()
			if r.End() == api.OK {
				w := &Writer{}
				w.Int(n)
				if !bytes.Equal(w.Done(), b) {
					t.Fatalf("%v is a second encoding of %d", b, n)
				}
			}
		}
	}
}
