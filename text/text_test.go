package text

import (
	"bytes"
	"slices"
	"testing"
	"unicode/utf8"

	"rexmill/api"
	"rexmill/sample"
)

func TestDecodeRunes(t *testing.T) {
	got, err := Decode([]byte{195, 164, 97}, true)
	if err != api.OK || !slices.Equal(got, []int{228, 97}) {
		t.Errorf("got %v %d", got, err)
	}
	for _, b := range [][]byte{{192, 128}, {237, 160, 128}, {237, 191, 191}, {128}, {97, 195}, {195, 97}, {224, 159, 191}, {240, 143, 191, 191}, {244, 144, 128, 128}, {245, 128, 128, 128}, {248, 128, 128, 128, 128}, {255}, {226, 130}, {193, 191}} {
		if l, err := Decode(b, true); err != api.ErrUtf || l != nil {
			t.Errorf("%v is decoded to %v %d", b, l, err)
		}
	}
	for c := 0; c <= api.MaxSymbol; c++ {
		if c >= 55296 && c <= 57343 {
			continue
		}
		b, err := Encode([]int{c}, true)
		if err != api.OK || string(b) != string(rune(c)) {
			t.Fatalf("the encoding of %d is %v", c, b)
		}
		if l, err := Decode(b, true); err != api.OK || len(l) != 1 || l[0] != c {
			t.Fatalf("%v is decoded to %v", b, l)
		}
	}
	r := sample.New(1)
	for range 50000 {
		b := make([]byte, r.Int(6))
		for i := range b {
			b[i] = []byte{97, 128, 159, 160, 191, 194, 224, 237, 240, 244, 144}[r.Int(11)]
		}
		l, err := Decode(b, true)
		if (err == api.OK) != utf8.Valid(b) {
			t.Fatalf("%v: %d", b, err)
		}
		if back, _ := Encode(l, true); err == api.OK && !bytes.Equal(back, b) {
			t.Fatalf("%v is encoded as %v", b, back)
		}
	}
}

func TestDecodeBytesAndLimits(t *testing.T) {
	b := []byte{0, 255, 128, 10}
	l, err := Decode(b, false)
	if err != api.OK || !slices.Equal(l, []int{0, 255, 128, 10}) {
		t.Errorf("got %v", l)
	}
	long := make([]byte, api.MaxText+1)
	if l, err := Decode(long, false); err != api.ErrLimit || l != nil {
		t.Error("too many bytes")
	}
	if _, err := Decode(append(long, 255), true); err != api.ErrUtf {
		t.Error("ErrUtf comes first")
	}
	if l, err := Decode(long[1:], true); err != api.OK || len(l) != api.MaxText {
		t.Error("as many as allowed")
	}
}

func TestValidAndEncode(t *testing.T) {
	for i, c := range []struct {
		l     []int
		runes bool
		want  api.Errno
	}{
		{nil, true, api.OK}, {[]int{255, 0}, false, api.OK}, {[]int{256}, false, api.ErrRange}, {[]int{-1}, false, api.ErrRange},
		{[]int{55295, 57344, api.MaxSymbol}, true, api.OK}, {[]int{55296}, true, api.ErrRange}, {[]int{57343}, true, api.ErrRange},
		{[]int{api.MaxSymbol + 1}, true, api.ErrRange}, {append(make([]int, api.MaxText), -1), true, api.ErrLimit}, {make([]int, api.MaxText), false, api.OK},
	} {
		if got := Valid(c.l, c.runes); got != c.want {
			t.Errorf("case %d: got %d, want %d", i, got, c.want)
		}
		if b, err := Encode(c.l, c.runes); err != c.want || err != api.OK && b != nil {
			t.Errorf("case %d: Encode returns %d", i, err)
		}
	}
	if b, _ := Encode([]int{200, 7}, false); !bytes.Equal(b, []byte{200, 7}) {
		t.Error("bytes")
	}
}

func TestAssert(t *testing.T) {
	txt := []int{'a', ' ', 'b'}
	for at := -1; at <= 4; at++ {
		in := at >= 0 && at <= 3
		if Assert(api.AtWord, txt, at) != in || Assert(api.NotAtWord, txt, at) {
			t.Error("words at", at)
		}
	}
	r := sample.New(2)
	for range 500 {
		l := r.Text("a_Z9 \n-", 8)
		lines := Lines(l)
		for at := 0; at <= len(l); at++ {
			if Assert(api.AtLineBegin, l, at) != slices.Contains(lines, at) {
				t.Fatal("AtLineBegin is not at the positions of Lines")
			}
			if Assert(api.AtBegin, l, at) != (at == 0) || Assert(api.AtEnd, l, at) != (at == len(l)) {
				t.Fatal("begin and end")
			}
			if Assert(api.AtLineEnd, l, at) != (at == len(l) || l[at] == '\n') {
				t.Fatal("AtLineEnd")
			}
			before := at > 0 && bytes.ContainsRune([]byte("a_Z9"), rune(l[at-1]))
			after := at < len(l) && bytes.ContainsRune([]byte("a_Z9"), rune(l[at]))
			if Assert(api.AtWord, l, at) != (before != after) || Assert(api.NotAtWord, l, at) != (before == after) {
				t.Fatal("AtWord")
			}
			if Assert(6, l, at) || Assert(-1, l, at) {
				t.Fatal("no assertion")
			}
		}
	}
	for _, s := range []int{'`', '{', '@', '[', '/', ':', '^', 228, -1} {
		if Word(s) {
			t.Error(s, "is a word symbol")
		}
	}
	if !Assert(api.AtBegin, nil, 0) || Assert(api.AtBegin, nil, 1) {
		t.Error("the empty text")
	}
}

func TestSpliceAndUndo(t *testing.T) {
	txt := []int{1, 2, 3}
	e := api.Edit{At: 1, Del: 1, Ins: []int{7, 8}}
	got, _ := Splice(txt, e)
	undo, _ := Undo(txt, e)
	if !slices.Equal(got, []int{1, 7, 8, 3}) || undo.At != 1 || undo.Del != 2 || !slices.Equal(undo.Ins, []int{2}) {
		t.Errorf("got %v and %v", got, undo)
	}
	back, err := Splice(got, undo)
	if err != api.OK || !slices.Equal(back, txt) {
		t.Error("Undo does not lead back")
	}
	most := make([]int, api.MaxText)
	for i, c := range []struct {
		text []int
		e    api.Edit
		want api.Errno
	}{
		{txt, api.Edit{At: -1}, api.ErrRange}, {txt, api.Edit{Del: -1}, api.ErrRange}, {txt, api.Edit{At: 2, Del: 2}, api.ErrRange},
		{txt, api.Edit{At: 1, Del: 1<<63 - 1}, api.ErrRange}, {txt, api.Edit{At: 4}, api.ErrRange}, {txt, api.Edit{At: 3}, api.OK},
		{txt, api.Edit{Ins: []int{-1}}, api.ErrRange}, {txt, api.Edit{Ins: []int{api.MaxSymbol + 1}}, api.ErrRange},
		{most, api.Edit{Ins: []int{1}}, api.ErrLimit}, {most, api.Edit{Del: 1, Ins: []int{1}}, api.OK}, {most, api.Edit{Ins: []int{1, -1}}, api.ErrRange},
	} {
		l, err := Splice(c.text, c.e)
		u, err2 := Undo(c.text, c.e)
		if err != c.want || err2 != c.want || err != api.OK && (l != nil || u.At != 0 || u.Del != 0 || u.Ins != nil) {
			t.Errorf("case %d: %d %d", i, err, err2)
		}
	}
	r := sample.New(3)
	for range 500 {
		l := r.Text("abc", 9)
		at := r.Int(len(l) + 1)
		e := api.Edit{At: at, Del: r.Int(len(l) - at + 1), Ins: r.Text("xyz", 4)}
		kept := slices.Clone(l)
		next, _ := Splice(l, e)
		u, _ := Undo(l, e)
		if back, _ := Splice(next, u); !slices.Equal(back, l) || !slices.Equal(l, kept) {
			t.Fatal("Undo does not lead back, or the text changed")
		}
	}
}
