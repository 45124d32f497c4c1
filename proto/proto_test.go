package proto

import (
	"bytes"
	"slices"
	"testing"

	"rexmill/api"
	"rexmill/hash"
	"rexmill/sample"
	"rexmill/wire"
)

func equal(a, b Message) bool {
	return a.Kind == b.Kind && a.Conn == b.Conn && a.Version == b.Version && a.Code == b.Code && bytes.Equal(a.Body, b.Body) && slices.Equal(a.Found, b.Found)
}

func zero(m Message) bool {
	return equal(m, Message{})
}

// framed returns the frame of any core.
func framed(core []byte) []byte {
	n := len(core)
	out := []byte{byte(n), byte(n >> 8), byte(n >> 16), byte(n >> 24)}
	for _, h := range []uint64{hash.Sum("length", n), hash.Bytes("message", core)} {
		for i := range 8 {
			out = append(out, byte(h>>(8*i)))
		}
		if len(out) == 12 {
			out = append(out, core...)
		}
	}
	return out
}

func random(r *sample.Rand) Message {
	m := Message{Kind: r.Int(7), Conn: r.Int(1 << 20), Version: r.Int(30) - 1, Code: api.Errno(r.Int(22)), Body: make([]byte, r.Int(30))}
	for i := range m.Body {
		m.Body[i] = byte(r.Int(256))
	}
	for range r.Int(4) {
		m.Found = append(m.Found, api.Found{Rule: r.Int(9), Start: r.Int(99) - 1, End: r.Int(99)})
	}
	return m
}

func encode(t *testing.T, m Message) []byte {
	t.Helper()
	b, err := Encode(m)
	if err != api.OK {
		t.Fatal(err)
	}
	return b
}

func TestExample(t *testing.T) {
	if b := encode(t, Message{}); len(b) != 26 || !bytes.Equal(b, framed(make([]byte, 6))) {
		t.Error(b)
	}
	m := Message{Kind: Verdict, Conn: 5, Version: -1, Code: 7, Body: []byte{9}, Found: []api.Found{{Rule: 1, Start: -1, End: -1}}}
	if b := encode(t, m); !bytes.Equal(b, framed([]byte{6, 10, 1, 14, 1, 9, 2, 2, 1, 1})) {
		t.Error(b)
	}
}

func TestEncodeErrors(t *testing.T) {
	long := make([]api.Found, 1025)
	for i, c := range []struct {
		m    Message
		want api.Errno
	}{
		{Message{Kind: -1}, api.ErrArg}, {Message{Kind: 7}, api.ErrArg}, {Message{Kind: Error}, api.OK}, {Message{Conn: -1}, api.ErrArg}, {Message{Conn: 1 << 40}, api.OK}, {Message{Conn: 1<<40 + 1}, api.ErrArg}, {Message{Version: -2}, api.ErrArg}, {Message{Version: 1025}, api.ErrArg}, {Message{Version: 1024}, api.OK}, {Message{Code: -1}, api.ErrArg}, {Message{Code: 1001}, api.ErrArg}, {Message{Code: 1000}, api.OK},
		{Message{Body: make([]byte, api.MaxBlock+1)}, api.ErrArg}, {Message{Body: make([]byte, api.MaxBlock)}, api.OK}, {Message{Found: long}, api.ErrArg}, {Message{Found: long[1:]}, api.OK}, {Message{Found: []api.Found{{Rule: 1<<40 + 1}}}, api.ErrArg}, {Message{Found: []api.Found{{Start: -1<<40 - 1}}}, api.ErrArg}, {Message{Found: []api.Found{{}, {End: 1<<40 + 1}}}, api.ErrArg}, {Message{Found: []api.Found{{Rule: -1 << 40, Start: 1 << 40, End: 1 << 40}}}, api.OK},
	} {
		b, err := Encode(c.m)
		if err != c.want || err != api.OK && b != nil {
			t.Errorf("case %d: %d", i, err)
		}
		if err == api.OK {
			if m, n, err := Decode(b); err != api.OK || n != len(b) || !equal(m, c.m) {
				t.Errorf("case %d is read as %d", i, err)
			}
		}
	}
}

func TestRoundTripAndAltered(t *testing.T) {
	r := sample.New(1)
	for range 60 {
		m := random(r)
		b := encode(t, m)
		tail := []byte{1, 2, 3}[:r.Int(4)]
		if got, n, err := Decode(append(slices.Clone(b), tail...)); err != api.OK || n != len(b) || !equal(got, m) {
			t.Fatal("Decode", err)
		}
		for i := range b {
			c := slices.Clone(b)
			c[i] ^= byte(1 + r.Int(255))
			if got, n, err := Decode(c); err != api.ErrSum || n != 0 || !zero(got) {
				t.Fatal("byte", i, "is altered:", err)
			}
			if got, n, err := Decode(b[:i]); err != api.ErrMore || n != 0 || !zero(got) {
				t.Fatal("a prefix of", i, "bytes:", err)
			}
		}
	}
}

func TestDecodeErrors(t *testing.T) {
	core := func(n ...int) []byte {
		w := &wire.Writer{}
		for _, k := range n[:4] {
			w.Int(k)
		}
		w.Raw(nil)
		for _, k := range n[4:] {
			w.Int(k)
		}
		return w.Done()
	}
	big := framed(make([]byte, 1<<20+1))
	for i, c := range []struct {
		b    []byte
		want api.Errno
	}{
		{nil, api.ErrMore}, {make([]byte, 11), api.ErrMore}, {make([]byte, 12), api.ErrSum}, {big, api.ErrLimit}, {big[:12], api.ErrLimit}, {framed(make([]byte, 1<<20)), api.ErrForm}, {framed(nil), api.ErrForm}, {framed(core(0, 0, 0, 0, 0)), api.OK}, {framed(core(7, 0, 0, 0, 0)), api.ErrForm}, {framed(core(0, -1, 0, 0, 0)), api.ErrForm}, {framed(core(0, 0, 0, 0, -1)), api.ErrForm}, {framed(core(0, 0, 0, 0, 1)), api.ErrForm}, {framed(core(0, 0, 0, 0, 1, 1, 2, 3)), api.OK}, {framed(core(0, 0, 0, 0, 0, 0)), api.ErrForm}, {framed(core(0, 0, 0, 0, 1<<40)), api.ErrForm}, {framed(core(0, 0, 0, 1001, 0)), api.ErrForm},
	} {
		if m, n, err := Decode(c.b); err != c.want || err != api.OK && (n != 0 || !zero(m)) {
			t.Errorf("case %d: %d", i, err)
		}
	}
	sum := framed(core(9, 0, 0, 0, 0))
	sum[len(sum)-1] ^= 1
	if _, _, err := Decode(sum); err != api.ErrSum {
		t.Error("ErrSum comes before ErrForm")
	}
}

func TestReader(t *testing.T) {
	r := sample.New(2)
	for range 300 {
		var all []byte
		var want []Message
		for range r.Int(5) {
			m := random(r)
			want = append(want, m)
			all = append(all, encode(t, m)...)
		}
		last := api.OK
		held := 0
		switch r.Int(3) {
		case 0:
			bad := encode(t, random(r))
			bad[r.Int(len(bad))] ^= 4
			all = append(all, bad...)
			last = api.ErrSum
		case 1:
			b := encode(t, random(r))
			held = r.Int(len(b))
			all = append(all, b[:held]...)
		}
		x := NewReader()
		var got []Message
		err := api.OK
		for fed := 0; fed < len(all) && err == api.OK; {
			n := min(r.Int(40), len(all)-fed)
			var l []Message
			piece := slices.Clone(all[fed : fed+n])
			l, err = x.Feed(piece)
			clear(piece)
			got = append(got, l...)
			fed += n
		}
		if !slices.EqualFunc(got, want, equal) || err != last || x.Held() != held {
			t.Fatal("the messages depend on the pieces", err, last, x.Held(), held)
		}
		if last != api.OK {
			if l, err := x.Feed(encode(t, Message{})); l != nil || err != last || x.Held() != 0 {
				t.Fatal("a reader that has failed")
			}
		}
	}
	x := NewReader()
	if l, err := x.Feed(nil); l != nil || err != api.OK || x.Held() != 0 {
		t.Error("a new reader")
	}
	if l, err := x.Feed(append(encode(t, Message{Conn: 3}), make([]byte, 12)...)); len(l) != 1 || l[0].Conn != 3 || err != api.ErrSum {
		t.Error("messages in front of an error", l, err)
	}
}
