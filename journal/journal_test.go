package journal

import (
	"bytes"
	"slices"
	"testing"

	"rexmill/api"
	"rexmill/disk"
	"rexmill/hash"
	"rexmill/sample"
	"rexmill/wire"
)

func newDisk(room int) *disk.Disk {
	d, _ := disk.New(room)
	return d
}

func open(t *testing.T, d *disk.Disk, file int) (*Log, [][]byte) {
	t.Helper()
	l, records, err := Open(d, file)
	if err != api.OK || !l.Up() || l.Len() != len(records) {
		t.Fatal(err)
	}
	return l, records
}

func same(a, b [][]byte) bool {
	return slices.EqualFunc(a, b, bytes.Equal)
}

func TestFrame(t *testing.T) {
	w := &wire.Writer{}
	w.Uint(hash.Bytes("frame", []byte{0, 1, 7}))
	want := append([]byte{3, 0, 1, 7}, w.Done()...)
	f := Frame(0, []byte{7})
	if !bytes.Equal(f, want) {
		t.Error(f)
	}
	l, n := Scan(append(slices.Clone(f), 3, 0, 1))
	if !same(l, [][]byte{{7}}) || n != len(f) {
		t.Error(l, n)
	}
	if bytes.Equal(Frame(-5, nil), Frame(5, nil)) {
		t.Error("the number does not matter")
	}
}

func TestScan(t *testing.T) {
	r := sample.New(1)
	for range 200 {
		var b []byte
		var want [][]byte
		var ends []int
		for i := range r.Int(5) {
			body := make([]byte, r.Int(6)*r.Int(40))
			for k := range body {
				body[k] = byte(r.Int(256))
			}
			b = append(b, Frame(i, body)...)
			want = append(want, body)
			ends = append(ends, len(b))
		}
		if l, n := Scan(b); !same(l, want) || n != len(b) {
			t.Fatal("Scan")
		}
		cut := r.Int(len(b) + 1)
		k := 0
		for k < len(ends) && ends[k] <= cut {
			k++
		}
		l, n := Scan(b[:cut])
		if !same(l, want[:k]) || k > 0 && n != ends[k-1] || k == 0 && n != 0 {
			t.Fatal("Scan of a prefix")
		}
		if len(want) > 0 {
			checkBits(t, b, want, ends)
		}
	}
	for _, b := range [][]byte{nil, {255, 255, 255, 255, 255, 255, 255, 255, 255, 1}, {128, 0}, {200}, Frame(1, []byte{1}), {0, 0}} {
		if l, n := Scan(b); len(l) != 0 || n != 0 {
			t.Error(b, "has records")
		}
	}
}

// checkBits inverts each bit after the length of the last frame.
func checkBits(t *testing.T, b []byte, want [][]byte, ends []int) {
	last := len(ends) - 1
	from := 0
	if last > 0 {
		from = ends[last-1]
	}
	for from < len(b) && b[from] >= 128 {
		from++
	}
	for bit := 8 * (from + 1); bit < 8*len(b); bit++ {
		c := slices.Clone(b)
		c[bit/8] ^= 128 >> (bit % 8)
		if l, _ := Scan(c); !same(l, want[:last]) {
			t.Fatal("a frame with an inverted bit is accepted", bit)
		}
	}
}

func TestAppend(t *testing.T) {
	d := newDisk(1 << 20)
	l, records := open(t, d, 5)
	if len(records) != 0 || l.Len() != 0 {
		t.Error("a new log")
	}
	for i := range 5 {
		if l.Append([]byte{byte(i)}) != api.OK || l.Len() != i+1 {
			t.Error("Append")
		}
	}
	if l.Append(make([]byte, api.MaxBlock+1)) != api.ErrLimit || l.Append(make([]byte, api.MaxBlock)) != api.OK {
		t.Error("the greatest record")
	}
	before, _ := d.Read(5)
	_, records = open(t, d, 5)
	after, _ := d.Read(5)
	if len(records) != 6 || records[3][0] != 3 || !bytes.Equal(before, after) {
		t.Error("the records are not there")
	}
	d.Append(5, []byte{1, 2, 3})
	if _, again := open(t, d, 5); !same(again, records) {
		t.Error("bytes after the records matter")
	}
	if b, _ := d.Read(5); !bytes.Equal(b, before) {
		t.Error("bytes after the records are not removed")
	}
}

func TestErrors(t *testing.T) {
	if l, r, err := Open(nil, 99); l != nil || r != nil || err != api.ErrArg {
		t.Error("no disk")
	}
	d := newDisk(30)
	if _, _, err := Open(d, 64); err != api.ErrArg {
		t.Error("no file")
	}
	l, _ := open(t, d, 0)
	if l.Append(make([]byte, 30)) != api.ErrFull || !l.Up() || l.Len() != 0 || l.Append([]byte{1}) != api.OK {
		t.Error("a full disk")
	}
	d.Append(0, []byte{7})
	for n, want := range []api.Errno{api.ErrDown, api.ErrDown, api.OK} {
		e := d.Copy()
		e.Arm(n)
		l, r, err := Open(e, 0)
		if err != want || (l == nil) != (err != api.OK) || err != api.OK && r != nil {
			t.Error("a failure while opening", n, err)
		}
		if _, _, err := Open(e, 0); err == api.OK && want != api.OK {
			t.Error("Open without power")
		}
	}
}

func TestDurability(t *testing.T) {
	r := sample.New(2)
	for range 400 {
		d := newDisk(1 << 16)
		d.Append(1, []byte{9, 9})
		l, _ := open(t, d, 0)
		other, _ := open(t, d, 2)
		other.Append([]byte{42})
		d.Arm(r.Int(12))
		var want [][]byte
		var last []byte
		for i := 0; l.Up(); i++ {
			last = []byte{byte(i), byte(r.Int(256))}
			err := l.Append(last)
			if err == api.OK {
				want = append(want, last)
			} else if err != api.ErrDown || l.Up() || l.Len() != len(want) {
				t.Fatal(err)
			}
		}
		if l.Append(nil) != api.ErrDown || l.Append(make([]byte, api.MaxBlock+1)) != api.ErrLimit {
			t.Fatal("a log that is down")
		}
		flip := r.Int(300) - 100
		d.Crash([]int{r.Int(20), r.Int(20), r.Int(20)}, flip)
		if l.Append(nil) != api.ErrDown {
			t.Fatal("a log that is down stays down")
		}
		_, got := open(t, d, 0)
		if !same(got, want) && !same(got, append(want, last)) {
			t.Fatal("records are lost or new", got, want)
		}
		if _, got := open(t, d, 2); !same(got, [][]byte{{42}}) {
			t.Fatal("another log is affected")
		}
	}
}
