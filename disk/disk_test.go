package disk

import (
	"bytes"
	"slices"
	"testing"

	"rexmill/api"
	"rexmill/sample"
)

func disk(t *testing.T, room int) *Disk {
	d, err := New(room)
	if err != api.OK {
		t.Fatal(err)
	}
	return d
}

func content(t *testing.T, d *Disk, file int, want ...byte) {
	t.Helper()
	if b, err := d.Read(file); err != api.OK || !bytes.Equal(b, want) {
		t.Errorf("file %d is %v, %d, want %v", file, b, err, want)
	}
}

func TestNew(t *testing.T) {
	for _, room := range []int{-1, 1<<24 + 1} {
		if d, err := New(room); d != nil || err != api.ErrArg {
			t.Error("New", room)
		}
	}
	d := disk(t, 1<<24)
	if d.Used() != 0 || len(d.Files()) != 0 || !d.On() {
		t.Error("a new disk")
	}
	if d := disk(t, 0); d.Append(0, nil) != api.OK || d.Append(0, []byte{1}) != api.ErrFull {
		t.Error("no room")
	}
}

func TestExample(t *testing.T) {
	d := disk(t, 10)
	d.Append(3, []byte{1, 2})
	d.Sync()
	d.Append(3, []byte{255})
	e := d.Copy()
	d.Crash([]int{1}, 7)
	content(t, d, 3, 1, 2, 254)
	e.Crash(nil, 7)
	content(t, e, 3, 1, 2)
	d.Arm(0)
	if d.Append(3, []byte{5}) != api.ErrDown || d.On() {
		t.Error("Append during the failure")
	}
	if b, err := d.Read(3); err != api.ErrDown || b != nil {
		t.Error("Read without power")
	}
	if d.Used() != 4 || !slices.Equal(d.Files(), []int{3}) {
		t.Error("Used and Files work without power")
	}
}

func TestErrors(t *testing.T) {
	d := disk(t, 4)
	d.Append(1, []byte{1, 2, 3})
	for _, file := range []int{-1, 64} {
		_, err := d.Read(file)
		if d.Append(file, nil) != api.ErrArg || err != api.ErrArg || d.Truncate(file, 0) != api.ErrArg || d.Rot(file, 0) != api.ErrArg {
			t.Error("file", file)
		}
	}
	if d.Append(2, []byte{1, 2}) != api.ErrFull || d.Append(63, []byte{1}) != api.OK || d.Append(0, nil) != api.OK {
		t.Error("room")
	}
	if d.Truncate(1, -1) != api.ErrArg || d.Truncate(1, 4) != api.ErrArg || d.Truncate(2, 1) != api.ErrArg || d.Truncate(1, 3) != api.OK || d.Truncate(2, 0) != api.OK {
		t.Error("Truncate")
	}
	d.Arm(0)
	if d.Append(2, []byte{1}) != api.ErrFull || d.Truncate(1, 9) != api.ErrArg || !d.On() {
		t.Error("what fails for another reason is no step")
	}
	if d.Sync() != api.ErrDown || d.On() {
		t.Error("Sync during the failure")
	}
	if d.Append(64, nil) != api.ErrArg || d.Append(2, []byte{1, 2}) != api.ErrDown || d.Truncate(1, 9) != api.ErrArg || d.Truncate(1, 1) != api.ErrDown || d.Sync() != api.ErrDown {
		t.Error("errors without power")
	}
	d.Arm(5)
	d.Crash([]int{3, 1}, -1)
	if !d.On() || d.Sync() != api.OK {
		t.Error("after a crash")
	}
	for range 9 {
		if d.Sync() != api.OK {
			t.Error("Arm without power plans something")
		}
	}
}

func TestPlans(t *testing.T) {
	for n := range 5 {
		d := disk(t, 100)
		d.Append(0, []byte{9, 9, 9})
		d.Sync()
		d.Arm(77)
		d.Arm(n)
		steps := []func() api.Errno{func() api.Errno { return d.Append(0, []byte{1}) }, d.Sync, func() api.Errno { return d.Truncate(0, 2) }, func() api.Errno { return d.Append(1, nil) }, d.Sync}
		for i, step := range steps {
			d.Read(0)
			want := api.OK
			if i >= n {
				want = api.ErrDown
			}
			if err := step(); err != want {
				t.Errorf("plan %d, step %d: %d", n, i, err)
			}
		}
		used := []int{4, 4, 4, 2, 2}[n]
		if d.Used() != used {
			t.Errorf("plan %d: %d bytes", n, d.Used())
		}
	}
	d := disk(t, 9)
	d.Arm(0)
	d.Arm(-7)
	if d.Sync() != api.OK {
		t.Error("a plan that was taken back")
	}
	d.Arm(1)
	d.Crash(nil, -1)
	for range 2 {
		if d.Sync() != api.OK {
			t.Error("a crash forgets the plan")
		}
	}
}

func TestCrash(t *testing.T) {
	d := disk(t, 100)
	d.Append(5, []byte{1, 1})
	d.Append(9, []byte{2})
	d.Sync()
	d.Append(2, []byte{0, 0, 0})
	d.Append(5, []byte{0, 0})
	d.Append(9, []byte{0})
	for i, c := range []struct {
		keep  []int
		flip  int
		files []int
		a     []byte
		b     []byte
		c     []byte
	}{
		{nil, -1, []int{5, 9}, nil, []byte{1, 1}, []byte{2}}, {[]int{-5, 1, 99}, -1, []int{5, 9}, nil, []byte{1, 1, 0}, []byte{2, 0}}, {[]int{2, 1, 1}, 0, []int{2, 5, 9}, []byte{128, 0}, []byte{1, 1, 0}, []byte{2, 0}}, {[]int{2, 1, 1}, 17, []int{2, 5, 9}, []byte{0, 0}, []byte{1, 1, 64}, []byte{2, 0}}, {[]int{2, 1, 1}, 31, []int{2, 5, 9}, []byte{0, 0}, []byte{1, 1, 0}, []byte{2, 1}}, {[]int{2, 1, 1}, 32, []int{2, 5, 9}, []byte{128, 0}, []byte{1, 1, 0}, []byte{2, 0}}, {[]int{0, 0, 0}, 5, []int{5, 9}, nil, []byte{1, 1}, []byte{2}}, {[]int{0, 0, 1, 7, 7}, 1<<62 + 1, []int{5, 9}, nil, []byte{1, 1}, []byte{2, 64}},
	} {
		e := d.Copy()
		e.Crash(c.keep, c.flip)
		if !slices.Equal(e.Files(), c.files) {
			t.Errorf("case %d: %v", i, e.Files())
		}
		content(t, e, 2, c.a...)
		content(t, e, 5, c.b...)
		content(t, e, 9, c.c...)
		before := e.Used()
		e.Crash(nil, 3)
		if e.Used() != before {
			t.Errorf("case %d: not all is durable after a crash", i)
		}
	}
	content(t, d, 2, 0, 0, 0)
}

func TestTruncateKeepsWhatIsDurable(t *testing.T) {
	d := disk(t, 100)
	d.Append(0, []byte{1, 2, 3})
	d.Sync()
	d.Append(0, []byte{4, 5})
	d.Truncate(0, 4)
	e := d.Copy()
	e.Crash(nil, -1)
	content(t, e, 0, 1, 2, 3)
	d.Truncate(0, 2)
	d.Append(0, []byte{7})
	d.Crash(nil, -1)
	content(t, d, 0, 1, 2)
	d.Truncate(0, 0)
	if len(d.Files()) != 0 {
		t.Error("an empty file is listed")
	}
	d.Append(0, []byte{8})
	d.Crash(nil, -1)
	content(t, d, 0)
}

func TestRot(t *testing.T) {
	d := disk(t, 9)
	d.Append(0, []byte{0, 0})
	if d.Rot(0, 9) != api.OK || d.Rot(0, 16) != api.ErrArg || d.Rot(0, -1) != api.ErrArg || d.Rot(1, 0) != api.ErrArg {
		t.Error("Rot")
	}
	content(t, d, 0, 0, 64)
	d.Arm(0)
	d.Rot(0, 0)
	if !d.On() {
		t.Error("Rot is a step")
	}
	d.Sync()
	if d.Rot(0, 7) != api.OK {
		t.Error("Rot without power")
	}
	d.Crash([]int{2}, -1)
	content(t, d, 0, 129, 64)
}

func TestCopyAndMemory(t *testing.T) {
	d := disk(t, 9)
	b := []byte{1, 2}
	d.Append(0, b)
	b[0] = 9
	got, _ := d.Read(0)
	got[1] = 9
	content(t, d, 0, 1, 2)
	d.Arm(1)
	e := d.Copy()
	d.Append(0, []byte{3})
	d.Rot(0, 0)
	content(t, e, 0, 1, 2)
	if e.Append(1, nil) != api.OK || e.Append(1, nil) != api.ErrDown || !d.On() {
		t.Error("the copy has the same plan")
	}
}

func TestContents(t *testing.T) {
	r := sample.New(1)
	d := disk(t, 1<<20)
	model := map[int][]byte{}
	for range 3000 {
		file := r.Int(4)
		switch r.Int(3) {
		case 0:
			n := r.Int(len(model[file]) + 1)
			d.Truncate(file, n)
			model[file] = model[file][:n]
		case 1:
			b := []byte{byte(r.Int(256)), byte(r.Int(256))}
			d.Append(file, b)
			model[file] = append(slices.Clone(model[file]), b...)
		default:
			d.Sync()
		}
		content(t, d, file, model[file]...)
	}
}
