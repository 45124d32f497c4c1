package store

import (
	"slices"
	"strconv"
	"strings"
	"testing"

	"rexmill/api"
	"rexmill/disk"
	"rexmill/journal"
	"rexmill/ruleset"
	"rexmill/sample"
	"rexmill/wire"
)

func newDisk(room int) *disk.Disk {
	d, _ := disk.New(room)
	return d
}

func open(t *testing.T, d *disk.Disk, file int) *Store {
	t.Helper()
	s, err := Open(d, file)
	if err != api.OK || !s.Up() {
		t.Fatal(err)
	}
	return s
}

// rules returns rules from names and texts.
func rules(l ...string) []ruleset.Rule {
	var out []ruleset.Rule
	for i := 0; i < len(l); i += 2 {
		out = append(out, ruleset.Rule{Name: l[i], Text: l[i+1]})
	}
	return out
}

func TestExample(t *testing.T) {
	d := newDisk(1 << 20)
	s := open(t, d, 3)
	if s.Len() != 0 || s.Active() != -1 {
		t.Error("a new store")
	}
	a, err := s.Save(rules("x", "a", "y", "b"))
	b, err2 := s.Save(rules("x", "a", "y", "c"))
	if a != 0 || b != 1 || err+err2 != api.OK || s.Use(1) != api.OK {
		t.Error(a, b, err, err2)
	}
	check := func(s *Store) {
		diff, err := s.Diff(0, 1)
		l, err2 := s.Load(0)
		if s.Len() != 2 || s.Active() != 1 || !slices.Equal(diff, []string{"y"}) || err != api.OK || err2 != api.OK || !slices.Equal(l, rules("x", "a", "y", "b")) {
			t.Error(s.Len(), s.Active(), diff)
		}
		set, _, _ := ruleset.Compile(l)
		if h, err := s.Hash(0); h != set.Hash() || err != api.OK {
			t.Error("Hash")
		}
	}
	check(s)
	l, _ := s.Load(0)
	l[0].Text = "z"
	check(s)
	check(open(t, d, 3))
}

func TestDiff(t *testing.T) {
	s := open(t, newDisk(1<<20), 0)
	s.Save(rules("b", "x", "a", "y", "c", "z"))
	s.Save(rules("c", "z", "d", "w", "a", "yy"))
	s.Save([]ruleset.Rule{{Name: "b", Text: "x", Runes: true}, {Name: "a", Text: "y"}, {Name: "c", Text: "z"}})
	s.Save(rules("c", "z", "b", "x", "a", "y"))
	for _, c := range []struct {
		a, b int
		want []string
		err  api.Errno
	}{{0, 1, []string{"a", "b", "d"}, api.OK}, {1, 0, []string{"a", "b", "d"}, api.OK}, {0, 2, []string{"b"}, api.OK}, {0, 3, nil, api.OK}, {0, 0, nil, api.OK}, {0, 4, nil, api.ErrNone}, {-1, 0, nil, api.ErrNone}} {
		if l, err := s.Diff(c.a, c.b); !slices.Equal(l, c.want) || err != c.err {
			t.Error(c.a, c.b, l, err)
		}
	}
	x, _ := s.Hash(0)
	y, _ := s.Hash(3)
	if x == y {
		t.Error("the order of rules does not matter for the hash")
	}
}

func TestErrors(t *testing.T) {
	if s, err := Open(nil, 0); s != nil || err != api.ErrArg {
		t.Error("no disk")
	}
	d := newDisk(1 << 24)
	s := open(t, d, 0)
	if n, err := s.Save(rules("X", "a")); n != 0 || err != api.ErrName {
		t.Error(err)
	}
	if _, err := s.Save(rules("x", ")")); err != api.ErrForm {
		t.Error(err)
	}
	if s.Use(0) != api.ErrNone || s.Use(-1) != api.ErrNone {
		t.Error("Use of no version")
	}
	if l, err := s.Load(0); l != nil || err != api.ErrNone {
		t.Error("Load of no version")
	}
	if h, err := s.Hash(0); h != 0 || err != api.ErrNone {
		t.Error("Hash of no version")
	}
	var big []ruleset.Rule
	for i := range 40 {
		big = append(big, ruleset.Rule{Name: "a" + strconv.Itoa(i), Text: strings.Repeat("(?:", 500) + strings.Repeat(")", 500)})
	}
	if _, err := s.Save(big); err != api.ErrLimit || s.Len() != 0 {
		t.Error("a record that is too long", err)
	}
	for i := range 1024 {
		if n, err := s.Save(nil); n != i || err != api.OK {
			t.Fatal(n, err)
		}
	}
	if _, err := s.Save(nil); err != api.ErrLimit || s.Len() != 1024 {
		t.Error("too many versions")
	}
	if _, err := s.Save(rules("X", "")); err != api.ErrName {
		t.Error("the error of Compile comes first")
	}
	if s.Use(1023) != api.OK || open(t, d, 0).Active() != 1023 {
		t.Error("Use")
	}
	full := newDisk(20)
	s = open(t, full, 0)
	if _, err := s.Save(rules("x", "aaaaaaaaaaaaaa")); err != api.ErrFull || !s.Up() || s.Len() != 0 {
		t.Error("a full disk", err)
	}
}

func TestLogsThatAreNotValid(t *testing.T) {
	list := func(l []ruleset.Rule) []byte {
		b, _ := ruleset.Encode(l)
		w := &wire.Writer{}
		w.Int(0)
		w.Raw(b)
		return w.Done()
	}
	use := func(n ...int) []byte {
		w := &wire.Writer{}
		for _, k := range n {
			w.Int(k)
		}
		return w.Done()
	}
	many := slices.Repeat([][]byte{list(nil)}, 1025)
	for i, c := range []struct {
		records [][]byte
		want    api.Errno
	}{
		{[][]byte{list(rules("x", "a")), use(1, 0)}, api.OK}, {[][]byte{list(rules("x", ")"))}, api.OK}, {[][]byte{use(1, 0), list(nil)}, api.ErrForm}, {[][]byte{list(nil), use(1, -1)}, api.ErrForm}, {[][]byte{list(nil), use(1, 1)}, api.ErrForm}, {[][]byte{list(nil), use(1, 0, 0)}, api.ErrForm}, {[][]byte{list(nil), use(1)}, api.ErrForm}, {[][]byte{list(nil), use(2, 0)}, api.ErrForm}, {[][]byte{nil}, api.ErrForm}, {[][]byte{append(list(nil), 0)}, api.ErrForm}, {[][]byte{{0, 1, 1}}, api.ErrForm}, {many, api.ErrForm}, {many[:1024], api.OK},
	} {
		d := newDisk(1 << 20)
		l, _, _ := journal.Open(d, 0)
		for _, b := range c.records {
			l.Append(b)
		}
		if s, err := Open(d, 0); err != c.want || (s == nil) != (err != api.OK) {
			t.Errorf("case %d: %d", i, err)
		}
	}
}

// state is what a store says.
type state struct {
	versions [][]ruleset.Rule
	active   int
}

func stateOf(s *Store) state {
	x := state{active: s.Active()}
	for i := range s.Len() {
		l, _ := s.Load(i)
		x.versions = append(x.versions, l)
	}
	return x
}

func same(a, b state) bool {
	return a.active == b.active && slices.EqualFunc(a.versions, b.versions, slices.Equal[[]ruleset.Rule])
}

func TestDurability(t *testing.T) {
	r := sample.New(1)
	for range 300 {
		d := newDisk(1 << 20)
		s, other := open(t, d, 0), open(t, d, 1)
		other.Save(rules("o", "a"))
		d.Arm(r.Int(16))
		want := stateOf(s)
		next := want
		for s.Up() {
			next = state{slices.Clone(want.versions), want.active}
			var err api.Errno
			if r.Int(2) == 0 || s.Len() == 0 {
				l := rules("x", strings.Repeat("a", r.Int(5)), "y", "b")
				_, err = s.Save(l)
				next.versions = append(next.versions, l)
			} else {
				next.active = r.Int(s.Len())
				err = s.Use(next.active)
			}
			if err == api.OK {
				want = next
			} else if err != api.ErrDown {
				t.Fatal(err)
			}
		}
		if !same(stateOf(s), want) {
			t.Fatal("an operation with an error changes the store")
		}
		d.Crash([]int{r.Int(60), r.Int(9)}, -1)
		if got := stateOf(open(t, d, 0)); !same(got, want) && !same(got, next) {
			t.Fatal("versions are lost or new")
		}
		if open(t, d, 1).Len() != 1 {
			t.Fatal("another store is affected")
		}
	}
}

func TestAltered(t *testing.T) {
	d := newDisk(1 << 20)
	s := open(t, d, 0)
	s.Save(rules("x", "a"))
	first, _ := d.Read(0)
	s.Use(0)
	second, _ := d.Read(0)
	s.Save(rules("y", "b"))
	all, _ := d.Read(0)
	for bit := range 8 * len(all) {
		at := bit / 8
		if at == 0 || at == len(first) || at == len(second) {
			continue
		}
		e := d.Copy()
		e.Rot(0, bit)
		x, err := Open(e, 0)
		versions, active := 1, 0
		switch {
		case at < len(first):
			versions, active = 0, -1
		case at < len(second):
			versions, active = 1, -1
		}
		if err != api.OK || x.Len() != versions || x.Active() != active {
			t.Fatal("bit", bit, err)
		}
	}
}
