package house

import (
	"bytes"
	"slices"
	"strconv"
	"strings"
	"testing"

	"rexmill/api"
	"rexmill/disk"
	"rexmill/edits"
	"rexmill/journal"
	"rexmill/proto"
	"rexmill/rules"
	"rexmill/ruleset"
	"rexmill/sample"
	"rexmill/store"
	"rexmill/syntax"
	"rexmill/text"
	"rexmill/wire"
)

func newDisk(room int) *disk.Disk {
	d, _ := disk.New(room)
	return d
}

func open(t *testing.T, d *disk.Disk) *House {
	t.Helper()
	h, err := Open(d, 3, api.MaxFuel, 10)
	if err != api.OK || !h.Up() {
		t.Fatal(err)
	}
	return h
}

func list(texts ...string) []ruleset.Rule {
	var l []ruleset.Rule
	for i, s := range texts {
		l = append(l, ruleset.Rule{Name: "r" + strconv.Itoa(i), Text: s})
	}
	return l
}

// do does an operation that has to succeed with a number.
func do(t *testing.T, h *House, x Op, want int) []byte {
	t.Helper()
	n, b, err := h.Do(x)
	if n != want || err != api.OK {
		t.Fatalf("operation %d: %d %d", x.Kind, n, err)
	}
	return b
}

// fail does an operation that has to fail.
func fail(t *testing.T, h *House, x Op, want api.Errno) {
	t.Helper()
	if n, b, err := h.Do(x); err != want || n != 0 || b != nil {
		t.Errorf("operation %d: %d %v %d, want %d", x.Kind, n, b, err, want)
	}
}

// send sends messages on a link, and returns the replies.
func send(t *testing.T, h *House, link int, l ...proto.Message) []proto.Message {
	t.Helper()
	var b []byte
	for _, m := range l {
		f, err := proto.Encode(m)
		if err != api.OK {
			t.Fatal(err)
		}
		b = append(b, f...)
	}
	out := do(t, h, Op{Kind: DoSend, A: link, Raw: b}, len(l))
	return read(t, out)
}

func read(t *testing.T, b []byte) []proto.Message {
	t.Helper()
	r := proto.NewReader()
	l, err := r.Feed(b)
	if err != api.OK || r.Held() != 0 {
		t.Fatal("replies", err)
	}
	return l
}

func hello(conn int) proto.Message { return proto.Message{Kind: proto.Hello, Conn: conn} }

func data(conn int, s string) proto.Message {
	return proto.Message{Kind: proto.Data, Conn: conn, Body: []byte(s)}
}

func end(conn int) proto.Message { return proto.Message{Kind: proto.End, Conn: conn} }

// is checks a reply.
func is(t *testing.T, m proto.Message, kind, conn, version int, code api.Errno, found ...int) {
	t.Helper()
	var l []api.Found
	for i := 0; i < len(found); i += 3 {
		l = append(l, api.Found{Rule: found[i], Start: found[i+1], End: found[i+2]})
	}
	if m.Kind != kind || m.Conn != conn || m.Version != version || m.Code != code || !slices.Equal(m.Found, l) || len(m.Body) > 0 {
		t.Errorf("reply %v, want %d %d %d %d %v", m, kind, conn, version, code, l)
	}
}

func TestExample(t *testing.T) {
	h := open(t, newDisk(1<<20))
	if h.Len() != 0 || h.Active() != -1 || h.Now() != 0 {
		t.Error("a new house")
	}
	fail(t, h, Op{Kind: DoCanary}, api.ErrNone)
	fail(t, h, Op{Kind: DoRepair}, api.ErrNone)
	do(t, h, Op{Kind: DoSave, Rules: list("a+")}, 0)
	do(t, h, Op{Kind: DoUse}, 0)
	l := send(t, h, 0, hello(5), data(5, "baa"), end(5))
	is(t, l[0], proto.Hello, 5, 0, 0)
	is(t, l[1], proto.Verdict, 5, 0, 0)
	is(t, l[2], proto.End, 5, 0, 0, 0, 1, 3, 0, 2, 3)
}

func TestOpenErrors(t *testing.T) {
	d := newDisk(1 << 20)
	off := newDisk(1 << 20)
	off.Arm(0)
	off.Sync()
	form := newDisk(1 << 20)
	l, _, _ := journal.Open(form, 0)
	l.Append([]byte{9})
	for i, c := range []struct {
		d                      *disk.Disk
		workers, share, period int
		want                   api.Errno
	}{{nil, 1, 1, 1, api.ErrArg}, {d, 0, -1, 1, api.ErrArg}, {d, 65, 1, 1, api.ErrArg}, {d, 64, -1, 1, api.ErrArg}, {off, 1, 1, 0, api.ErrArg}, {off, 1, 1, 1, api.ErrDown}, {form, 1, 1, 1, api.ErrForm}, {d, 64, 0, 1, api.OK}} {
		if h, err := Open(c.d, c.workers, c.share, c.period); err != c.want || (h == nil) != (err != api.OK) {
			t.Error("case", i, err)
		}
	}
	good := record(Op{B: openText, Raw: []byte("ab")})
	for i, c := range []struct {
		records [][]byte
		want    api.Errno
	}{{[][]byte{good}, api.OK}, {[][]byte{good, good}, api.ErrForm}, {[][]byte{{1}}, api.ErrForm}, {[][]byte{append(slices.Clone(good), 0)}, api.ErrForm}, {[][]byte{record(Op{B: closeText})}, api.ErrForm}, {[][]byte{good, record(Op{B: 4})}, api.ErrForm}, {[][]byte{good, record(Op{Item: edits.Item{Client: 1023}})}, api.ErrForm}, {[][]byte{good, record(Op{B: closeText}), good}, api.OK}, {[][]byte{nil}, api.ErrForm}} {
		d := newDisk(1 << 20)
		l, _, _ := journal.Open(d, 1)
		for _, b := range c.records {
			l.Append(b)
		}
		if _, err := Open(d, 1, 1, 1); err != c.want {
			t.Error("journal", i, err)
		}
	}
}

func TestErrors(t *testing.T) {
	h := open(t, newDisk(1<<20))
	fail(t, h, Op{Kind: -1}, api.ErrArg)
	fail(t, h, Op{Kind: 12}, api.ErrArg)
	fail(t, h, Op{Kind: DoSave, Rules: []ruleset.Rule{{Name: "A"}, {Name: "b", Runes: true}}}, api.ErrKind)
	fail(t, h, Op{Kind: DoSave, Rules: list("a", ")")}, api.ErrForm)
	fail(t, h, Op{Kind: DoUse}, api.ErrNone)
	do(t, h, Op{Kind: DoSave, Rules: list("a")}, 0)
	fail(t, h, Op{Kind: DoCanary, B: 1}, api.ErrNone)
	fail(t, h, Op{Kind: DoUse, A: -1}, api.ErrNone)
	do(t, h, Op{Kind: DoUse}, 0)
	fail(t, h, Op{Kind: DoCanary, A: 1, B: 1}, api.ErrNone)
	fail(t, h, Op{Kind: DoCanary, A: 0, B: 0}, api.ErrArg)
	fail(t, h, Op{Kind: DoCanary, A: 0, B: 1, Rules: list("x", "y")}, api.ErrName)
	do(t, h, Op{Kind: DoCanary, A: 0, B: 1, Rules: list("x")}, 0)
	fail(t, h, Op{Kind: DoCanary, A: 0, B: 1}, api.ErrBusy)
	fail(t, h, Op{Kind: DoUse}, api.ErrBusy)
	fail(t, h, Op{Kind: DoUse, A: 7}, api.ErrNone)
	for _, a := range []int{-1, 64} {
		fail(t, h, Op{Kind: DoSend, A: a}, api.ErrArg)
	}
	for _, a := range []int{-1, 3} {
		fail(t, h, Op{Kind: DoAsk, A: a}, api.ErrArg)
		fail(t, h, Op{Kind: DoStop, A: a}, api.ErrArg)
		fail(t, h, Op{Kind: DoStop, A: a, B: 1}, api.ErrArg)
	}
	fail(t, h, Op{Kind: DoStop, B: 1}, api.ErrState)
	fail(t, h, Op{Kind: DoAnswer}, api.ErrNone)
	fail(t, h, Op{Kind: DoAnswer, A: -1}, api.ErrNone)
	fail(t, h, Op{Kind: DoTick, A: -1}, api.ErrArg)
	fail(t, h, Op{Kind: DoTick, A: 1<<20 + 1}, api.ErrArg)
	do(t, h, Op{Kind: DoTick, A: 1 << 20}, 0)
	if h.Now() != 1<<20 {
		t.Error("DoTick")
	}
	h.tick = api.MaxTick - 1
	fail(t, h, Op{Kind: DoTick, A: 2}, api.ErrArg)
	do(t, h, Op{Kind: DoTick, A: 1}, 0)
	fail(t, h, Op{Kind: DoArm, A: -1}, api.ErrArg)
	for b, want := range map[int]api.Errno{-1: api.ErrArg, 4: api.ErrArg, 0: api.ErrNone, 2: api.ErrNone, 3: api.ErrNone} {
		fail(t, h, Op{Kind: DoEdit, A: 5, B: b}, want)
		fail(t, h, Op{Kind: DoEdit, A: 5, B: b, Raw: make([]byte, api.MaxBlock)}, api.ErrLimit)
	}
	fail(t, h, Op{Kind: DoEdit, A: 1024, B: 1}, api.ErrArg)
	fail(t, h, Op{Kind: DoRepair, A: 1}, api.ErrNone)
	fail(t, h, Op{Kind: DoRepair, A: -1}, api.ErrNone)
	fail(t, h, Op{Kind: DoRepair, B: 17}, api.ErrRange)
	if l, err := h.Rules(1); l != nil || err != api.ErrNone {
		t.Error("Rules")
	}
	if l, err := h.Found(0); l != nil || err != api.ErrNone {
		t.Error("Found")
	}
	do(t, h, Op{Kind: DoArm, A: 0}, 0)
	fail(t, h, Op{Kind: DoSave, Rules: list("a")}, api.ErrDown)
	if h.Up() {
		t.Error("a house whose power has failed is up")
	}
	for kind := range 12 {
		if kind != DoCrash {
			fail(t, h, Op{Kind: kind}, api.ErrDown)
		}
	}
	do(t, h, Op{Kind: DoCrash}, 1)
	if !h.Up() || h.Now() != 0 || h.Active() != 0 {
		t.Error("after a crash")
	}
}

func TestMessages(t *testing.T) {
	h := open(t, newDisk(1<<20))
	is(t, send(t, h, 1, hello(1))[0], proto.Error, 1, -1, api.ErrState)
	do(t, h, Op{Kind: DoSave, Rules: list("a", "(?>b)")}, 0)
	do(t, h, Op{Kind: DoUse}, 0)
	l := send(t, h, 63, hello(1), hello(1), data(2, "a"), end(2), proto.Message{Kind: proto.Use, Conn: 9}, proto.Message{Kind: proto.Verdict}, data(1, "ab"), end(1), end(1))
	is(t, l[0], proto.Hello, 1, 0, 0)
	is(t, l[1], proto.Error, 1, -1, api.ErrTwice)
	is(t, l[2], proto.Error, 2, -1, api.ErrNone)
	is(t, l[3], proto.Error, 2, -1, api.ErrNone)
	is(t, l[4], proto.Error, 9, -1, api.ErrKind)
	is(t, l[5], proto.Error, 0, -1, api.ErrKind)
	is(t, l[6], proto.Verdict, 1, 0, 0, 0, 0, 1)
	is(t, l[7], proto.End, 1, 0, 0, 1, 1, 2)
	is(t, l[8], proto.Error, 1, -1, api.ErrNone)
	// Pieces, and bytes that are no frame.
	f, _ := proto.Encode(hello(3))
	if b := do(t, h, Op{Kind: DoSend, A: 7, Raw: f[:10]}, 0); b != nil {
		t.Error("a part of a message is answered")
	}
	bad := slices.Clone(f)
	bad[15] ^= 1
	l = read(t, do(t, h, Op{Kind: DoSend, A: 7, Raw: append(slices.Clone(f[10:]), bad...)}, 1))
	is(t, l[0], proto.Hello, 3, 0, 0)
	is(t, l[1], proto.Error, 0, -1, api.ErrSum)
	is(t, send(t, h, 7, end(3))[0], proto.End, 3, 0, 0)
	// Many findings.
	l = send(t, h, 0, hello(4), data(4, strings.Repeat("a", 2500)), end(4))
	if len(l) != 5 || len(l[1].Found) != 1024 || len(l[2].Found) != 1024 || len(l[3].Found) != 452 || l[1].Kind != proto.Verdict || l[1].Version != 0 || l[3].Found[451].Start != 2499 {
		t.Error("many findings", len(l))
	}
	l = send(t, h, 0, hello(4), data(4, strings.Repeat("a", 1024)), end(4))
	if len(l) != 3 || len(l[1].Found) != 1024 {
		t.Error("as many findings as a message can have")
	}
}

// body returns the Body of a reply of a worker.
func body(err api.Errno, found ...int) []byte {
	w := &wire.Writer{}
	w.Int(int(err))
	for _, n := range found {
		w.Int(n)
	}
	return w.Done()
}

func TestWorkers(t *testing.T) {
	h := open(t, newDisk(1<<20))
	do(t, h, Op{Kind: DoSave, Rules: list("a", "b")}, 0)
	do(t, h, Op{Kind: DoSave, Rules: list("[ab]+")}, 1)
	do(t, h, Op{Kind: DoUse}, 0)
	do(t, h, Op{Kind: DoAsk}, 0)
	send(t, h, 0, hello(1), data(1, "ab"), end(1), hello(2))
	do(t, h, Op{Kind: DoUse, A: 1}, 0)
	send(t, h, 0, data(2, "b"), end(2), hello(3), data(3, "ba"), end(3))
	do(t, h, Op{Kind: DoAsk, A: 0, B: 1}, 1)
	fail(t, h, Op{Kind: DoAsk, A: 0}, api.ErrBusy)
	do(t, h, Op{Kind: DoAsk, A: 1}, 2)
	do(t, h, Op{Kind: DoAsk, A: 2, B: 9}, 3)
	if b := do(t, h, Op{Kind: DoAnswer, A: 1, B: 1}, 1); !bytes.Equal(b, body(0, 1, 0, 1)) {
		t.Error(b)
	}
	if b := do(t, h, Op{Kind: DoAnswer, A: 1}, 0); b != nil {
		t.Error("a second answer")
	}
	if b := do(t, h, Op{Kind: DoAnswer, A: 1}, 1); !bytes.Equal(b, body(0, 0, 0, 2, 0, 1, 2)) {
		t.Error(b)
	}
	do(t, h, Op{Kind: DoStop, A: 0}, 0)
	fail(t, h, Op{Kind: DoStop, A: 0}, api.ErrState)
	fail(t, h, Op{Kind: DoAsk, A: 0}, api.ErrDown)
	do(t, h, Op{Kind: DoAsk, A: 1}, 2)
	do(t, h, Op{Kind: DoStop, A: 0, B: 1}, 0)
	do(t, h, Op{Kind: DoAsk, A: 0}, 0)
	do(t, h, Op{Kind: DoTick, A: 10}, 0)
	do(t, h, Op{Kind: DoAsk, A: 0}, 3)
	if b := do(t, h, Op{Kind: DoAnswer, A: 2}, 1); !bytes.Equal(b, body(0, 0, 0, 1, 1, 1, 2)) {
		t.Error(b)
	}
	do(t, h, Op{Kind: DoAnswer, A: 0}, 0)
	do(t, h, Op{Kind: DoAnswer, A: 0}, 0)
	fail(t, h, Op{Kind: DoAnswer, A: 0}, api.ErrNone)
	// A worker goes through versions that do not fit into it all at once.
	for v := range 6 {
		do(t, h, Op{Kind: DoSave, Rules: list(strings.Repeat("a?", v) + "b")}, 2+v)
		do(t, h, Op{Kind: DoUse, A: 2 + v}, 0)
		send(t, h, 0, hello(1), data(1, "aaab"), end(1))
		do(t, h, Op{Kind: DoAsk, A: 1, B: 1}, 1)
		set, _, _ := ruleset.Compile(list(strings.Repeat("a?", v) + "b"))
		found, _ := set.Found([]int{'a', 'a', 'a', 'b'}, 1<<20)
		var want []int
		for _, f := range found {
			want = append(want, f.Rule, f.Start, f.End)
		}
		if b := do(t, h, Op{Kind: DoAnswer}, 1); !bytes.Equal(b, body(0, want...)) {
			t.Error("version", v)
		}
	}
}

func TestWorkerWithoutFuel(t *testing.T) {
	h, err := Open(newDisk(1<<20), 1, 1000, 10)
	if err != api.OK {
		t.Fatal(err)
	}
	do(t, h, Op{Kind: DoSave, Rules: list(`(?:a|a)*()\1b`)}, 0)
	do(t, h, Op{Kind: DoUse}, 0)
	l := send(t, h, 0, hello(1), data(1, strings.Repeat("a", 40)), end(1))
	is(t, l[2], proto.End, 1, 0, 0, 0, -1, -1)
	do(t, h, Op{Kind: DoAsk}, 1)
	if b := do(t, h, Op{Kind: DoAnswer}, 1); !bytes.Equal(b, body(api.ErrFuel)) {
		t.Error("the error of a match is told", b)
	}
}

func TestCanary(t *testing.T) {
	for _, c := range []struct {
		texts  []string
		active int
		ended  bool
	}{
		{[]string{"b", "b", "b", "b"}, 1, true}, {[]string{"b", "aa", "b", "b"}, 1, true}, {[]string{"b", "b", "b"}, 0, false}, {[]string{"aa", "aa"}, 0, true}, {[]string{"aa", "b", "b", "aa"}, 0, true},
	} {
		h := open(t, newDisk(1<<20))
		do(t, h, Op{Kind: DoSave, Rules: list("a", "b")}, 0)
		do(t, h, Op{Kind: DoSave, Rules: list("a+", "b")}, 1)
		do(t, h, Op{Kind: DoUse}, 0)
		do(t, h, Op{Kind: DoCanary, A: 1, B: 1}, 0)
		for _, s := range c.texts {
			send(t, h, 0, hello(1), data(1, s), end(1))
		}
		_, _, err := h.Do(Op{Kind: DoUse, A: h.Active()})
		if h.Active() != c.active || (err == api.ErrBusy) == c.ended {
			t.Error(c.texts, h.Active(), err)
		}
	}
	h := open(t, newDisk(1<<20))
	do(t, h, Op{Kind: DoSave, Rules: list("a", "b")}, 0)
	do(t, h, Op{Kind: DoSave, Rules: list("a+", "b")}, 1)
	do(t, h, Op{Kind: DoUse, A: 1}, 0)
	send(t, h, 0, hello(9), data(9, "aa"))
	do(t, h, Op{Kind: DoUse, A: 0}, 0)
	do(t, h, Op{Kind: DoCanary, A: 1, B: 2, Rules: list("x")}, 0)
	send(t, h, 0, end(9))
	for i := range 7 {
		if h.Active() != 0 {
			t.Error("too early", i)
		}
		send(t, h, 0, hello(1), data(1, "aa"), end(1))
	}
	if h.Active() != 1 {
		t.Error("a version with allowed differences, for every second text")
	}
	is(t, send(t, h, 0, hello(1))[0], proto.Hello, 1, 1, 0)
	// A failure of the power while the new version is used.
	h = open(t, newDisk(1<<20))
	do(t, h, Op{Kind: DoSave, Rules: list("a")}, 0)
	do(t, h, Op{Kind: DoSave, Rules: list("b")}, 1)
	do(t, h, Op{Kind: DoUse}, 0)
	do(t, h, Op{Kind: DoCanary, A: 1, B: 1}, 0)
	for range 3 {
		send(t, h, 0, hello(1), data(1, "c"), end(1))
	}
	do(t, h, Op{Kind: DoArm}, 0)
	l := send(t, h, 0, hello(1), data(1, "c"), end(1))
	if len(l) != 3 || h.Up() || h.Active() != 0 {
		t.Error("the canary without power")
	}
}

// state is what a house keeps.
type state struct {
	versions [][]ruleset.Rule
	active   int
	texts    map[int]string
}

func stateOf(h *House) state {
	s := state{active: h.Active(), texts: map[int]string{}}
	for v := range h.Len() {
		l, _ := h.Rules(v)
		s.versions = append(s.versions, l)
	}
	for doc := range 8 {
		if b, err := h.Text(doc); err == api.OK {
			s.texts[doc] = string(b)
		}
	}
	return s
}

func same(a, b state) bool {
	if a.active != b.active || len(a.texts) != len(b.texts) || !slices.EqualFunc(a.versions, b.versions, slices.Equal[[]ruleset.Rule]) {
		return false
	}
	for doc, s := range a.texts {
		if other, is := b.texts[doc]; !is || other != s {
			return false
		}
	}
	return true
}

// checkFound: what is found in documents is what the live rules of the active version find anew.
func checkFound(t *testing.T, h *House) {
	t.Helper()
	for doc := range 8 {
		b, err := h.Text(doc)
		if err != api.OK {
			continue
		}
		var want []api.Found
		if h.Active() >= 0 {
			l, _ := h.Rules(h.Active())
			set, _, _ := ruleset.Compile(l)
			symbols, _ := text.Decode(b, false)
			all, _ := set.Found(symbols, api.MaxFuel)
			_, index := liveRules(l)
			want = slices.DeleteFunc(all, func(f api.Found) bool { return !slices.Contains(index, f.Rule) })
		}
		if got, err := h.Found(doc); err != api.OK || !slices.Equal(got, want) {
			t.Fatal("Found", doc, got, want, err)
		}
	}
}

// random returns an operation that changes what is durable.
func random(r *sample.Rand, h *House, next map[int]int) Op {
	texts := []string{"a+", "ab", "(?=a)b", "b|ba", "^a", "[ab]c?", "(?>a)"}
	switch r.Int(6) {
	case 0:
		var l []string
		for range r.Int(4) {
			l = append(l, texts[r.Int(len(texts))])
		}
		return Op{Kind: DoSave, Rules: list(l...)}
	case 1:
		return Op{Kind: DoUse, A: r.Int(h.Len() + 1)}
	case 2:
		doc := r.Int(3)
		return Op{Kind: DoEdit, A: doc, B: []int{1, 1, 3, 2}[r.Int(4)], Raw: []byte("abcab"[:r.Int(6)])}
	case 3:
		return Op{Kind: DoRepair, A: r.Int(3), B: r.Int(3)}
	}
	doc := r.Int(3)
	b, _ := h.Text(doc)
	at := r.Int(len(b) + 1)
	x := edits.Item{Client: r.Int(2), Edit: api.Edit{At: at, Del: r.Int(min(3, len(b)-at+1)), Ins: r.Text("abc", 3)}}
	x.Number = next[10*doc+x.Client]
	x.Base = r.Int(6)
	return Op{Kind: DoEdit, A: doc, Item: x}
}

func TestDurable(t *testing.T) {
	r := sample.New(1)
	for range 120 {
		d := newDisk(1 << 20)
		h := open(t, d)
		next := map[int]int{}
		want := stateOf(h)
		for range 40 {
			if r.Int(8) == 0 {
				h.Do(Op{Kind: DoArm, A: r.Int(6)})
			}
			x := random(r, h, next)
			_, _, err := h.Do(x)
			if err == api.OK {
				want = stateOf(h)
				if x.Kind == DoEdit && x.B == 0 {
					next[10*x.A+x.Item.Client]++
				}
				if x.Kind == DoEdit && (x.B == 1 || x.B == 3) {
					next[10*x.A], next[10*x.A+1] = 0, 0
				}
			}
			if got := stateOf(h); !same(got, want) {
				t.Fatal("an operation with an error changes something", x, err)
			}
			checkFound(t, h)
			if r.Int(6) > 0 && h.Up() {
				continue
			}
			// What the operation that failed would have done is known from a house on a copy of the disk.
			hash := h.Hash()
			up := h.Up()
			keep := []byte{byte(r.Int(200)), byte(r.Int(200))}
			other := d.Copy()
			n := do(t, h, Op{Kind: DoCrash, Raw: keep}, h.Len()+extra(other, h, keep))
			got := stateOf(h)
			if up && (!same(got, want) || h.Hash() != hash) {
				t.Fatal("a crash loses something")
			}
			if n != nil || !up && !same(got, want) && !oneMore(want, got) {
				t.Fatal("after a failure", want, got)
			}
			checkFound(t, h)
			want = got
			if again := open(t, d.Copy()); again.Hash() != h.Hash() || !same(stateOf(again), got) {
				t.Fatal("another house on the same disk")
			}
			next = map[int]int{}
		}
	}
}

// extra returns how many versions a crash of a copy of the disk adds.
func extra(d *disk.Disk, h *House, keep []byte) int {
	var l []int
	for _, b := range keep {
		l = append(l, int(b))
	}
	d.Crash(l, -1)
	s, err := store.Open(d, 0)
	if err != api.OK {
		return 0
	}
	return s.Len() - h.Len()
}

// oneMore reports whether a state can come from one more operation.
func oneMore(before, after state) bool {
	more := len(after.versions) - len(before.versions)
	if more < 0 || more > 1 {
		return false
	}
	changed := more
	if before.active != after.active {
		changed++
	}
	for doc := range 8 {
		a, is := before.texts[doc]
		b, is2 := after.texts[doc]
		if is != is2 || a != b {
			changed++
		}
	}
	return changed == 1
}

func TestFullDisk(t *testing.T) {
	d := newDisk(1 << 20)
	h := open(t, d)
	do(t, h, Op{Kind: DoSave, Rules: list("a")}, 0)
	do(t, h, Op{Kind: DoSave, Rules: list("b")}, 1)
	do(t, h, Op{Kind: DoUse}, 0)
	do(t, h, Op{Kind: DoEdit, B: 1, Raw: []byte("ab")}, 0)
	d.Append(9, make([]byte, 1<<20-d.Used()))
	fail(t, h, Op{Kind: DoSave, Rules: list("c")}, api.ErrFull)
	if !h.Up() {
		t.Error("a version that was not saved changes nothing")
	}
	fail(t, h, Op{Kind: DoUse, A: 1}, api.ErrFull)
	if h.Up() {
		t.Error("a use that is not durable")
	}
	checkFound(t, h)
	fail(t, h, Op{Kind: DoTick}, api.ErrDown)
	do(t, h, Op{Kind: DoCrash}, 2)
	d.Truncate(9, 0)
	d.Append(9, make([]byte, 1<<20-d.Used()))
	before := h.Hash()
	fail(t, h, Op{Kind: DoEdit, B: 3}, api.ErrFull)
	if h.Up() || h.Hash() != before {
		t.Error("an edit that is not durable")
	}
	checkFound(t, h)
	do(t, h, Op{Kind: DoCrash}, 2)
	if b, err := h.Text(0); string(b) != "ab" || err != api.OK {
		t.Error("the document")
	}
}

func TestDocuments(t *testing.T) {
	h := open(t, newDisk(1<<20))
	put := func(n int, l ...int) []byte {
		w := &wire.Writer{}
		for _, k := range append([]int{n}, l...) {
			w.Int(k)
		}
		return w.Done()
	}
	item := func(number int, at, del int, ins ...int) edits.Item {
		return edits.Item{Number: number, Base: number, Edit: api.Edit{At: at, Del: del, Ins: ins}}
	}
	if b := do(t, h, Op{Kind: DoEdit, A: 3, B: 1, Raw: []byte("abab")}, 0); !bytes.Equal(b, put(0)) {
		t.Error(b)
	}
	fail(t, h, Op{Kind: DoEdit, A: 3, B: 1}, api.ErrTwice)
	if l, err := h.Found(3); len(l) != 0 || err != api.OK {
		t.Error("no version is active")
	}
	do(t, h, Op{Kind: DoSave, Rules: list("(?=a)", "ab", "^a", "b")}, 0)
	do(t, h, Op{Kind: DoUse}, 0)
	if l, _ := h.Found(3); len(l) != 4 || l[0] != (api.Found{Rule: 1, Start: 0, End: 2}) || l[3] != (api.Found{Rule: 3, Start: 3, End: 4}) {
		t.Error(l)
	}
	if b := do(t, h, Op{Kind: DoEdit, A: 3, Item: item(0, 1, 1, 'x')}, 2); !bytes.Equal(b, put(2, 1, 0, 2, 3, 1, 2)) {
		t.Error(b)
	}
	if b := do(t, h, Op{Kind: DoEdit, A: 3, B: 2}, 2); !bytes.Equal(b, put(0, 1, 0, 2, 3, 1, 2)) {
		t.Error(b)
	}
	do(t, h, Op{Kind: DoSave, Rules: list("(?=a)")}, 1)
	do(t, h, Op{Kind: DoUse, A: 1}, 0)
	if l, err := h.Found(3); len(l) != 0 || err != api.OK {
		t.Error("a version without live rules")
	}
	if b := do(t, h, Op{Kind: DoEdit, A: 3, Item: item(0, 0, 0)}, 0); !bytes.Equal(b, put(0)) {
		t.Error("an item that comes twice")
	}
	do(t, h, Op{Kind: DoCrash}, 2)
	if b, _ := h.Text(3); string(b) != "abab" {
		t.Error("the text after a crash")
	}
	do(t, h, Op{Kind: DoEdit, A: 3, B: 3}, 0)
	if _, err := h.Text(3); err != api.ErrNone {
		t.Error("a closed document")
	}
}

func TestHash(t *testing.T) {
	seen := map[uint64]bool{}
	h := open(t, newDisk(1<<20))
	note := func() {
		t.Helper()
		if seen[h.Hash()] {
			t.Error("two states have the same hash")
		}
		seen[h.Hash()] = true
	}
	note()
	do(t, h, Op{Kind: DoSave, Rules: list("a")}, 0)
	note()
	do(t, h, Op{Kind: DoUse}, 0)
	note()
	do(t, h, Op{Kind: DoEdit, A: 1, B: 1}, 0)
	note()
	do(t, h, Op{Kind: DoEdit, A: 2, B: 1}, 0)
	note()
	do(t, h, Op{Kind: DoEdit, A: 1, B: 3}, 0)
	note()
	before := h.Hash()
	do(t, h, Op{Kind: DoTick, A: 3}, 0)
	do(t, h, Op{Kind: DoEdit, A: 7, B: 1, Raw: []byte("x")}, 0)
	note()
	do(t, h, Op{Kind: DoEdit, A: 7, B: 3}, 0)
	send(t, h, 0, hello(1))
	if h.Hash() != before {
		t.Error("the hash depends on something else")
	}
}

func TestTraffic(t *testing.T) {
	r := sample.New(2)
	texts := []string{"a+", "(?>ab?)", "b|ab", "(?=c)c", "c*d"}
	for range 40 {
		h := open(t, newDisk(1<<20))
		for v := range 4 {
			do(t, h, Op{Kind: DoSave, Rules: list(texts[v:min(v+2, 5)]...)}, v)
		}
		do(t, h, Op{Kind: DoUse, A: r.Int(4)}, 0)
		told := map[int][]api.Found{}
		text := map[int][]byte{}
		version := map[int]int{}
		tasks := 0
		answered := 0
		for range 120 {
			conn := r.Int(4)
			var l []proto.Message
			switch r.Int(6) {
			case 0:
				do(t, h, Op{Kind: DoUse, A: r.Int(4)}, 0)
			case 1:
				l = send(t, h, conn, hello(conn))
				if l[0].Kind == proto.Hello {
					version[conn], told[conn], text[conn] = l[0].Version, nil, nil
					if l[0].Version != h.Active() {
						t.Fatal("Hello")
					}
				}
			case 2, 3:
				b, _ := sampleText(r)
				l = send(t, h, conn, proto.Message{Kind: proto.Data, Conn: conn, Body: b})
				if l[0].Kind == proto.Verdict {
					told[conn] = append(told[conn], l[0].Found...)
					text[conn] = append(text[conn], b...)
				}
			case 4:
				l = send(t, h, conn, end(conn))
				if l[0].Kind == proto.End {
					checkConn(t, h, version[conn], text[conn], append(told[conn], l[0].Found...))
					tasks++
				}
			default:
				w := r.Int(3)
				if n, _, err := h.Do(Op{Kind: DoAsk, A: w, B: r.Int(3)}); err == api.OK && n > 0 {
					do(t, h, Op{Kind: DoAnswer, A: n - 1}, 1)
					answered++
				}
			}
			if len(l) > 0 && l[0].Kind != proto.Error && l[0].Version != version[conn] {
				t.Fatal("the version of a connection", l[0])
			}
		}
		if answered > tasks {
			t.Fatal("tasks")
		}
	}
}

func sampleText(r *sample.Rand) ([]byte, api.Errno) {
	return text.Encode(r.Text("abcd", 4), false)
}

// checkConn: what was told about a connection is what its text has under its version anew.
func checkConn(t *testing.T, h *House, version int, b []byte, told []api.Found) {
	t.Helper()
	l, _ := h.Rules(version)
	set, _, _ := ruleset.Compile(l)
	symbols, _ := text.Decode(b, false)
	want, _ := set.Found(symbols, api.MaxFuel)
	slices.SortFunc(told, func(a, b api.Found) int { return slices.Compare([]int{a.Rule, a.Start}, []int{b.Rule, b.Start}) })
	if !slices.Equal(told, want) {
		t.Fatal("traffic", told, want)
	}
}

func TestRepair(t *testing.T) {
	h := open(t, newDisk(1<<20))
	do(t, h, Op{Kind: DoSave, Rules: list("x", "(?:a|a)*b", "(?=a)")}, 0)
	do(t, h, Op{Kind: DoUse}, 0)
	do(t, h, Op{Kind: DoRepair, A: 1, B: 2}, 1)
	l, _ := h.Rules(1)
	if l[1].Text != "a*+b" || l[0].Text != "x" || l[1].Name != "r1" || h.Active() != 0 {
		t.Error(l)
	}
	p, _, _ := syntax.Parse("(?:a|a)*b", syntax.Flags{})
	q, _, _ := syntax.Parse(l[1].Text, syntax.Flags{})
	if same, err := rules.Same(p, q, []int{'a', 'a', 'b'}, 10000); !same || err != api.OK {
		t.Error("another effect")
	}
	fail(t, h, Op{Kind: DoRepair, A: 1, B: 0}, api.ErrNone)
	fail(t, h, Op{Kind: DoRepair, A: 2, B: 1}, api.ErrNone)
	fail(t, h, Op{Kind: DoRepair, A: 3, B: 1}, api.ErrNone)
	fail(t, h, Op{Kind: DoRepair, A: 0, B: -1}, api.ErrRange)
}
