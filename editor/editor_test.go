package editor

import (
	"bytes"
	"slices"
	"strconv"
	"testing"

	"rexmill/api"
	"rexmill/edits"
	"rexmill/ruleset"
	"rexmill/sample"
	"rexmill/sem"
	"rexmill/syntax"
	"rexmill/text"
)

func rules(texts ...string) []ruleset.Rule {
	var l []ruleset.Rule
	for i, s := range texts {
		l = append(l, ruleset.Rule{Name: "r" + strconv.Itoa(i), Text: s})
	}
	return l
}

func editor(t *testing.T, l []ruleset.Rule) *Editor {
	t.Helper()
	e, err := New(l)
	if err != api.OK {
		t.Fatal(err)
	}
	return e
}

// found returns matches from rule, start and end of each.
func found(n ...int) []api.Found {
	var l []api.Found
	for i := 0; i < len(n); i += 3 {
		l = append(l, api.Found{Rule: n[i], Start: n[i+1], End: n[i+2]})
	}
	return l
}

func item(client, number, base, at, del int, ins string) edits.Item {
	l, _ := text.Decode([]byte(ins), true)
	return edits.Item{Client: client, Number: number, Base: base, Edit: api.Edit{At: at, Del: del, Ins: l}}
}

// is checks the text of a document, and its matches, which are those of the rules anew.
func is(t *testing.T, e *Editor, l []ruleset.Rule, doc int, want string) {
	t.Helper()
	b, err := e.Text(doc)
	if err != api.OK || string(b) != want {
		t.Errorf("document %d is %q, %d", doc, b, err)
	}
	got, err := e.Found(doc)
	if err != api.OK || !slices.Equal(got, anew(t, l, b)) {
		t.Errorf("document %d: %v %d", doc, got, err)
	}
}

func anew(t *testing.T, l []ruleset.Rule, b []byte) []api.Found {
	runes := !slices.ContainsFunc(l, func(r ruleset.Rule) bool { return !r.Runes })
	symbols, _ := text.Decode(b, runes)
	var out []api.Found
	for i, r := range l {
		p, _, _ := syntax.Parse(r.Text, syntax.Flags{Runes: r.Runes})
		every, err := sem.Every(p, symbols, api.MaxFuel)
		if err != api.OK {
			t.Fatal(err)
		}
		for _, m := range every {
			out = append(out, api.Found{Rule: i, Start: m.Start, End: m.End})
		}
	}
	return out
}

func TestExample(t *testing.T) {
	l := rules("ab")
	e := editor(t, l)
	if e.Open(3, []byte("abab")) != api.OK {
		t.Fatal("Open")
	}
	is(t, e, l, 3, "abab")
	gone, come, err := e.Apply(3, item(0, 0, 0, 1, 1, "x"))
	if err != api.OK || !slices.Equal(gone, found(0, 0, 2)) || come != nil {
		t.Error(gone, come, err)
	}
	is(t, e, l, 3, "axab")
	gone, come, err = e.Undo(3)
	if err != api.OK || gone != nil || !slices.Equal(come, found(0, 0, 2)) {
		t.Error(gone, come, err)
	}
	is(t, e, l, 3, "abab")
	if _, _, err := e.Undo(3); err != api.ErrNone {
		t.Error("there is nothing to undo")
	}
}

func TestErrors(t *testing.T) {
	big := "(?:a|b)*a(?:a|b){10}"
	for _, c := range []struct {
		l    []ruleset.Rule
		want api.Errno
	}{{rules("(?=a)", ")"), api.ErrForm}, {rules("(?=a)"), api.ErrKind}, {rules(big), api.ErrLimit}, {rules("^"), api.ErrKind}, {[]ruleset.Rule{{Name: "A"}}, api.ErrName}, {nil, api.OK}} {
		e, err := New(c.l)
		if err != c.want || (e == nil) != (err != api.OK) {
			t.Error(c.l, err)
		}
		if x := editor(t, nil); x.Rules(c.l) != c.want {
			t.Error("Rules", c.l)
		}
	}
	e := editor(t, rules("a"))
	for _, doc := range []int{-1, 0, 1023, 1024} {
		_, _, err := e.Apply(doc, edits.Item{Client: 1023})
		_, _, err2 := e.Undo(doc)
		l, err3 := e.Found(doc)
		b, err4 := e.Text(doc)
		if err != api.ErrNone || err2 != api.ErrNone || err3 != api.ErrNone || err4 != api.ErrNone || e.Close(doc) != api.ErrNone || l != nil || b != nil {
			t.Error("document", doc, "is not open")
		}
	}
	long := make([]byte, api.MaxText+1)
	if e.Open(-1, long) != api.ErrArg || e.Open(1024, long) != api.ErrArg || e.Open(1023, long) != api.ErrLimit || e.Open(1023, nil) != api.OK || e.Open(1023, long) != api.ErrTwice {
		t.Error("Open")
	}
	for i := range 63 {
		e.Open(i, nil)
	}
	if e.Open(500, nil) != api.ErrLimit || e.Open(5, nil) != api.ErrTwice || e.Close(5) != api.OK || e.Open(500, nil) != api.OK {
		t.Error("too many documents")
	}
	wide := editor(t, []ruleset.Rule{{Name: "a", Text: "ä", Runes: true}})
	if wide.Open(0, []byte("\xc3")) != api.ErrUtf || wide.Open(0, []byte("ä\xc3\xa4")) != api.OK {
		t.Error("bytes that are no text")
	}
	if l, _ := wide.Found(0); len(l) != 2 {
		t.Error(l)
	}
	for i, x := range []edits.Item{item(1023, 0, 0, 0, 0, ""), item(1024, 0, 0, 0, 0, ""), item(0, 4096, 0, 0, 0, ""), item(0, 0, 0, -1, 0, "")} {
		if gone, come, err := wide.Apply(0, x); err != api.ErrArg || gone != nil || come != nil {
			t.Error("Apply", i, err)
		}
	}
	for i := range 256 {
		wide.Apply(0, item(1, 1+i, 0, 0, 0, ""))
	}
	if _, _, err := wide.Apply(0, item(2, 0, 0, 0, 0, "")); err != api.ErrLimit {
		t.Error("the error of Take", err)
	}
}

func TestEditsThatAreLeftOut(t *testing.T) {
	l := rules("a")
	e := editor(t, l)
	e.Open(0, []byte("a"))
	for i, x := range []edits.Item{item(0, 0, 0, 5, 1, "b"), item(0, 1, 1, 0, 0, "ä€"), item(0, 2, 2, 0, 0, "ba")} {
		if gone, _, err := e.Apply(0, x); err != api.OK || gone != nil {
			t.Error(i, err)
		}
	}
	is(t, e, l, 0, "baa")
	e.Undo(0)
	is(t, e, l, 0, "a")
	if _, _, err := e.Undo(0); err != api.ErrNone {
		t.Error("edits that were left out cannot be undone", err)
	}
}

func TestRules(t *testing.T) {
	a, b := rules("a"), rules("b+", "ab")
	runes := []ruleset.Rule{{Name: "x", Text: "ä", Runes: true}}
	e := editor(t, a)
	if e.Rules(runes) != api.OK || e.Rules(a) != api.OK {
		t.Error("no document is open")
	}
	e.Open(7, []byte("abb"))
	e.Apply(7, item(0, 0, 0, 0, 0, "b"))
	if e.Rules(runes) != api.ErrState || e.Rules(nil) != api.ErrState || e.Rules(rules("(?=a)")) != api.ErrKind {
		t.Error("Rules")
	}
	is(t, e, a, 7, "babb")
	if e.Rules(b) != api.OK {
		t.Error("Rules")
	}
	is(t, e, b, 7, "babb")
	e.Undo(7)
	is(t, e, b, 7, "abb")
	e.Apply(7, item(0, 0, 0, 0, 0, "b"))
	is(t, e, b, 7, "abb")
	e.Open(8, []byte("bb"))
	is(t, e, b, 8, "bb")
	mixed := append(slices.Clone(runes), a...)
	if e.Rules(mixed) != api.OK {
		t.Error("one rule over bytes makes an editor over bytes")
	}
	is(t, e, mixed, 8, "bb")
}

func TestHeldItems(t *testing.T) {
	l := rules("b")
	e := editor(t, l)
	e.Open(0, []byte("a"))
	e.Apply(0, item(1, 0, 1, 0, 0, "b"))
	is(t, e, l, 0, "a")
	e.Apply(0, item(0, 0, 0, 1, 0, "c"))
	is(t, e, l, 0, "bac")
	e.Apply(0, item(2, 0, 3, 0, 0, "d"))
	gone, come, _ := e.Undo(0)
	is(t, e, l, 0, "dac")
	if !slices.Equal(gone, found(0, 0, 1)) || come != nil {
		t.Error(gone, come)
	}
	e.Undo(0)
	is(t, e, l, 0, "ac")
	e.Undo(0)
	is(t, e, l, 0, "a")
}

// random returns an edit of a text.
func random(r *sample.Rand, l []int) api.Edit {
	at := r.Int(len(l) + 1)
	return api.Edit{At: at, Del: r.Int(min(4, len(l)-at+1)), Ins: r.Text("abc", 3)}
}

func TestOnceAndUndo(t *testing.T) {
	r := sample.New(1)
	l := rules("ab*", "c|ca", "[ab]c")
	for range 100 {
		start := r.Text("abc", 8)
		first, _ := text.Encode(start, false)
		var items []edits.Item
		next := map[int]int{}
		now := start
		for i := range 1 + r.Int(8) {
			c := r.Int(3)
			x := edits.Item{Client: c, Number: next[c], Base: i, Edit: random(r, now)}
			now, _ = text.Splice(now, x.Edit)
			next[c]++
			items = append(items, x)
		}
		want, _ := text.Encode(now, false)
		e := editor(t, l)
		e.Open(0, first)
		e.Open(1, first)
		left := slices.Repeat(items, 2)
		known := anew(t, l, first)
		for len(left) > 0 {
			i := r.Int(len(left))
			gone, come, err := e.Apply(0, left[i])
			if err != api.OK {
				t.Fatal(err)
			}
			after, _ := e.Found(0)
			if len(known)-len(gone)+len(come) != len(after) {
				t.Fatal("what is reported")
			}
			known = after
			left = slices.Delete(left, i, i+1)
		}
		is(t, e, l, 0, string(want))
		is(t, e, l, 1, string(first))
		for range items {
			if _, _, err := e.Undo(0); err != api.OK {
				t.Fatal(err)
			}
		}
		is(t, e, l, 0, string(first))
		if b, _ := e.Text(0); !bytes.Equal(b, first) {
			t.Fatal("Undo")
		}
		if _, _, err := e.Undo(0); err != api.ErrNone {
			t.Fatal("all is undone")
		}
	}
}
