package live

import (
	"slices"
	"testing"

	"rexmill/api"
	"rexmill/sample"
	"rexmill/sem"
	"rexmill/syntax"
	"rexmill/text"
)

func parse(t *testing.T, s string) api.Pattern {
	p, _, err := syntax.Parse(s, syntax.Flags{})
	if err != api.OK {
		t.Fatal(s, err)
	}
	return p
}

func symbols(s string) []int {
	l, _ := text.Decode([]byte(s), false)
	return l
}

func live(t *testing.T, s string, rules ...string) *Live {
	var l []api.Pattern
	for _, r := range rules {
		l = append(l, parse(t, r))
	}
	x, err := New(l, symbols(s))
	if err != api.OK {
		t.Fatal(err)
	}
	return x
}

// found returns matches from rule, start and end of each.
func found(n ...int) []api.Found {
	var l []api.Found
	for i := 0; i < len(n); i += 3 {
		l = append(l, api.Found{Rule: n[i], Start: n[i+1], End: n[i+2]})
	}
	return l
}

func TestExample(t *testing.T) {
	x := live(t, "abab", "ab")
	if l := x.Found(); !slices.Equal(l, found(0, 0, 2, 0, 2, 4)) {
		t.Error(l)
	}
	gone, new, err := x.Edit(api.Edit{At: 1, Del: 1, Ins: symbols("x")})
	if err != api.OK || !slices.Equal(gone, found(0, 0, 2)) || len(new) != 0 {
		t.Error(gone, new, err)
	}
	gone, new, _ = x.Edit(api.Edit{Ins: symbols("y")})
	if len(gone)+len(new) != 0 || !slices.Equal(x.Found(), found(0, 3, 5)) || !slices.Equal(x.Text(), symbols("yaxab")) {
		t.Error(gone, new, x.Found())
	}
}

func TestMoved(t *testing.T) {
	for i, c := range []struct {
		f    api.Found
		e    api.Edit
		want api.Found
		kept bool
	}{
		{api.Found{Start: 2, End: 4}, api.Edit{At: 4, Ins: []int{1, 2}}, api.Found{Start: 2, End: 4}, true}, {api.Found{Start: 2, End: 4}, api.Edit{At: 2, Ins: []int{1, 2}}, api.Found{Start: 4, End: 6}, true}, {api.Found{Start: 2, End: 4}, api.Edit{At: 3, Ins: []int{1, 2}}, api.Found{Start: 2, End: 6}, true}, {api.Found{Start: 3, End: 3}, api.Edit{At: 3, Ins: []int{1, 2}}, api.Found{Start: 5, End: 5}, true},
		{api.Found{Start: 2, End: 5}, api.Edit{At: 3, Del: 1}, api.Found{Start: 2, End: 4}, true}, {api.Found{Start: 2, End: 4}, api.Edit{At: 3, Del: 1}, api.Found{Start: 2, End: 3}, true}, {api.Found{Start: 2, End: 4}, api.Edit{At: 3, Del: 2}, api.Found{}, false}, {api.Found{Start: 2, End: 4}, api.Edit{At: 1, Del: 2}, api.Found{}, false}, {api.Found{Start: 2, End: 4}, api.Edit{At: 1, Del: 1}, api.Found{Start: 1, End: 3}, true}, {api.Found{Start: 3, End: 3}, api.Edit{At: 3, Del: 1}, api.Found{}, false}, {api.Found{Start: 3, End: 3}, api.Edit{At: 2, Del: 1}, api.Found{Start: 2, End: 2}, true}, {api.Found{Start: 2, End: 3}, api.Edit{At: 3, Del: 1}, api.Found{Start: 2, End: 3}, true},
	} {
		got, kept := moved(c.f, c.e)
		if kept != c.kept || kept && got != c.want {
			t.Errorf("case %d: %v %v", i, got, kept)
		}
	}
}

// anew finds all matches of patterns in a text.
func anew(l []api.Pattern, symbols []int) []api.Found {
	var out []api.Found
	for i, p := range l {
		found, _ := sem.Every(p, symbols, api.MaxFuel)
		for _, m := range found {
			out = append(out, api.Found{Rule: i, Start: m.Start, End: m.End})
		}
	}
	return out
}

// state is a text with its matches.
type state struct {
	text  []int
	found []api.Found
}

// checkChange: the matches before, without those that vanish, moved, and those that appear, are the matches after.
func checkChange(t *testing.T, before, after state, e api.Edit, gone, new []api.Found) {
	t.Helper()
	var all []api.Found
	for _, f := range before.found {
		to, kept := moved(f, e)
		stays := kept && slices.Contains(after.found, to)
		if stays == slices.Contains(gone, f) {
			t.Fatal("what vanishes", before, after, e, gone)
		}
		if stays {
			all = append(all, to)
		}
	}
	for _, f := range new {
		if slices.Contains(all, f) {
			t.Fatal("what appears has moved there")
		}
	}
	all = append(all, new...)
	slices.SortFunc(all, func(a, b api.Found) int { return slices.Compare([]int{a.Rule, a.Start}, []int{b.Rule, b.Start}) })
	if !slices.Equal(all, after.found) {
		t.Fatal("the difference", all, after.found)
	}
}

func TestChanges(t *testing.T) {
	r := sample.New(1)
	for range 60 {
		var l []api.Pattern
		for range 1 + r.Int(3) {
			p := r.Pattern(sample.Shape{Caps: true}, 4)
			l = append(l, p)
		}
		now := state{text: r.Text("abcd", 60)}
		now.found = anew(l, now.text)
		x, err := New(l, now.text)
		if err != api.OK {
			continue
		}
		past, future := []state{}, []state{}
		var edits, undone []api.Edit
		for range 40 {
			var gone, new []api.Found
			var err api.Errno
			before, e := now, api.Edit{}
			switch k := r.Int(5); {
			case k < 3:
				at := r.Int(len(now.text) + 1)
				e = api.Edit{At: at, Del: r.Int(min(4, len(now.text)-at+1)), Ins: r.Text("abcd", 3)}
				gone, new, err = x.Edit(e)
				past, edits = append(past, now), append(edits, e)
				future, undone = nil, nil
				now.text, _ = text.Splice(now.text, e)
				now.found = anew(l, now.text)
			case k == 3:
				gone, new, err = x.Undo()
				if len(past) == 0 {
					if err != api.ErrNone || gone != nil || new != nil {
						t.Fatal("nothing can be undone")
					}
					continue
				}
				n := len(past) - 1
				e, _ = text.Undo(past[n].text, edits[n])
				future, undone = append(future, now), append(undone, edits[n])
				now, past, edits = past[n], past[:n], edits[:n]
			default:
				gone, new, err = x.Redo()
				if len(future) == 0 {
					if err != api.ErrNone || gone != nil || new != nil {
						t.Fatal("nothing can be done again")
					}
					continue
				}
				n := len(future) - 1
				e = undone[n]
				past, edits = append(past, now), append(edits, undone[n])
				now, future, undone = future[n], future[:n], undone[:n]
			}
			if err != api.OK || !slices.Equal(x.Text(), now.text) || !slices.Equal(x.Found(), now.found) {
				t.Fatal("text or matches", err, x.Found(), now.found)
			}
			checkChange(t, before, now, e, gone, new)
		}
	}
}

func TestHistory(t *testing.T) {
	x := live(t, "", "a")
	for range 1030 {
		x.Edit(api.Edit{Ins: symbols("a")})
	}
	n := 0
	for {
		if _, _, err := x.Undo(); err != api.OK {
			break
		}
		n++
	}
	if n != 1024 || len(x.Text()) != 6 {
		t.Error(n, "edits were undone")
	}
	for n > 0 {
		if _, _, err := x.Redo(); err != api.OK {
			t.Fatal("Redo")
		}
		n--
	}
	if _, _, err := x.Redo(); err != api.ErrNone || len(x.Text()) != 1030 {
		t.Error("all is done again")
	}
	x.Undo()
	if _, _, err := x.Edit(api.Edit{At: -1}); err != api.ErrRange {
		t.Error("an error")
	}
	if _, _, err := x.Redo(); err != api.OK {
		t.Error("an edit with an error forgets what was undone")
	}
}

func TestErrors(t *testing.T) {
	a, wide := parse(t, "a"), parse(t, "a")
	wide.Runes = true
	big := parse(t, "(?:a|b)*a(?:a|b){10}")
	for i, c := range []struct {
		l    []api.Pattern
		text []int
		want api.Errno
	}{
		{make([]api.Pattern, 501), nil, api.ErrLimit}, {append(make([]api.Pattern, 499), a), nil, api.OK}, {[]api.Pattern{parse(t, "(?=a)"), big}, nil, api.ErrKind}, {[]api.Pattern{big, parse(t, "(?=a)")}, nil, api.ErrLimit}, {[]api.Pattern{parse(t, "^")}, nil, api.ErrKind}, {[]api.Pattern{a, {Caps: 10}}, []int{-1}, api.ErrArg}, {[]api.Pattern{a}, []int{256}, api.ErrRange}, {[]api.Pattern{wide}, []int{256}, api.OK}, {[]api.Pattern{wide, a}, []int{256}, api.ErrRange}, {[]api.Pattern{wide, a}, []int{255}, api.OK}, {nil, []int{api.MaxSymbol}, api.OK}, {nil, []int{55296}, api.ErrRange}, {[]api.Pattern{a}, make([]int, api.MaxText+1), api.ErrLimit},
	} {
		x, err := New(c.l, c.text)
		if err != c.want || (x == nil) != (err != api.OK) {
			t.Errorf("case %d: %d", i, err)
		}
	}
	x := live(t, "ab", "a", "b*")
	kept := x.Found()
	for i, c := range []struct {
		e    api.Edit
		want api.Errno
	}{{api.Edit{At: 3}, api.ErrRange}, {api.Edit{Del: 3}, api.ErrRange}, {api.Edit{Ins: []int{256}}, api.ErrRange}, {api.Edit{Ins: []int{-1}}, api.ErrRange}, {api.Edit{Ins: make([]int, api.MaxText)}, api.ErrLimit}} {
		gone, new, err := x.Edit(c.e)
		if err != c.want || gone != nil || new != nil || !slices.Equal(x.Found(), kept) || !slices.Equal(x.Text(), symbols("ab")) {
			t.Errorf("edit %d: %d", i, err)
		}
	}
	if _, _, err := x.Undo(); err != api.ErrNone {
		t.Error("an edit with an error can be undone")
	}
	x.Found()[0].Start = 9
	x.Text()[0] = 9
	if !slices.Equal(x.Found(), kept) || x.Text()[0] != 'a' {
		t.Error("results share memory with the object")
	}
	none, _ := New(nil, []int{1, 2})
	if gone, new, err := none.Edit(api.Edit{Del: 1}); err != api.OK || len(gone)+len(new)+len(none.Found()) != 0 || len(none.Text()) != 1 {
		t.Error("no patterns")
	}
}
