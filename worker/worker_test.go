package worker

import (
	"slices"
	"strconv"
	"testing"

	"rexmill/api"
	"rexmill/ruleset"
	"rexmill/sample"
)

func rules(texts ...string) []ruleset.Rule {
	var l []ruleset.Rule
	for i, s := range texts {
		l = append(l, ruleset.Rule{Name: "r" + strconv.Itoa(i), Text: s})
	}
	return l
}

func worker(t *testing.T) *Worker {
	w, err := New(63)
	if err != api.OK || !w.Up() || w.Version() != -1 {
		t.Fatal(err)
	}
	return w
}

// load loads a version with steps of one rule.
func load(t *testing.T, w *Worker, version int, texts ...string) {
	t.Helper()
	if err := w.Load(version, rules(texts...)); err != api.OK {
		t.Fatal(err)
	}
	for i := range texts {
		if all, err := w.Step(1); err != api.OK || all != (i == len(texts)-1) {
			t.Fatal(all, err)
		}
	}
}

func TestExample(t *testing.T) {
	w := worker(t)
	text := []int{'a', 'b'}
	if w.Load(3, rules("a", "b")) != api.OK {
		t.Fatal("Load")
	}
	if all, err := w.Step(1); all || err != api.OK {
		t.Error(err)
	}
	if all, err := w.Step(5); !all || err != api.OK {
		t.Error(err)
	}
	if l, err := w.Match(3, text, 9); err != api.ErrStale || l != nil {
		t.Error(err)
	}
	if w.Switch(3) != api.OK || w.Version() != 3 {
		t.Error("Switch")
	}
	if l, err := w.Match(3, text, 9); err != api.OK || len(l) != 2 {
		t.Error(l, err)
	}
	w.Stop()
	if _, err := w.Match(3, text, 9); err != api.ErrDown || w.Version() != -1 || w.Up() {
		t.Error(err)
	}
}

func TestErrors(t *testing.T) {
	for _, id := range []int{-1, 64} {
		if w, err := New(id); w != nil || err != api.ErrArg {
			t.Error(id)
		}
	}
	w := worker(t)
	if _, err := w.Step(1); err != api.ErrState {
		t.Error("nothing is being loaded")
	}
	if w.Load(-1, nil) != api.ErrArg || w.Load(1025, nil) != api.ErrArg || w.Switch(0) != api.ErrNone || w.Switch(-1) != api.ErrNone {
		t.Error("versions")
	}
	if _, err := w.Match(-1, nil, 9); err != api.ErrStale {
		t.Error("no version is in use")
	}
	load(t, w, 1024, "a")
	w.Load(0, nil)
	if w.Load(1025, nil) != api.ErrArg || w.Load(1024, nil) != api.ErrBusy {
		t.Error("a version is being loaded")
	}
	for _, n := range []int{0, 501, -1} {
		if _, err := w.Step(n); err != api.ErrArg {
			t.Error("Step", n)
		}
	}
	if all, err := w.Step(500); !all || err != api.OK {
		t.Error("a version without rules")
	}
	load(t, w, 1, "a")
	load(t, w, 2, "a")
	if w.Load(2, nil) != api.ErrTwice || w.Load(5, nil) != api.ErrLimit {
		t.Error("four versions are loaded")
	}
	w.Stop()
	w.Stop()
	_, err := w.Step(0)
	_, err2 := w.Match(9, nil, -1)
	if w.Load(-1, nil) != api.ErrDown || err != api.ErrDown || w.Switch(7) != api.ErrDown || err2 != api.ErrDown {
		t.Error("a worker that has stopped")
	}
	w.Start()
	if !w.Up() || w.Version() != -1 || w.Switch(1) != api.ErrNone {
		t.Error("a worker that was started again")
	}
	if _, err := w.Step(1); err != api.ErrState {
		t.Error("what was being loaded is lost")
	}
}

func TestRulesThatDoNotCompile(t *testing.T) {
	bad := rules("a", "b", ")", "c{")
	for step, want := range map[int]int{1: 3, 2: 2, 3: 1, 4: 1, 9: 1} {
		w := worker(t)
		w.Load(0, bad)
		for i := 1; ; i++ {
			all, err := w.Step(step)
			if err != api.OK {
				if i != want || err != api.ErrForm || all {
					t.Error("step", step, "fails in", i, err)
				}
				break
			}
		}
		if _, err := w.Step(1); err != api.ErrState || w.Switch(0) != api.ErrNone || w.Load(0, nil) != api.OK {
			t.Error("loading has ended")
		}
	}
	w := worker(t)
	many := make([]ruleset.Rule, 501)
	for i := range many {
		many[i].Name = "a" + strconv.Itoa(i)
	}
	w.Load(0, many)
	if all, err := w.Step(500); all || err != api.OK {
		t.Error(err)
	}
	if _, err := w.Step(1); err != api.ErrLimit {
		t.Error("too many rules", err)
	}
}

func TestSwitch(t *testing.T) {
	w := worker(t)
	for v := range 4 {
		load(t, w, v, "a")
	}
	w.Switch(2)
	if w.Switch(1) != api.ErrNone || len(w.sets) != 1 {
		t.Error("only the version in use stays after the first Switch")
	}
	load(t, w, 5, "b")
	load(t, w, 6, "c")
	if w.Switch(5) != api.OK || w.Switch(6) != api.ErrNone || w.Switch(2) != api.OK || w.Version() != 2 || w.Switch(5) != api.OK {
		t.Error("Switch back")
	}
	if w.Switch(5) != api.OK || w.Switch(2) != api.ErrNone {
		t.Error("Switch to the version in use")
	}
	if _, err := w.Match(2, nil, 9); err != api.ErrStale {
		t.Error("Match of another version")
	}
}

func TestMatch(t *testing.T) {
	r := sample.New(1)
	for range 100 {
		w := worker(t)
		versions := map[int][]ruleset.Rule{}
		for v := range 6 {
			l := rules([]string{"a", "ab*", "(?>b)", "c|d", "[ab]+"}[:r.Int(6)]...)
			versions[v] = l
			if w.Load(v, l) != api.OK {
				t.Fatal("Load")
			}
			text := r.Text("abcd", 9)
			for {
				all, err := w.Step(1 + r.Int(3))
				if err != api.OK {
					t.Fatal(err)
				}
				if in := w.Version(); in >= 0 {
					set, _, _ := ruleset.Compile(versions[in])
					want, err := set.Found(text, 1000)
					got, err2 := w.Match(in, text, 1000)
					if err != err2 || !slices.Equal(got, want) {
						t.Fatal("Match")
					}
				}
				if all {
					break
				}
			}
			w.Switch(v)
		}
	}
	w := worker(t)
	l := rules("a")
	w.Load(0, l)
	l[0].Text = ")"
	if _, err := w.Step(1); err != api.OK {
		t.Error("the worker keeps the memory of the rules")
	}
	w.Switch(0)
	if _, err := w.Match(0, []int{256}, 9); err != api.ErrArg {
		t.Error("the error of Found")
	}
}
