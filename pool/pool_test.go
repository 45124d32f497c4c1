package pool

import (
	"slices"
	"testing"

	"rexmill/api"
	"rexmill/sample"
)

func pool(t *testing.T, workers, timeout int, ids ...int) *Pool {
	p, err := New(workers, timeout)
	if err != api.OK {
		t.Fatal(err)
	}
	for _, id := range ids {
		if err := p.Add(Task{id, []byte{byte(id)}}); err != api.OK {
			t.Fatal(err)
		}
	}
	return p
}

func ask(t *testing.T, p *Pool, worker, tick, id, try int) {
	t.Helper()
	task, n, is, err := p.Ask(worker, tick)
	if err != api.OK || is != (id >= 0) || is && (task.ID != id || n != try || task.Body[0] != byte(id)) || !is && (task.ID != 0 || task.Body != nil || n != 0) {
		t.Errorf("worker %d at %d gets %v, try %d, %v, %d", worker, tick, task, n, is, err)
	}
}

func answer(t *testing.T, p *Pool, task, worker, try, tick int, first bool, want api.Errno) {
	t.Helper()
	is, err := p.Answer(Reply{task, worker, try, []byte{byte(worker)}}, tick)
	if is != first || err != want {
		t.Errorf("answer to %d by %d: %v %d", task, worker, is, err)
	}
}

func TestExample(t *testing.T) {
	p := pool(t, 2, 10, 2, 1)
	ask(t, p, 0, 0, 1, 0)
	ask(t, p, 1, 0, 2, 0)
	answer(t, p, 2, 1, 0, 9, true, api.OK)
	ask(t, p, 1, 9, -1, 0)
	ask(t, p, 1, 10, 1, 1)
	answer(t, p, 1, 0, 0, 11, true, api.OK)
	answer(t, p, 1, 1, 1, 11, false, api.OK)
	l := p.Done()
	if len(l) != 2 || l[0].Task != 1 || l[0].Worker != 0 || l[1].Task != 2 || len(p.Open()) != 0 {
		t.Error(l, p.Open())
	}
	l[0].Body[0] = 99
	if p.Done()[0].Body[0] == 99 {
		t.Error("Done shares memory")
	}
}

func TestNewAndAdd(t *testing.T) {
	for _, c := range [][2]int{{0, 1}, {65, 1}, {1, 0}, {1, api.MaxTick + 1}} {
		if p, err := New(c[0], c[1]); p != nil || err != api.ErrArg {
			t.Error(c)
		}
	}
	p := pool(t, 64, api.MaxTick, 5)
	body := make([]byte, api.MaxBlock+1)
	for i, c := range []struct {
		t    Task
		want api.Errno
	}{{Task{-1, body}, api.ErrArg}, {Task{5, body}, api.ErrLimit}, {Task{5, nil}, api.ErrTwice}, {Task{6, body[1:]}, api.OK}} {
		if err := p.Add(c.t); err != c.want {
			t.Error("Add", i, err)
		}
	}
	for i := range 1022 {
		p.Add(Task{ID: 100 + i})
	}
	if p.Add(Task{ID: 7}) != api.ErrLimit || p.Add(Task{ID: 5}) != api.ErrLimit || len(p.Open()) != 1024 || !slices.IsSorted(p.Open()) {
		t.Error("too many tasks")
	}
}

func TestErrors(t *testing.T) {
	p := pool(t, 2, 10, 1, 2)
	ask(t, p, 0, 5, 1, 0)
	for i, c := range []struct {
		worker, tick int
		want         api.Errno
	}{{-1, 6, api.ErrArg}, {2, 0, api.ErrArg}, {0, -1, api.ErrArg}, {0, api.MaxTick + 1, api.ErrArg}, {1, 4, api.ErrLate}} {
		_, _, _, err := p.Ask(c.worker, c.tick)
		_, err2 := p.Answer(Reply{Task: 9, Worker: c.worker}, c.tick)
		err3 := p.Die(c.worker, c.tick)
		if err != c.want || err2 != c.want || err3 != c.want {
			t.Errorf("case %d: %d %d %d", i, err, err2, err3)
		}
	}
	if task, n, is, err := p.Ask(0, 14); err != api.ErrBusy || is || n != 0 || task.Body != nil {
		t.Error("a worker that works", err)
	}
	answer(t, p, 9, 0, 0, 5, false, api.ErrNone)
	answer(t, p, 1, 0, 1, 5, false, api.ErrStale)
	answer(t, p, 1, 0, -1, 5, false, api.ErrStale)
	answer(t, p, 1, 1, 0, 5, false, api.ErrStale)
	answer(t, p, 2, 0, 0, 5, false, api.ErrStale)
	if is, err := p.Answer(Reply{1, 0, 0, make([]byte, api.MaxBlock+1)}, 7); is || err != api.ErrLimit {
		t.Error("a body that is too long")
	}
	ask(t, p, 1, 5, 2, 0)
	if p.Revive(-1) != api.ErrArg || p.Revive(2) != api.ErrArg || p.Revive(0) != api.ErrState {
		t.Error("Revive")
	}
	if p.Die(0, 6) != api.OK || p.Die(0, 6) != api.ErrState || p.Die(1, 5) != api.ErrLate {
		t.Error("Die")
	}
	if _, _, _, err := p.Ask(0, 6); err != api.ErrDown {
		t.Error("a dead worker asks")
	}
	if _, _, _, err := p.Ask(1, 6); err != api.ErrBusy {
		t.Error("a worker that works asks")
	}
	if p.Revive(0) != api.OK {
		t.Error("Revive")
	}
	ask(t, p, 0, 6, 1, 1)
	answer(t, p, 1, 0, 0, 6, true, api.OK)
	ask(t, p, 0, 6, -1, 0)
	answer(t, p, 1, 0, 1, 8, false, api.OK)
	if _, _, _, err := p.Ask(0, 7); err != api.ErrLate {
		t.Error("a later answer moves the tick")
	}
}

func TestDeadAndLate(t *testing.T) {
	p := pool(t, 3, 10, 1)
	ask(t, p, 0, 0, 1, 0)
	ask(t, p, 1, 5, -1, 0)
	p.Die(0, 6)
	ask(t, p, 1, 6, 1, 1)
	p.Revive(0)
	ask(t, p, 0, 7, -1, 0)
	ask(t, p, 0, 16, 1, 2)
	p.Die(0, 16)
	answer(t, p, 1, 0, 2, 16, true, api.OK)
	if len(p.Open()) != 0 {
		t.Error("the answer of a dead worker counts")
	}
}

func TestCopy(t *testing.T) {
	p := pool(t, 2, 10, 1, 2)
	ask(t, p, 0, 3, 1, 0)
	c := p.Copy()
	answer(t, p, 1, 0, 0, 4, true, api.OK)
	p.Die(1, 9)
	p.Add(Task{ID: 7})
	if len(c.Open()) != 2 || len(c.Done()) != 0 {
		t.Error("the copy changes")
	}
	ask(t, c, 1, 4, 2, 0)
	answer(t, c, 1, 0, 0, 5, true, api.OK)
}

// slow tells whether tries are running by all that has happened.
type slow struct {
	tries []struct{ task, worker, tick, died int }
}

func TestAtRandom(t *testing.T) {
	r := sample.New(1)
	for range 100 {
		workers, timeout := 1+r.Int(4), 1+r.Int(6)
		p := pool(t, workers, timeout, 0, 1, 2, 3, 4)
		s := slow{}
		dead := make([]bool, workers)
		answered := map[int]bool{}
		tick := 0
		running := func(good func(task, worker int) bool) bool {
			for _, x := range s.tries {
				if !answered[x.task] && x.died == 0 && tick < x.tick+timeout && good(x.task, x.worker) {
					return true
				}
			}
			return false
		}
		for range 80 {
			tick += r.Int(3)
			w := r.Int(workers)
			switch r.Int(5) {
			case 0:
				err := p.Die(w, tick)
				if (err == api.ErrState) != dead[w] {
					t.Fatal("Die")
				}
				dead[w] = true
				for i := range s.tries {
					if s.tries[i].worker == w {
						s.tries[i].died = 1
					}
				}
			case 1:
				if err := p.Revive(w); (err == api.OK) != dead[w] {
					t.Fatal("Revive")
				}
				dead[w] = false
			case 2:
				if len(s.tries) == 0 {
					continue
				}
				k := r.Int(len(s.tries))
				n := 0
				for _, x := range s.tries[:k] {
					if x.task == s.tries[k].task {
						n++
					}
				}
				first, err := p.Answer(Reply{s.tries[k].task, s.tries[k].worker, n, nil}, tick)
				if err != api.OK || first == answered[s.tries[k].task] {
					t.Fatal("Answer", err)
				}
				answered[s.tries[k].task] = true
			default:
				task, _, is, err := p.Ask(w, tick)
				want := -1
				for id := range 5 {
					if !answered[id] && !running(func(task, _ int) bool { return task == id }) {
						want = id
						break
					}
				}
				switch {
				case dead[w]:
					if err != api.ErrDown {
						t.Fatal("a dead worker")
					}
				case running(func(_, worker int) bool { return worker == w }):
					if err != api.ErrBusy {
						t.Fatal("a busy worker")
					}
				case err != api.OK || is != (want >= 0) || is && task.ID != want:
					t.Fatal("Ask", task, is, err, want)
				case is:
					s.tries = append(s.tries, struct{ task, worker, tick, died int }{task.ID, w, tick, 0})
				}
			}
			if len(p.Done()) != len(answered) || len(p.Open()) != 5-len(answered) {
				t.Fatal("Done and Open")
			}
		}
	}
}

func TestProgress(t *testing.T) {
	r := sample.New(2)
	for range 100 {
		workers, timeout := 1+r.Int(4), 1+r.Int(9)
		p := pool(t, workers, timeout, 4, 9, 2, 7, 1)
		tick := 0
		var late []Reply
		for len(p.Open()) > 0 {
			tick += r.Int(timeout + 2)
			w := r.Int(workers)
			switch r.Int(8) {
			case 0:
				p.Die(w, tick)
			case 1, 2:
				p.Revive(w)
			case 3:
				for _, x := range late {
					p.Answer(x, tick)
				}
			default:
				task, try, is, err := p.Ask(w, tick)
				if err != api.OK || !is {
					continue
				}
				answer := Reply{task.ID, w, try, []byte{task.Body[0] * 2}}
				if r.Int(3) == 0 {
					late = append(late, answer)
				} else {
					p.Answer(answer, tick)
				}
			}
			if tick > 1000000 {
				t.Fatal("tasks are never answered")
			}
		}
		for i, id := range []int{1, 2, 4, 7, 9} {
			if x := p.Done()[i]; x.Task != id || !slices.Equal(x.Body, []byte{byte(2 * id)}) {
				t.Fatal("the answers", p.Done())
			}
		}
	}
}
