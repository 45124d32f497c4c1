package meter

import (
	"slices"
	"testing"

	"rexmill/api"
	"rexmill/sample"
)

func meter(t *testing.T, rules, share, period int) *Meter {
	m, err := New(rules, share, period)
	if err != api.OK {
		t.Fatal(err)
	}
	return m
}

func TestNew(t *testing.T) {
	for _, c := range [][3]int{{0, 1, 1}, {501, 1, 1}, {1, -1, 1}, {1, api.MaxFuel + 1, 1}, {1, 1, 0}, {1, 1, api.MaxTick + 1}} {
		if m, err := New(c[0], c[1], c[2]); m != nil || err != api.ErrArg {
			t.Error(c)
		}
	}
	m := meter(t, 500, api.MaxFuel, api.MaxTick)
	if l := m.Used(); len(l) != 500 || slices.Max(l) != 0 {
		t.Error("a new meter has used something")
	}
	if n, err := m.Take(499, api.MaxFuel, api.MaxTick); n != api.MaxFuel || err != api.OK {
		t.Error(n, err)
	}
	if n, err := meter(t, 1, 0, 1).Take(0, 5, 0); n != 0 || err != api.OK {
		t.Error("a share of 0")
	}
}

func TestExample(t *testing.T) {
	m := meter(t, 2, 10, 100)
	for i, c := range [][3]int{{7, 50, 7}, {7, 99, 3}, {7, 99, 0}, {7, 100, 7}} {
		if n, err := m.Take(0, c[0], c[1]); n != c[2] || err != api.OK {
			t.Error(i, n, err)
		}
	}
	if l, err := Shares(10, []int{1, 1, 1}); !slices.Equal(l, []int{4, 3, 3}) || err != api.OK {
		t.Error(l)
	}
}

func TestErrors(t *testing.T) {
	m := meter(t, 2, 10, 100)
	m.Take(1, 4, 50)
	for i, c := range []struct {
		rule, n, tick int
		take, back    api.Errno
	}{
		{-1, 0, 0, api.ErrArg, api.ErrArg}, {2, 0, 0, api.ErrArg, api.ErrArg}, {1, -1, 60, api.ErrArg, api.ErrArg}, {1, api.MaxFuel + 1, 60, api.ErrArg, api.ErrArg}, {1, 1, -1, api.ErrArg, api.ErrArg}, {1, 1, api.MaxTick + 1, api.ErrArg, api.ErrArg}, {1, 1, 49, api.ErrLate, api.ErrLate}, {1, 5, 50, api.OK, api.ErrQuota}, {1, 4, 100, api.OK, api.ErrQuota}, {0, 1, 50, api.OK, api.ErrQuota}, {1, 0, 100, api.OK, api.OK}, {1, 4, 99, api.OK, api.OK},
	} {
		x, y := m.Copy(), m.Copy()
		n, err := x.Take(c.rule, c.n, c.tick)
		err2 := y.Back(c.rule, c.n, c.tick)
		if err != c.take || err2 != c.back || err != api.OK && n != 0 {
			t.Errorf("case %d: %d %d", i, err, err2)
		}
		if err2 != api.OK && (!slices.Equal(y.Used(), m.Used()) || y.tick != m.tick) {
			t.Errorf("case %d: an error changes the meter", i)
		}
	}
	for i, c := range []struct {
		rule, tick, n int
		err           api.Errno
	}{{-1, 60, 0, api.ErrArg}, {2, 60, 0, api.ErrArg}, {1, -1, 0, api.ErrArg}, {1, api.MaxTick + 1, 0, api.ErrArg}, {1, 49, 0, api.ErrLate}, {1, 50, 6, api.OK}, {1, 100, 10, api.OK}, {0, 99, 10, api.OK}, {1, 99, 6, api.OK}} {
		if n, err := m.Left(c.rule, c.tick); n != c.n || err != c.err {
			t.Errorf("Left %d: %d %d", i, n, err)
		}
	}
	if n, err := m.Take(1, 0, 50); n != 0 || err != api.OK {
		t.Error("Left changes the tick")
	}
	if !slices.Equal(m.Used(), []int{0, 4}) {
		t.Error(m.Used())
	}
	m.Used()[0] = 7
	if m.Used()[0] != 0 {
		t.Error("Used shares memory")
	}
}

func TestPeriods(t *testing.T) {
	r := sample.New(1)
	for range 50 {
		share, period := r.Int(30), 1+r.Int(20)
		m := meter(t, 3, share, period)
		alone := meter(t, 1, share, period)
		tick := 0
		used := [3]int{}
		for range 200 {
			before := tick / period
			tick += r.Int(4)
			if tick/period != before {
				used = [3]int{}
			}
			rule, n := r.Int(3), r.Int(12)
			if r.Int(3) == 0 {
				err := m.Back(rule, n, tick)
				if (err == api.OK) != (n <= used[rule]) {
					t.Fatal("Back", err)
				}
				if err == api.OK {
					used[rule] -= n
				}
				if rule == 0 && alone.Back(0, n, tick) != err {
					t.Fatal("other rules matter")
				}
				continue
			}
			left, _ := m.Left(rule, tick)
			got, err := m.Take(rule, n, tick)
			want := min(n, share-used[rule])
			if got != want || err != api.OK || left != share-used[rule] {
				t.Fatal("Take", got, want)
			}
			used[rule] += got
			if rule == 0 {
				if n, _ := alone.Take(0, n, tick); n != got {
					t.Fatal("other rules matter")
				}
			}
			if !slices.Equal(m.Used(), used[:]) {
				t.Fatal("Used")
			}
		}
	}
}

func TestShares(t *testing.T) {
	for i, c := range []struct {
		total   int
		weights []int
		want    []int
		err     api.Errno
	}{
		{7, []int{0, 5, 0}, []int{0, 7, 0}, api.OK}, {0, []int{1, 2}, []int{0, 0}, api.OK}, {5, []int{1, 2, 1}, []int{1, 3, 1}, api.OK}, {6, []int{1, 1, 1, 1}, []int{2, 2, 1, 1}, api.OK}, {api.MaxFuel, []int{1 << 20}, []int{api.MaxFuel}, api.OK},
		{-1, []int{0}, nil, api.ErrArg}, {api.MaxFuel + 1, []int{1}, nil, api.ErrArg}, {5, []int{-1}, nil, api.ErrArg}, {5, append(make([]int, 500), 1<<20+1), nil, api.ErrArg}, {5, make([]int, 501), nil, api.ErrLimit}, {5, make([]int, 500), nil, api.ErrRange}, {5, nil, nil, api.ErrRange},
	} {
		if l, err := Shares(c.total, c.weights); !slices.Equal(l, c.want) || err != c.err {
			t.Errorf("case %d: %v %d", i, l, err)
		}
	}
	r := sample.New(2)
	for range 2000 {
		weights := make([]int, 1+r.Int(6))
		sum := 0
		for i := range weights {
			weights[i] = r.Int(5) * r.Int(9)
			sum += weights[i]
		}
		total := r.Int(100)
		l, err := Shares(total, weights)
		if sum == 0 {
			continue
		}
		all := 0
		for i, n := range l {
			all += n
			if n != total*weights[i]/sum && n != (total*weights[i]+sum-1)/sum {
				t.Fatal("a share is not exact")
			}
			for k := range l {
				x, y := total*weights[i]%sum, total*weights[k]%sum
				up, upK := n > total*weights[i]/sum, l[k] > total*weights[k]/sum
				if weights[i] > weights[k] && n < l[k] || upK && !up && (x > y || x == y && i < k) {
					t.Fatal("the order of remainders", total, weights, l)
				}
			}
		}
		if all != total || err != api.OK {
			t.Fatal("the shares do not add up")
		}
	}
}
