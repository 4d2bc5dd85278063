package conf_test

import (
	"errors"
	"fmt"
	"math"
	"testing"

	"sextet/api"
	"sextet/conf"
)

// made is a registry of New, which must do well.
func made(t *testing.T, l ...api.Config) *conf.Registry {
	t.Helper()
	r, err := conf.New(l...)
	if err != nil || r == nil {
		t.Fatalf("New(%v): %v", l, err)
	}
	return r
}

// got is the configuration of a group that must be there.
func got(t *testing.T, r *conf.Registry, group int) api.Config {
	t.Helper()
	c, is := r.Get(group)
	if !is {
		t.Fatalf("no group %d", group)
	}
	return c
}

// does asks that a call does well.
func does(t *testing.T, err error) {
	t.Helper()
	if err != nil {
		t.Fatal(err)
	}
}

// told is all that a registry tells.
func told(r *conf.Registry) string {
	out := fmt.Sprint(r.Groups(), r.Epoch())
	for i := -1; i <= r.Groups(); i++ {
		c, is := r.Get(i)
		out += fmt.Sprint(c, is)
	}
	for i := -1; i <= api.MaxNodes; i++ {
		out += fmt.Sprint(" ", r.Inc(i))
	}
	return out
}

// tells asks what an error is, and that nothing was changed.
func tells(t *testing.T, what string, r *conf.Registry, was string, err, want error) {
	t.Helper()
	if err != want {
		t.Errorf("%s: %v, want %v", what, err, want)
	}
	if now := told(r); now != was {
		t.Errorf("%s: now %s, was %s", what, now, was)
	}
}

// P7.4: one to MaxGroups groups, each with its own configuration, whatever its epoch.
func TestNew(t *testing.T) {
	all := []api.Config{six(0), old(9, 40, 7, 41, 6, 42, 8), six(20), old(api.MaxEpoch, 63, 62, 61, 60, 59, 58)}
	for n := 1; n <= api.MaxGroups; n++ {
		r := made(t, all[:n]...)
		if r.Groups() != n || r.Epoch() != 0 {
			t.Errorf("%d groups, epoch %d", r.Groups(), r.Epoch())
		}
		for i, c := range all[:n] {
			isThat(t, "Get", got(t, r, i), c)
		}
		for i := -1; i <= api.MaxNodes; i++ {
			if r.Inc(i) != 0 {
				t.Errorf("Inc(%d) is %d", i, r.Inc(i))
			}
		}
	}
	made(t, api.Config{Old: six(0).Old, New: []int{}})
}

// P7.4: New without groups, or with more than there may be, whatever they are.
func TestNewMany(t *testing.T) {
	for _, l := range [][]api.Config{
		nil,
		{},
		make([]api.Config, api.MaxGroups+1),
		make([]api.Config, 1000),
		{six(0), six(6), six(12), six(18), six(24)},
	} {
		if r, err := conf.New(l...); r != nil || err != api.ErrMany {
			t.Errorf("New of %d: %v, %v", len(l), r, err)
		}
	}
}

// P7.4: the first group that isn't as it has to be, and of its faults the first.
func TestNewRefused(t *testing.T) {
	both := joint(0, 1, 2, 3, 4, 6)
	away := api.Config{Epoch: 1, Old: six(20).Old, New: []int{20, 21, 22, 23, 24, 0}}
	for i, x := range []struct {
		l    []api.Config
		pos  int
		want error
	}{
		{[]api.Config{{}}, 0, api.ErrShape},
		{make([]api.Config, api.MaxGroups), 0, api.ErrShape},
		{[]api.Config{old(-1, 0, 1, 2, 3, 4, 5)}, 0, api.ErrRange},
		{[]api.Config{old(0, 0, 1, 2, 3, 4, 64)}, 0, api.ErrRange},
		{[]api.Config{both}, 0, api.ErrState},
		{[]api.Config{joint(0, 1, 2, 3, 4, 5)}, 0, api.ErrShape},
		{[]api.Config{six(0), six(0)}, 1, api.ErrThere},
		{[]api.Config{six(0), six(5)}, 1, api.ErrThere},
		{[]api.Config{six(5), six(0)}, 1, api.ErrThere},
		{[]api.Config{six(0), both}, 1, api.ErrState},
		{[]api.Config{six(0), away}, 1, api.ErrState},
		{[]api.Config{six(0), {}}, 1, api.ErrShape},
		{[]api.Config{six(0), old(0, 0, 1, 2, 3, 4)}, 1, api.ErrShape},
		{[]api.Config{six(0), old(-1, 0, 1, 2, 3, 4, 5)}, 1, api.ErrRange},
		{[]api.Config{six(0), six(6), six(11)}, 2, api.ErrThere},
		{[]api.Config{six(0), six(6), old(0, 12, 13, 0, 14, 15, 16)}, 2, api.ErrThere},
		{[]api.Config{six(0), six(6), six(12), six(17)}, 3, api.ErrThere},
		{[]api.Config{six(0), six(6), six(12), old(0, 24, 23, 22, 21, 20, 3)}, 3, api.ErrThere},
		{[]api.Config{six(0), six(6), six(12), {}}, 3, api.ErrShape},
		{[]api.Config{six(0), six(3), {}}, 1, api.ErrThere},
		{[]api.Config{six(0), {}, six(3)}, 1, api.ErrShape},
		{[]api.Config{both, six(0)}, 0, api.ErrState},
	} {
		r, err := conf.New(x.l...)
		at, is := err.(*api.At)
		if r != nil || !is || at.Pos != x.pos || at.Err != x.want || !errors.Is(err, x.want) {
			t.Errorf("%d: %v, %v, want %d: %v", i, r, err, x.pos, x.want)
		}
	}
}

// P7.4: of a group that isn't there there is nothing.
func TestGetNone(t *testing.T) {
	for n := 1; n <= api.MaxGroups; n++ {
		r := made(t, []api.Config{six(0), six(6), six(12), six(18)}[:n]...)
		for _, i := range []int{-1, -2, n, n + 1, api.MaxGroups, 1 << 32, math.MaxInt, math.MinInt} {
			c, is := r.Get(i)
			if is {
				t.Errorf("%d groups: group %d is there", n, i)
			}
			isThat(t, "Get", c, api.Config{})
		}
	}
}

// P7.4: an epoch is taken, if it is right and above all that were.
func TestTake(t *testing.T) {
	r := made(t, six(0))
	for _, x := range []struct {
		epoch int
		want  error
		now   int
	}{
		{-1, api.ErrRange, 0},
		{0, api.ErrFenced, 0},
		{math.MinInt, api.ErrRange, 0},
		{1, nil, 1},
		{1, api.ErrFenced, 1},
		{0, api.ErrFenced, 1},
		{2, nil, 2},
		{70, nil, 70},
		{69, api.ErrFenced, 70},
		{70, api.ErrFenced, 70},
		{-70, api.ErrRange, 70},
		{71, nil, 71},
		{api.MaxEpoch + 1, api.ErrRange, 71},
		{math.MaxInt, api.ErrRange, 71},
		{api.MaxEpoch - 1, nil, api.MaxEpoch - 1},
		{api.MaxEpoch, nil, api.MaxEpoch},
		{api.MaxEpoch, api.ErrFenced, api.MaxEpoch},
		{api.MaxEpoch + 1, api.ErrRange, api.MaxEpoch},
		{-1, api.ErrRange, api.MaxEpoch},
	} {
		if err := r.Take(x.epoch); err != x.want || r.Epoch() != x.now {
			t.Errorf("Take(%d): %v, epoch %d; want %v, %d", x.epoch, err, r.Epoch(), x.want, x.now)
		}
	}
	isThat(t, "Get", got(t, r, 0), six(0))
}

// P7.4: Set takes what is next, of its group alone, by an epoch that none is above.
func TestSet(t *testing.T) {
	r := made(t, six(0), six(6), six(12))
	d := begun(t, six(6), 8, 40)
	does(t, r.Set(0, 1, d))
	isThat(t, "Begin", got(t, r, 1), api.Config{Epoch: 1, Old: six(6).Old, New: []int{6, 7, 40, 9, 10, 11}})
	does(t, r.Take(5))
	e, err := conf.Commit(d)
	does(t, err)
	does(t, r.Set(5, 1, e))
	isThat(t, "Commit", got(t, r, 1), old(2, 6, 7, 40, 9, 10, 11))
	f := begun(t, six(12), 17, 8)
	does(t, r.Set(6, 2, f)) // 8 is free again
	isThat(t, "Begin", got(t, r, 2), api.Config{Epoch: 1, Old: six(12).Old, New: []int{12, 13, 14, 15, 16, 8}})
	g, err := conf.Rollback(f)
	does(t, err)
	does(t, r.Set(math.MaxInt, 2, g))
	isThat(t, "Rollback", got(t, r, 2), old(2, 12, 13, 14, 15, 16, 17))
	isThat(t, "the other one", got(t, r, 0), six(0))
	if r.Epoch() != 5 || r.Groups() != 3 {
		t.Errorf("%d groups, epoch %d", r.Groups(), r.Epoch())
	}
}

// P7.4: Set asks for an epoch, a right configuration and free nodes; not for more.
func TestSetAsksNoMore(t *testing.T) {
	r := made(t, six(0), six(6))
	does(t, r.Set(0, 0, old(1, 50, 51, 52, 53, 54, 55)))
	isThat(t, "others", got(t, r, 0), old(1, 50, 51, 52, 53, 54, 55))
	c := joint(0, 1, 2, 3, 4, 63)
	c.Epoch = 2
	does(t, r.Set(0, 0, c))
	isThat(t, "both", got(t, r, 0), c)
	c.New[5], c.Epoch = 62, 3
	does(t, r.Set(0, 0, c))
	isThat(t, "both again", got(t, r, 0), c)
	last := made(t, old(api.MaxEpoch-1, 0, 1, 2, 3, 4, 5))
	does(t, last.Set(0, 0, old(api.MaxEpoch, 5, 4, 3, 2, 1, 0)))
	if err := last.Set(0, 0, old(api.MaxEpoch+1, 0, 1, 2, 3, 4, 5)); err != api.ErrRange {
		t.Error(err)
	}
}

// P7.4: the errors of Set, and of several the first; nothing is changed.
func TestSetRefused(t *testing.T) {
	r := made(t, six(0), six(6), old(7, 12, 13, 14, 15, 16, 17))
	does(t, r.Take(5))
	does(t, r.Set(5, 0, begun(t, six(0), 5, 30)))
	was := told(r)
	next := old(1, 6, 7, 8, 9, 10, 40)
	for i, x := range []struct {
		epoch, group int
		c            api.Config
		want         error
	}{
		{5, 3, next, api.ErrNone},
		{5, -1, next, api.ErrNone},
		{5, api.MaxGroups, next, api.ErrNone},
		{5, math.MaxInt, next, api.ErrNone},
		{5, math.MinInt, next, api.ErrNone},
		{4, 3, api.Config{}, api.ErrNone},
		{5, 1 << 32, next, api.ErrNone},
		{5, 1, api.Config{}, api.ErrShape},
		{4, 1, api.Config{}, api.ErrShape},
		{5, 1, old(1, 6, 7, 8, 9, 10, 64), api.ErrRange},
		{4, 1, old(-1, 6, 7, 8, 9, 10, 40), api.ErrRange},
		{5, 1, api.Config{Epoch: 1, Old: six(6).Old, New: six(6).Old}, api.ErrShape},
		{4, 1, next, api.ErrFenced},
		{0, 1, next, api.ErrFenced},
		{-1, 1, next, api.ErrFenced},
		{math.MinInt, 1, next, api.ErrFenced},
		{4, 1, six(6), api.ErrFenced},
		{4, 1, old(1, 0, 1, 2, 3, 4, 5), api.ErrFenced},
		{5, 1, six(6), api.ErrState},
		{5, 1, old(2, 6, 7, 8, 9, 10, 40), api.ErrState},
		{5, 1, old(api.MaxEpoch, 6, 7, 8, 9, 10, 40), api.ErrState},
		{5, 1, old(2, 0, 1, 2, 3, 4, 5), api.ErrState},
		{5, 2, old(1, 12, 13, 14, 15, 16, 40), api.ErrState},
		{5, 2, old(7, 12, 13, 14, 15, 16, 40), api.ErrState},
		{5, 2, old(9, 12, 13, 14, 15, 16, 40), api.ErrState},
		{5, 1, old(1, 6, 7, 8, 9, 10, 0), api.ErrThere},
		{5, 1, old(1, 6, 7, 8, 9, 10, 5), api.ErrThere},
		{5, 1, old(1, 6, 7, 8, 9, 10, 30), api.ErrThere},
		{5, 1, old(1, 6, 7, 8, 9, 10, 12), api.ErrThere},
		{5, 1, old(1, 17, 7, 8, 9, 10, 11), api.ErrThere},
		{5, 1, begun(t, six(6), 6, 4), api.ErrThere},
		{5, 1, begun(t, six(6), 6, 30), api.ErrThere},
		{5, 1, begun(t, six(6), 6, 13), api.ErrThere},
		{5, 1, api.Config{Epoch: 1, Old: []int{3, 7, 8, 9, 10, 11}, New: six(6).Old}, api.ErrThere},
		{5, 2, old(8, 12, 13, 14, 15, 16, 6), api.ErrThere},
		{math.MaxInt, 2, old(8, 12, 13, 14, 15, 16, 0), api.ErrThere},
	} {
		given := copied(x.c)
		tells(t, fmt.Sprint(i), r, was, r.Set(x.epoch, x.group, x.c), x.want)
		isThat(t, "handed in", x.c, given)
	}
	does(t, r.Set(5, 1, next))
}

// P7.4: what Set refuses is looked at when it is called: the node that was there may come once it is gone.
func TestSetAfterwards(t *testing.T) {
	r := made(t, six(0), six(6))
	take, err := conf.Commit(begun(t, six(0), 5, 30))
	does(t, err)
	want := begun(t, six(6), 6, 5)
	if err := r.Set(0, 1, want); err != api.ErrThere {
		t.Error(err)
	}
	does(t, r.Set(0, 0, begun(t, six(0), 5, 30)))
	if err := r.Set(0, 1, want); err != api.ErrThere {
		t.Error(err)
	}
	does(t, r.Set(0, 0, take))
	does(t, r.Set(0, 1, want))
}

// P7.4: each node has the last Inc that was told of it, which only rises.
func TestBorn(t *testing.T) {
	const most = 1 << 30
	r := made(t, six(0))
	for _, x := range []struct {
		node, inc int
		want      error
		now       int
	}{
		{3, 0, api.ErrRange, 0},
		{3, -1, api.ErrRange, 0},
		{3, math.MinInt, api.ErrRange, 0},
		{3, most + 1, api.ErrRange, 0},
		{3, 1 << 32, api.ErrRange, 0},
		{3, math.MaxInt, api.ErrRange, 0},
		{3, 1, nil, 1},
		{3, 1, api.ErrState, 1},
		{3, 0, api.ErrRange, 1},
		{3, 9, nil, 9},
		{3, 8, api.ErrState, 9},
		{3, 9, api.ErrState, 9},
		{3, 10, nil, 10},
		{3, most - 1, nil, most - 1},
		{3, most, nil, most},
		{3, most, api.ErrState, most},
		{3, most + 1, api.ErrRange, most},
		{3, 1, api.ErrState, most},
		{0, most, nil, most},
		{63, 1, nil, 1}, // of no group
		{63, 2, nil, 2},
	} {
		if err := r.Born(x.node, x.inc); err != x.want || r.Inc(x.node) != x.now {
			t.Errorf("Born(%d, %d): %v, Inc %d; want %v, %d", x.node, x.inc, err, r.Inc(x.node), x.want, x.now)
		}
	}
	was := told(r)
	for _, n := range wrongNodes() {
		for _, inc := range []int{1, 0, most, most + 1, -1} {
			tells(t, fmt.Sprintf("Born(%d, %d)", n, inc), r, was, r.Born(n, inc), api.ErrRange)
		}
		if r.Inc(n) != 0 {
			t.Errorf("Inc(%d) is %d", n, r.Inc(n))
		}
	}
}

// P7.4: each node has its own Inc.
func TestIncOfEach(t *testing.T) {
	r := made(t, six(0))
	for n := range api.MaxNodes {
		does(t, r.Born(n, 100-n))
	}
	for n := range api.MaxNodes {
		if r.Inc(n) != 100-n {
			t.Errorf("Inc(%d) is %d", n, r.Inc(n))
		}
	}
}

// P7.4: a clone is as the registry was, and each goes on alone.
func TestClone(t *testing.T) {
	r := made(t, six(0), six(6))
	does(t, r.Take(3))
	does(t, r.Born(4, 2))
	does(t, r.Set(3, 0, begun(t, six(0), 0, 30)))
	was := told(r)
	k := r.Clone()
	if told(k) != was {
		t.Errorf("%s, want %s", told(k), was)
	}
	does(t, k.Take(4))
	does(t, k.Born(4, 3))
	does(t, k.Born(5, 1))
	does(t, k.Set(4, 1, begun(t, six(6), 6, 31)))
	if told(r) != was {
		t.Errorf("%s, want %s", told(r), was)
	}
	other := told(k)
	does(t, r.Take(9))
	does(t, r.Born(4, 9))
	does(t, r.Set(9, 0, old(2, 30, 1, 2, 3, 4, 5)))
	does(t, r.Set(9, 1, old(1, 6, 7, 8, 9, 10, 32)))
	if told(k) != other {
		t.Errorf("%s, want %s", told(k), other)
	}
	if err := k.Set(4, 0, begun(t, six(0), 0, 30)); err != api.ErrState {
		t.Error(err)
	}
}

// P0.4: a registry keeps nothing of what it is handed, nor writes to it.
func TestRegistryKeepsItsOwn(t *testing.T) {
	whole := []int{0, 1, 2, 3, 4, 5, 70, 71}
	groups := []api.Config{{Old: whole[:6]}, six(6)}
	r := made(t, groups...)
	if fmt.Sprint(whole) != "[0 1 2 3 4 5 70 71]" {
		t.Error("written to:", whole)
	}
	scribble(whole)
	scribble(groups[1].Old)
	groups[1] = six(40)
	isThat(t, "New", got(t, r, 0), six(0))
	isThat(t, "New", got(t, r, 1), six(6))
	first, second := []int{5, 4, 3, 2, 1, 0, 70, 71}, []int{5, 4, 3, 2, 1, 9, 72, 73}
	c := api.Config{Epoch: 1, Old: first[:6], New: second[:6]}
	r = made(t, six(0), six(12))
	does(t, r.Set(0, 0, c))
	if fmt.Sprint(first, second) != "[5 4 3 2 1 0 70 71] [5 4 3 2 1 9 72 73]" {
		t.Error("written to:", first, second)
	}
	scribble(first)
	scribble(second)
	isThat(t, "Set", got(t, r, 0), api.Config{Epoch: 1, Old: []int{5, 4, 3, 2, 1, 0}, New: []int{5, 4, 3, 2, 1, 9}})
}

// P0.4: what Get hands out is new memory, its spare room too, in clones as well.
func TestGetIsNewMemory(t *testing.T) {
	r := made(t, six(0), six(6))
	does(t, r.Set(0, 0, begun(t, six(0), 0, 30)))
	k := r.Clone()
	was := told(r)
	for _, x := range []*conf.Registry{r, k} {
		one, two := got(t, x, 0), got(t, x, 0)
		scribble(append(one.Old, 1))
		scribble(one.Old)
		isThat(t, "the same answer", api.Config{New: one.New}, api.Config{New: []int{30, 1, 2, 3, 4, 5}})
		scribble(append(one.New, 1))
		scribble(one.New)
		isThat(t, "another one", two, api.Config{Epoch: 1, Old: []int{0, 1, 2, 3, 4, 5}, New: []int{30, 1, 2, 3, 4, 5}})
		other := got(t, x, 1)
		scribble(append(other.New, 1))
		scribble(other.Old)
		if told(r) != was || told(k) != was {
			t.Errorf("%s, %s, want %s", told(r), told(k), was)
		}
	}
}
