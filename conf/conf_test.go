package conf_test

import (
	"fmt"
	"math"
	"slices"
	"testing"

	"sextet/api"
	"sextet/conf"
	"sextet/quor"
)

// six is a configuration of epoch 0, of the six nodes from low on.
func six(low int) api.Config { return old(0, low, low+1, low+2, low+3, low+4, low+5) }

// old is a configuration without New.
func old(epoch int, nodes ...int) api.Config { return api.Config{Epoch: epoch, Old: nodes} }

// joint is a configuration of epoch 1, of 0 to 5 and New.
func joint(nodes ...int) api.Config {
	c := six(0)
	c.Epoch, c.New = 1, nodes
	return c
}

// begun is what Begin makes of c, which must do well.
func begun(t *testing.T, c api.Config, out, in int) api.Config {
	t.Helper()
	d, err := conf.Begin(c, out, in)
	if err != nil {
		t.Fatalf("Begin(%v, %d, %d): %v", c, out, in, err)
	}
	return d
}

// copied is c in memory of its own.
func copied(c api.Config) api.Config {
	c.Old, c.New = slices.Clone(c.Old), slices.Clone(c.New)
	return c
}

// isThat asks that got is want, nil and an empty list being the same.
func isThat(t *testing.T, what string, got, want api.Config) {
	t.Helper()
	if got.Epoch != want.Epoch || !slices.Equal(got.Old, want.Old) || !slices.Equal(got.New, want.New) {
		t.Errorf("%s: %v, want %v", what, got, want)
	}
}

// refused asks that beside the error stands nothing.
func refused(t *testing.T, what string, c api.Config, err, want error) {
	t.Helper()
	if err != want {
		t.Errorf("%s: %v, want %v", what, err, want)
	}
	isThat(t, what, c, api.Config{})
}

// sets are the texts of Write, Read and Base.
func sets(c api.Config) []string {
	return []string{conf.Write(c).Text(), conf.Read(c).Text(), conf.Base(c).Text()}
}

// judged asks what Valid tells of c, and that all that hangs on it agrees.
func judged(t *testing.T, c api.Config, want error) {
	t.Helper()
	if err := conf.Valid(c); err != want {
		t.Errorf("Valid(%v): %v, want %v", c, err, want)
		return
	}
	for i, s := range sets(c) {
		if (s == "none") != (want != nil) {
			t.Errorf("%v: set %d is %s", c, i, s)
		}
	}
	for _, s := range []quor.Set{conf.Write(c), conf.Read(c), conf.Base(c)} {
		if want != nil && s != (quor.Set{}) {
			t.Errorf("%v: %s isn't the zero Set", c, s.Text())
		}
	}
	if want == nil {
		return
	}
	d, err := conf.Begin(c, 0, 9)
	refused(t, fmt.Sprintf("Begin(%v)", c), d, err, want)
	d, err = conf.Commit(c)
	refused(t, fmt.Sprintf("Commit(%v)", c), d, err, want)
	d, err = conf.Rollback(c)
	refused(t, fmt.Sprintf("Rollback(%v)", c), d, err, want)
}

// wrongNodes are nodes that aren't right.
func wrongNodes() []int {
	return []int{-1, -2, api.MaxNodes, api.MaxNodes + 1, -api.MaxNodes, 1 << 32, -1 << 32, 1<<32 + 7, math.MaxInt, math.MinInt}
}

// P7.1: an epoch is right from 0 to MaxEpoch.
func TestValidEpoch(t *testing.T) {
	for _, n := range []int{0, 1, 2, 1000, api.MaxEpoch - 1, api.MaxEpoch} {
		c, d := six(0), joint(0, 1, 2, 3, 4, 6)
		c.Epoch, d.Epoch = n, n
		judged(t, c, nil)
		judged(t, d, nil)
	}
	for _, n := range []int{-1, -2, -api.MaxEpoch, math.MinInt, api.MaxEpoch + 1, 1 << 32, math.MaxInt} {
		c, d, short := six(0), joint(0, 1, 2, 3, 4, 6), six(0)
		c.Epoch, d.Epoch, short.Epoch = n, n, n
		short.Old = short.Old[1:]
		judged(t, c, api.ErrRange)
		judged(t, d, api.ErrRange)
		judged(t, short, api.ErrRange)
	}
}

// P7.1: a node is right from 0 to MaxNodes - 1, at each place of both lists.
func TestValidNodes(t *testing.T) {
	judged(t, old(0, 0, 63, 1, 62, 2, 61), nil)
	judged(t, six(api.MaxNodes-6), nil)
	judged(t, six(api.MaxNodes-5), api.ErrRange)
	judged(t, six(-1), api.ErrRange)
	judged(t, api.Config{Old: []int{63, 1, 2, 3, 4, 5}, New: []int{0, 1, 2, 3, 4, 5}}, nil)
	judged(t, api.Config{Old: []int{0, 1, 2, 3, 4, 5}, New: []int{63, 1, 2, 3, 4, 5}}, nil)
	for i := range 6 {
		for _, n := range wrongNodes() {
			c := six(1)
			c.Old[i] = n
			judged(t, c, api.ErrRange)
			d := joint(0, 1, 2, 3, 4, 6)
			d.New[i] = n
			judged(t, d, api.ErrRange)
			e := joint(0, 1, 2, 3, 4, 6)
			e.Old[i] = n
			judged(t, e, api.ErrRange)
		}
	}
}

// P7.1: of two faults that of a number is told, wherever it is and whatever the shape.
func TestValidRangeAheadOfShape(t *testing.T) {
	for _, n := range wrongNodes() {
		judged(t, old(0, n), api.ErrRange)
		judged(t, old(0, n, n, n, n, n, n), api.ErrRange)
		judged(t, old(0, 0, 0, 0, 0, 0, n), api.ErrRange)
		judged(t, old(0, 0, 1, 2, 3, 4, 5, n), api.ErrRange)
		judged(t, joint(n), api.ErrRange)
		judged(t, joint(0, 0, 0, 0, 0, n), api.ErrRange)
		judged(t, joint(0, 1, 2, 3, 4, 6, n), api.ErrRange)
		judged(t, api.Config{New: []int{n}}, api.ErrRange)
	}
	c := joint(0, 1, 2, 3, 4, 5)
	c.Epoch = -1
	judged(t, c, api.ErrRange)
	judged(t, old(-1), api.ErrRange)
	judged(t, old(api.MaxEpoch+1), api.ErrRange)
}

// P7.1: Old has six nodes, unlike ones.
func TestValidOld(t *testing.T) {
	for n := range 20 {
		c := api.Config{}
		for i := range n {
			c.Old = append(c.Old, i)
		}
		want := api.ErrShape
		if n == 6 {
			want = nil
		}
		judged(t, c, want)
		c.New = []int{1, 2, 3, 4, 5, 6}
		judged(t, c, want)
	}
	for i := range 6 {
		for j := range 6 {
			c := six(3)
			c.Old[i] = c.Old[j]
			if i == j {
				judged(t, c, nil)
				continue
			}
			judged(t, c, api.ErrShape)
			c.New = []int{3, 4, 5, 6, 7, 9}
			judged(t, c, api.ErrShape)
			long := six(3)
			long.Old = append(long.Old, long.Old[i])
			judged(t, long, api.ErrShape)
		}
	}
	judged(t, api.Config{}, api.ErrShape)
	judged(t, api.Config{Old: []int{}, New: []int{}}, api.ErrShape)
	judged(t, api.Config{New: []int{0, 1, 2, 3, 4, 5}}, api.ErrShape)
	judged(t, old(0, 0, 0, 0, 0, 0, 0), api.ErrShape)
	judged(t, old(0, make([]int, 1<<16)...), api.ErrShape)
}

// P7.1: New has none, or six unlike ones, of which five, not six, are of Old.
func TestValidNew(t *testing.T) {
	for _, x := range []struct {
		nodes []int
		want  error
	}{
		{nil, nil},
		{[]int{}, nil},
		{[]int{0, 1, 2, 3, 4, 6}, nil},
		{[]int{6, 4, 3, 2, 1, 0}, nil},
		{[]int{6, 1, 2, 3, 4, 5}, nil},
		{[]int{5, 4, 63, 2, 1, 0}, nil},
		{[]int{0, 1, 2, 3, 4, 5}, api.ErrShape},
		{[]int{5, 4, 3, 2, 1, 0}, api.ErrShape},
		{[]int{0, 1, 2, 3, 6, 7}, api.ErrShape},
		{[]int{0, 1, 2, 6, 7, 8}, api.ErrShape},
		{[]int{0, 6, 7, 8, 9, 10}, api.ErrShape},
		{[]int{6, 7, 8, 9, 10, 11}, api.ErrShape},
		{[]int{0, 1, 2, 3, 4, 4}, api.ErrShape},
		{[]int{0, 1, 2, 3, 6, 6}, api.ErrShape},
		{[]int{0, 1, 2, 6, 4, 0}, api.ErrShape},
		{[]int{6, 6, 6, 6, 6, 6}, api.ErrShape},
		{[]int{0}, api.ErrShape},
		{[]int{6}, api.ErrShape},
		{[]int{0, 1, 2, 3, 4}, api.ErrShape},
		{[]int{1, 2, 3, 4, 6}, api.ErrShape},
		{[]int{0, 1, 2, 3, 4, 5, 6}, api.ErrShape},
		{[]int{0, 1, 2, 3, 4, 6, 6}, api.ErrShape},
		{[]int{0, 1, 2, 3, 4, 6, 0}, api.ErrShape},
		{[]int{0, 1, 2, 3, 4, 6, 7}, api.ErrShape},
		{make([]int, 1<<16), api.ErrShape},
	} {
		judged(t, joint(x.nodes...), x.want)
	}
}

// has is whether n is in l.
func has(l []int, n int) bool {
	for _, x := range l {
		if x == n {
			return true
		}
	}
	return false
}

// unlike is whether l has n nodes, none of them twice.
func unlike(l []int, n int) bool {
	for i, x := range l {
		if has(l[:i], x) {
			return false
		}
	}
	return len(l) == n
}

// plain is what Valid tells, worked out node by node.
func plain(c api.Config) error {
	for _, n := range append(slices.Clone(c.Old), c.New...) {
		if n < 0 || n > 63 {
			return api.ErrRange
		}
	}
	both := 0
	for _, n := range c.New {
		if has(c.Old, n) {
			both++
		}
	}
	if c.Epoch < 0 || c.Epoch > 1<<30 {
		return api.ErrRange
	}
	if !unlike(c.Old, 6) || len(c.New) != 0 && (!unlike(c.New, 6) || both != 5) {
		return api.ErrShape
	}
	return nil
}

// dice are numbers that look like chance, the same at every run.
type dice uint64

// upTo is a number from 0 to n - 1.
func (x *dice) upTo(n int) int {
	*x = *x*6364136223846793005 + 1442695040888963407
	return int(uint64(*x)>>33) % n
}

// list is a list of some six nodes, near to one that is right.
func (x *dice) list() []int {
	l := []int{0, 1, 2, 3, 4, 5}
	for i := range l {
		j := i + x.upTo(len(l)-i)
		l[i], l[j] = l[j], l[i]
	}
	for range x.upTo(3) {
		l[x.upTo(len(l))] = x.upTo(12) * (1 - 2*x.upTo(30)/29)
	}
	switch x.upTo(8) {
	case 0:
		l = l[:x.upTo(len(l))]
	case 1:
		l = append(l, x.upTo(12))
	}
	return l
}

// P7.1: many lists, all as the plain one tells; each kind of answer comes often.
func TestValidAsPlain(t *testing.T) {
	x := dice(7)
	counts := map[error]int{}
	for range 20000 {
		c := api.Config{Epoch: x.upTo(100), Old: x.list()}
		if x.upTo(4) > 0 {
			c.New = x.list()
		}
		counts[plain(c)]++
		judged(t, c, plain(c))
		if t.Failed() {
			t.FailNow()
		}
	}
	for _, want := range []error{nil, api.ErrRange, api.ErrShape} {
		if counts[want] < 500 {
			t.Errorf("%v: only %d", want, counts[want])
		}
	}
}

// P7.1: the members are those of both, rising, each once.
func TestMembers(t *testing.T) {
	for _, x := range []struct {
		c    api.Config
		want string
	}{
		{six(0), "[0 1 2 3 4 5]"},
		{six(58), "[58 59 60 61 62 63]"},
		{old(3, 9, 40, 2, 11, 63, 0), "[0 2 9 11 40 63]"},
		{joint(0, 1, 2, 3, 4, 6), "[0 1 2 3 4 5 6]"},
		{joint(9, 5, 4, 3, 2, 1), "[0 1 2 3 4 5 9]"},
		{api.Config{Old: []int{7, 6, 5, 4, 3, 2}, New: []int{0, 6, 5, 4, 3, 2}}, "[0 2 3 4 5 6 7]"},
		// Of one that isn't right too: the chapter has its zero Set for the sets alone.
		{api.Config{}, "[]"},
		{old(0, 5), "[5]"},
		{old(-1, 5, 4, 3, 2, 1, 0), "[0 1 2 3 4 5]"},
		{old(0, 3, 1, 3, 2, 1), "[1 2 3]"},
		{api.Config{New: []int{4, 2}}, "[2 4]"},
		{api.Config{Old: []int{9, 2, 9}, New: []int{4, 2}}, "[2 4 9]"},
		{joint(6, 7, 8, 9, 10, 11), "[0 1 2 3 4 5 6 7 8 9 10 11]"},
		{old(0, 64, -1, 3), "[-1 3 64]"},
	} {
		if got := conf.Members(x.c); fmt.Sprint(got) != x.want {
			t.Errorf("Members(%v): %v, want %s", x.c, got, x.want)
		}
	}
}

// P7.1: 4 and 3 of Old, and, if there is New, of New; 3 of Old alone.
func TestSets(t *testing.T) {
	for _, x := range []struct {
		c    api.Config
		want []string
	}{
		{six(0), []string{"4/{0 1 2 3 4 5}", "3/{0 1 2 3 4 5}", "3/{0 1 2 3 4 5}"}},
		{old(api.MaxEpoch, 63, 9, 8, 7, 6, 0), []string{"4/{0 6 7 8 9 63}", "3/{0 6 7 8 9 63}", "3/{0 6 7 8 9 63}"}},
		{api.Config{Old: []int{5, 4, 3, 2, 1, 0}, New: []int{}}, []string{"4/{0 1 2 3 4 5}", "3/{0 1 2 3 4 5}", "3/{0 1 2 3 4 5}"}},
		{joint(0, 1, 2, 3, 4, 6), []string{
			"(4/{0 1 2 3 4 5} & 4/{0 1 2 3 4 6})", "(3/{0 1 2 3 4 5} & 3/{0 1 2 3 4 6})", "3/{0 1 2 3 4 5}"}},
		{joint(5, 63, 4, 3, 2, 1), []string{
			"(4/{0 1 2 3 4 5} & 4/{1 2 3 4 5 63})", "(3/{0 1 2 3 4 5} & 3/{1 2 3 4 5 63})", "3/{0 1 2 3 4 5}"}},
	} {
		if got := sets(x.c); !slices.Equal(got, x.want) {
			t.Errorf("%v: %q, want %q", x.c, got, x.want)
		}
	}
}

// P7.1: those that are enough while one is replaced: the one that goes and the one that comes count each on its side.
func TestSetsOfBoth(t *testing.T) {
	c := joint(0, 1, 2, 3, 4, 6)
	for _, x := range []struct {
		nodes             []int
		write, read, base bool
	}{
		{[]int{0, 1, 2, 3}, true, true, true},
		{[]int{0, 1, 2, 5}, false, true, true},
		{[]int{0, 1, 2, 6}, false, true, true},
		{[]int{0, 1, 2, 5, 6}, true, true, true},
		{[]int{0, 1, 2}, false, true, true},
		{[]int{0, 1, 5}, false, false, true},
		{[]int{0, 1, 6}, false, false, false},
		{[]int{0, 1, 5, 6}, false, true, true},
		{[]int{0, 5, 6}, false, false, false},
		{nil, false, false, false},
	} {
		if conf.Write(c).Has(x.nodes...) != x.write || conf.Read(c).Has(x.nodes...) != x.read || conf.Base(c).Has(x.nodes...) != x.base {
			t.Errorf("%v: not %v, %v, %v", x.nodes, x.write, x.read, x.base)
		}
	}
}

// P7.2: in stands where out stood, in New alone; the chapter's example is among these.
func TestBegin(t *testing.T) {
	c := old(7, 9, 40, 2, 11, 63, 0)
	for i, out := range c.Old {
		for _, in := range []int{1, 3, 62, 10} {
			d, err := conf.Begin(c, out, in)
			if err != nil {
				t.Fatal(err)
			}
			want := api.Config{Epoch: 8, Old: []int{9, 40, 2, 11, 63, 0}, New: []int{9, 40, 2, 11, 63, 0}}
			want.New[i] = in
			isThat(t, fmt.Sprintf("Begin(%d, %d)", out, in), d, want)
			judged(t, d, nil)
		}
	}
	isThat(t, "handed in", c, old(7, 9, 40, 2, 11, 63, 0))
	d := begun(t, six(0), 5, 6)
	if got := conf.Write(d).Text(); got != "(4/{0 1 2 3 4 5} & 4/{0 1 2 3 4 6})" {
		t.Error(got)
	}
	isThat(t, "edges", begun(t, six(1), 6, 0), api.Config{Epoch: 1, Old: six(1).Old, New: []int{1, 2, 3, 4, 5, 0}})
	isThat(t, "edges", begun(t, six(1), 1, 63), api.Config{Epoch: 1, Old: six(1).Old, New: []int{63, 2, 3, 4, 5, 6}})
}

// P7.2: the errors of Begin, and of several the first.
func TestBeginRefused(t *testing.T) {
	last := six(0)
	last.Epoch = api.MaxEpoch
	lastOfBoth := joint(0, 1, 2, 3, 4, 6)
	lastOfBoth.Epoch = api.MaxEpoch
	for _, x := range []struct {
		c       api.Config
		out, in int
		want    error
	}{
		{six(0), 6, 7, api.ErrNone},
		{six(0), 6, 6, api.ErrNone},
		{six(0), 6, 0, api.ErrNone},
		{six(0), 6, 64, api.ErrNone},
		{six(0), 6, -1, api.ErrNone},
		{six(0), -1, 6, api.ErrNone},
		{six(0), -1, -1, api.ErrNone},
		{six(0), 64, 64, api.ErrNone},
		{six(0), math.MinInt, math.MaxInt, api.ErrNone},
		{six(0), 0, 0, api.ErrThere},
		{six(0), 5, 5, api.ErrThere},
		{six(0), 0, 5, api.ErrThere},
		{six(0), 5, 0, api.ErrThere},
		{six(0), 0, -1, api.ErrRange},
		{six(0), 5, 64, api.ErrRange},
		{six(0), 5, math.MaxInt, api.ErrRange},
		{six(0), 5, math.MinInt, api.ErrRange},
		{six(0), 5, 1<<32 + 6, api.ErrRange},
		{last, 0, 6, api.ErrRange},
		{last, 0, 64, api.ErrRange},
		{last, 6, 7, api.ErrNone},
		{last, 0, 1, api.ErrThere},
		{lastOfBoth, 0, 7, api.ErrState},
		{joint(0, 1, 2, 3, 4, 6), 0, 7, api.ErrState},
		{joint(0, 1, 2, 3, 4, 6), 9, 7, api.ErrState},
		{joint(0, 1, 2, 3, 4, 6), 0, 1, api.ErrState},
		{joint(0, 1, 2, 3, 4, 6), 0, 64, api.ErrState},
		{joint(0, 1, 2, 3, 4, 5), 9, 64, api.ErrShape},
		{old(0, 0, 1, 2, 3, 4, 64), 9, 0, api.ErrRange},
		{old(-1, 0, 1, 2, 3, 4, 5), 9, 0, api.ErrRange},
		{api.Config{}, 0, 6, api.ErrShape},
	} {
		was := copied(x.c)
		d, err := conf.Begin(x.c, x.out, x.in)
		refused(t, fmt.Sprintf("Begin(%v, %d, %d)", x.c, x.out, x.in), d, err, x.want)
		isThat(t, "handed in", x.c, was)
	}
}

// P7.2: each in that there is, for each out.
func TestBeginAll(t *testing.T) {
	c := old(0, 12, 0, 63, 31, 32, 5)
	for out := -2; out < 70; out++ {
		for in := -2; in < 70; in++ {
			d, err := conf.Begin(c, out, in)
			var want error
			switch {
			case !has(c.Old, out):
				want = api.ErrNone
			case has(c.Old, in):
				want = api.ErrThere
			case in < 0 || in > 63:
				want = api.ErrRange
			}
			if err != want {
				t.Fatalf("Begin(%d, %d): %v, want %v", out, in, err, want)
			}
			if err == nil && (plain(d) != nil || has(d.New, out) || !has(d.New, in)) {
				t.Fatalf("Begin(%d, %d): %v", out, in, d)
			}
		}
	}
}

// P7.2: Old is New, or as it was, each in its order; there is no New.
func TestCommitAndRollback(t *testing.T) {
	for _, c := range []api.Config{
		joint(6, 1, 2, 3, 4, 5),
		joint(5, 4, 3, 2, 1, 63),
		{Epoch: 41, Old: []int{9, 40, 2, 11, 63, 0}, New: []int{9, 40, 2, 1, 63, 0}},
		{Epoch: 0, Old: []int{9, 40, 2, 11, 63, 0}, New: []int{0, 63, 40, 1, 9, 2}},
	} {
		was := copied(c)
		d, err := conf.Commit(c)
		if err != nil {
			t.Errorf("Commit(%v): %v", c, err)
		}
		isThat(t, "Commit", d, api.Config{Epoch: was.Epoch + 1, Old: was.New})
		judged(t, d, nil)
		d, err = conf.Rollback(c)
		if err != nil {
			t.Errorf("Rollback(%v): %v", c, err)
		}
		isThat(t, "Rollback", d, api.Config{Epoch: was.Epoch + 1, Old: was.Old})
		judged(t, d, nil)
		isThat(t, "handed in", c, was)
	}
}

// P7.2: the errors of Commit and Rollback, and of several the first.
func TestSettleRefused(t *testing.T) {
	last, lastOfBoth := six(0), joint(0, 1, 2, 3, 4, 6)
	last.Epoch, lastOfBoth.Epoch = api.MaxEpoch, api.MaxEpoch
	for _, x := range []struct {
		c    api.Config
		want error
	}{
		{six(0), api.ErrState},
		{joint([]int{}...), api.ErrState},
		{last, api.ErrState},
		{lastOfBoth, api.ErrRange},
		{joint(0, 1, 2, 3, 4, 5), api.ErrShape},
		{joint(0, 1, 2, 3, 4, 64), api.ErrRange},
		{old(-1, 0, 1, 2, 3, 4, 5), api.ErrRange},
		{old(0, 0, 1, 2, 3, 4), api.ErrShape},
		{api.Config{}, api.ErrShape},
	} {
		c, err := conf.Commit(x.c)
		refused(t, fmt.Sprintf("Commit(%v)", x.c), c, err, x.want)
		c, err = conf.Rollback(x.c)
		refused(t, fmt.Sprintf("Rollback(%v)", x.c), c, err, x.want)
	}
}

// P7.2: the epoch is one more, up to MaxEpoch.
func TestEpochs(t *testing.T) {
	for _, n := range []int{0, 1, 2, 500, api.MaxEpoch - 2, api.MaxEpoch - 1, api.MaxEpoch} {
		c, b := six(0), joint(0, 1, 2, 3, 4, 6)
		c.Epoch, b.Epoch = n, n
		begin, err1 := conf.Begin(c, 0, 6)
		commit, err2 := conf.Commit(b)
		back, err3 := conf.Rollback(b)
		if n == api.MaxEpoch {
			refused(t, "Begin", begin, err1, api.ErrRange)
			refused(t, "Commit", commit, err2, api.ErrRange)
			refused(t, "Rollback", back, err3, api.ErrRange)
			continue
		}
		if err1 != nil || err2 != nil || err3 != nil || begin.Epoch != n+1 || commit.Epoch != n+1 || back.Epoch != n+1 {
			t.Errorf("%d: %v %v, %v %v, %v %v", n, begin, err1, commit, err2, back, err3)
		}
	}
}

// met asks that what is enough to write under c meets what is under d.
func met(t *testing.T, c, d api.Config) {
	t.Helper()
	for _, s := range []quor.Set{conf.Write(d), conf.Read(d)} {
		if !quor.Meets(conf.Write(c), s) || !quor.Meets(s, conf.Write(c)) {
			t.Errorf("%s of %v doesn't meet %s of %v", conf.Write(c).Text(), c, s.Text(), d)
		}
		if s.Text() == "none" || len(slices.Collect(s.Least())) == 0 {
			t.Errorf("%v: nothing is enough", d)
		}
	}
}

// P7.3: what is enough to write meets what is enough, here and in the next one; whoever is replaced, many times.
func TestMeets(t *testing.T) {
	x := dice(3)
	c := old(0, 20, 3, 63, 0, 41, 8)
	for range 300 {
		met(t, c, c)
		out, in := c.Old[x.upTo(6)], x.upTo(64)
		if has(c.Old, in) {
			continue
		}
		d := begun(t, c, out, in)
		met(t, c, d)
		met(t, d, d)
		commit, err := conf.Commit(d)
		if err != nil {
			t.Fatal(err)
		}
		met(t, d, commit)
		back, err := conf.Rollback(d)
		if err != nil {
			t.Fatal(err)
		}
		met(t, d, back)
		if c = commit; x.upTo(3) == 0 {
			c = back
		}
		if t.Failed() {
			t.FailNow()
		}
	}
}

// P7.3: it hangs on there being both for a time: without it they don't meet.
func TestMeetsNeedsBoth(t *testing.T) {
	c := six(0)
	d, _ := conf.Commit(begun(t, c, 5, 6))
	if quor.Meets(conf.Write(c), conf.Read(d)) {
		t.Error("one step met")
	}
	e, _ := conf.Commit(begun(t, d, 4, 7))
	if quor.Meets(conf.Write(c), conf.Write(e)) {
		t.Error("two steps met")
	}
}

// scribble writes over l and over its spare room.
func scribble(l []int) {
	l = l[:cap(l)]
	for i := range l {
		l[i] = 50 + i
	}
}

// P0.4: what is handed in is neither changed nor kept, nor is what lies behind it.
func TestHandedIn(t *testing.T) {
	first, second := []int{0, 1, 2, 3, 4, 5, 21, 22}, []int{0, 1, 2, 6, 4, 5, 23, 24}
	c := api.Config{Old: first[:6], New: second[:6]}
	single := api.Config{Old: first[:6]}
	members := conf.Members(c)
	begin, _ := conf.Begin(single, 3, 6)
	commit, _ := conf.Commit(c)
	back, _ := conf.Rollback(c)
	write, read, base := conf.Write(c), conf.Read(c), conf.Base(c)
	conf.Valid(c)
	if fmt.Sprint(first, second) != "[0 1 2 3 4 5 21 22] [0 1 2 6 4 5 23 24]" {
		t.Error("written to:", first, second)
	}
	scribble(first)
	scribble(second)
	isThat(t, "Begin", begin, api.Config{Epoch: 1, Old: []int{0, 1, 2, 3, 4, 5}, New: []int{0, 1, 2, 6, 4, 5}})
	isThat(t, "Commit", commit, old(1, 0, 1, 2, 6, 4, 5))
	isThat(t, "Rollback", back, old(1, 0, 1, 2, 3, 4, 5))
	if fmt.Sprint(members) != "[0 1 2 3 4 5 6]" || !write.Has(0, 1, 2, 4) || !read.Has(0, 1, 2) || !base.Has(3, 4, 5) {
		t.Error("kept:", members, write.Text(), read.Text(), base.Text())
	}
}

// P0.4: each list handed out is new memory, its spare room too.
func TestHandedOut(t *testing.T) {
	c := six(0)
	d := begun(t, c, 0, 6)
	scribble(append(d.Old, 7))
	scribble(d.Old)
	if fmt.Sprint(d.New) != "[6 1 2 3 4 5]" {
		t.Error("shared:", d.New)
	}
	d = begun(t, c, 0, 6)
	scribble(append(d.New, 7))
	scribble(d.New)
	isThat(t, "handed in", c, six(0))
	if fmt.Sprint(d.Old) != "[0 1 2 3 4 5]" {
		t.Error("shared:", d.Old)
	}
	d = begun(t, c, 0, 6)
	commit, _ := conf.Commit(d)
	back, _ := conf.Rollback(d)
	for _, l := range [][]int{commit.Old, back.Old, conf.Members(d), conf.Members(c)} {
		scribble(append(l, 7))
		scribble(l)
	}
	isThat(t, "handed in", d, api.Config{Epoch: 1, Old: []int{0, 1, 2, 3, 4, 5}, New: []int{6, 1, 2, 3, 4, 5}})
	isThat(t, "handed in", c, six(0))
}
