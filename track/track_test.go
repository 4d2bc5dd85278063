package track_test

import (
	"errors"
	"fmt"
	"math"
	"slices"
	"testing"

	"sextet/api"
	"sextet/track"
)

// old is a configuration without New.
func old(nodes ...int) api.Config { return api.Config{Old: nodes} }

// six is that of 0 to 5.
func six() api.Config { return old(0, 1, 2, 3, 4, 5) }

// joint is that of 0 to 5, and New beside it.
func joint(nodes ...int) api.Config {
	c := six()
	c.New = nodes
	return c
}

// made is a Track of c, which must do well.
func made(t *testing.T, c api.Config) *track.Track {
	t.Helper()
	x, err := track.New(c)
	if err != nil || x == nil {
		t.Fatalf("New(%v): %v", c, err)
	}
	return x
}

// changed lets c count, which must do well.
func changed(t *testing.T, x *track.Track, c api.Config) {
	t.Helper()
	if err := x.Change(c); err != nil {
		t.Fatalf("Change(%v): %v", c, err)
	}
}

// acked lets each node from 0 on tell its number with Inc 0 (below 0: it tells none), which must do well.
func acked(t *testing.T, x *track.Track, scls ...int64) {
	t.Helper()
	for n, scl := range scls {
		if scl >= 0 && !x.Ack(n, 0, scl) {
			t.Fatalf("Ack(%d, 0, %d) is false", n, scl)
		}
	}
}

// lsns are those at which Has is asked.
var lsns = []int64{math.MinInt64, -1, 0, 1, 2, 3, 4, 5, 6, 7, 8, 9, 10, 99, api.MaxLSN - 1, api.MaxLSN, api.MaxLSN + 1, math.MaxInt64}

// told is all that x tells, as text.
func told(x *track.Track) string {
	var l []string
	for n := -2; n < 70; n++ {
		if x.SCL(n) != 0 {
			l = append(l, fmt.Sprintf("%d:%d", n, x.SCL(n)))
		}
	}
	for _, lsn := range lsns {
		l = append(l, fmt.Sprint(x.Has(lsn)))
	}
	return fmt.Sprint(l, x.PGCL())
}

// still asks that x tells what it told.
func still(t *testing.T, what string, x *track.Track, was string) {
	t.Helper()
	if now := told(x); now != was {
		t.Errorf("%s: it tells %s, and no more %s", what, now, was)
	}
}

// has asks which members have all up to lsn.
func has(t *testing.T, x *track.Track, lsn int64, want ...int) {
	t.Helper()
	if got := x.Has(lsn); !slices.Equal(got, want) {
		t.Errorf("Has(%d): %v, want %v", lsn, got, want)
	}
}

// pgcl asks for PGCL.
func pgcl(t *testing.T, what string, x *track.Track, want int64) {
	t.Helper()
	if got := x.PGCL(); got != want {
		t.Errorf("%s: PGCL %d, want %d", what, got, want)
	}
}

// wrong are configurations that are not right, each with conf's error.
var wrong = []struct {
	c    api.Config
	want error
}{
	{api.Config{}, api.ErrShape},
	{old(0, 1, 2, 3, 4), api.ErrShape},
	{old(0, 1, 2, 3, 4, 5, 6), api.ErrShape},
	{old(0, 1, 2, 3, 4, 4), api.ErrShape},
	{old(0, 1, 2, 3, 4, 64), api.ErrRange},
	{old(-1, 1, 2, 3, 4, 5), api.ErrRange},
	{api.Config{Epoch: -1, Old: []int{0, 1, 2, 3, 4, 5}}, api.ErrRange},
	{api.Config{Epoch: api.MaxEpoch + 1, Old: []int{0, 1, 2, 3, 4, 5}}, api.ErrRange},
	{joint(0, 1, 2, 3, 4, 5), api.ErrShape},
	{joint(0, 1, 2, 3, 6, 7), api.ErrShape},
	{joint(0, 1, 2, 3, 6), api.ErrShape},
	{joint(0, 1, 2, 3, 4, 64), api.ErrRange},
	{joint(6), api.ErrShape},
	{api.Config{New: []int{0, 1, 2, 3, 4, 5}}, api.ErrShape},
	{api.Config{Epoch: -1}, api.ErrRange},
}

// P14.1: New tells conf.Valid's errors, and nothing beside them.
func TestNewRefuses(t *testing.T) {
	for _, w := range wrong {
		if x, err := track.New(w.c); x != nil || !errors.Is(err, w.want) {
			t.Errorf("New(%v): %v, %v, want %v", w.c, x, err, w.want)
		}
	}
}

// P14.1: Change tells conf.Valid's errors, and changes nothing then.
func TestChangeRefuses(t *testing.T) {
	x := made(t, six())
	acked(t, x, 9, 8, 7, 6, 5)
	was := told(x)
	for _, w := range wrong {
		if err := x.Change(w.c); !errors.Is(err, w.want) {
			t.Errorf("Change(%v): %v, want %v", w.c, err, w.want)
		}
		still(t, fmt.Sprint(w.c), x, was)
	}
	if x.Ack(64, 0, 1) || x.Ack(6, 0, 1) || !x.Ack(5, 0, 1) {
		t.Error("another one counts")
	}
}

// P14.1: the first and the last epoch are right, which says nothing here.
func TestEpochs(t *testing.T) {
	for _, epoch := range []int{0, 1, api.MaxEpoch} {
		c := six()
		c.Epoch = epoch
		x := made(t, c)
		acked(t, x, 5, 5, 5, 5)
		changed(t, x, c)
		pgcl(t, fmt.Sprint("epoch ", epoch), x, 5)
	}
}

// P14.1, P14.2: of one where nobody told anything.
func TestNothing(t *testing.T) {
	x := made(t, old(5, 63, 0, 40, 9, 12))
	has(t, x, math.MinInt64, 0, 5, 9, 12, 40, 63)
	has(t, x, -1, 0, 5, 9, 12, 40, 63)
	has(t, x, 0, 0, 5, 9, 12, 40, 63)
	has(t, x, 1)
	has(t, x, api.MaxLSN)
	has(t, x, math.MaxInt64)
	pgcl(t, "nothing", x, 0)
	for _, n := range []int{math.MinInt, -1, 0, 1, 5, 63, 64, math.MaxInt} {
		if x.SCL(n) != 0 {
			t.Errorf("SCL(%d) is %d", n, x.SCL(n))
		}
	}
}

// P14.2: the chapter's example, and others of six.
func TestExample(t *testing.T) {
	for _, c := range []struct {
		scls []int64
		want int64
	}{
		{[]int64{5, 5, 5, 5}, 5},
		{[]int64{-1, -1, 5, 5, 5, 5}, 5},
		{[]int64{5, 5, 5}, 0},
		{[]int64{5, 5, 5, 0}, 0},
		{[]int64{5, 5, 5, 1}, 1},
		{[]int64{5, 5, 5, 6}, 5},
		{[]int64{5, 6, 7, 8}, 5},
		{[]int64{8, 7, 6, 5}, 5},
		{[]int64{9, 8, 7, 6, 5, 4}, 6},
		{[]int64{4, 5, 6, 7, 8, 9}, 6},
		{[]int64{9, 4, 8, 5, 7, 6}, 6},
		{[]int64{9, 9, 9, 9, 9, 9}, 9},
		{[]int64{9, 9, 9, 9, 9, 10}, 9},
		{[]int64{9, 9, 10, 10, 10, 10}, 10},
		{[]int64{api.MaxLSN, api.MaxLSN, api.MaxLSN, api.MaxLSN}, api.MaxLSN},
		{[]int64{api.MaxLSN, api.MaxLSN, api.MaxLSN, api.MaxLSN - 1}, api.MaxLSN - 1},
		{[]int64{1, 1, 1, 1}, 1},
		{[]int64{0, 0, 0, 0, 0, 0}, 0},
		{nil, 0},
	} {
		x := made(t, six())
		acked(t, x, c.scls...)
		pgcl(t, fmt.Sprint(c.scls), x, c.want)
	}
}

// P14.1: Ack tells whether it could be taken; what couldn't changes nothing.
func TestAckRefuses(t *testing.T) {
	x := made(t, six())
	acked(t, x, 9, 8, 7, 6, 5)
	x.Born(4, 3)
	x.Ack(4, 3, 5)
	was := told(x)
	for _, c := range []struct {
		node, inc int
		scl       int64
	}{
		{6, 0, 9}, {63, 0, 9}, {64, 0, 9}, {-1, 0, 9}, {math.MinInt, 0, 9}, {math.MaxInt, 0, 9}, {256, 0, 9}, {1 << 32, 0, 9},
		{0, 1, 99}, {0, -1, 99}, {0, math.MaxInt, 99}, {0, math.MinInt, 99}, {0, 1 << 32, 99}, {0, 256, 99},
		{4, 0, 99}, {4, 2, 99}, {4, 4, 99}, {4, 3 + 1<<32, 99},
		{0, 0, -1}, {0, 0, math.MinInt64}, {0, 0, api.MaxLSN + 1}, {0, 0, math.MaxInt64}, {0, 0, 1<<63 - 1},
		{5, 0, -1}, {5, 0, api.MaxLSN + 1}, {5, 1, 0}, {6, 0, 0}, {4, 0, 0},
	} {
		if x.Ack(c.node, c.inc, c.scl) {
			t.Errorf("Ack(%d, %d, %d) is true", c.node, c.inc, c.scl)
		}
		still(t, fmt.Sprint(c), x, was)
	}
}

// P14.1: what is below what a node told before is taken, and changes nothing.
func TestAckBelow(t *testing.T) {
	x := made(t, six())
	acked(t, x, 9, 8, 7, 6, 5)
	was := told(x)
	for n, scl := range []int64{9, 8, 7, 6, 5} {
		for _, below := range []int64{0, 1, scl - 1, scl} {
			if !x.Ack(n, 0, below) {
				t.Errorf("Ack(%d, 0, %d) is false", n, below)
			}
			still(t, "below", x, was)
		}
	}
	acked(t, x, 10, -1, -1, 7)
	if x.SCL(0) != 10 || x.SCL(3) != 7 || x.PGCL() != 7 {
		t.Error(told(x))
	}
}

// P14.1: both ends of what an SCL may be.
func TestAckEdges(t *testing.T) {
	x := made(t, six())
	acked(t, x, 0, 1, api.MaxLSN-1, api.MaxLSN)
	for n, want := range []int64{0, 1, api.MaxLSN - 1, api.MaxLSN, 0, 0} {
		if x.SCL(n) != want {
			t.Errorf("SCL(%d) is %d, want %d", n, x.SCL(n), want)
		}
	}
	has(t, x, 0, 0, 1, 2, 3, 4, 5)
	has(t, x, 1, 1, 2, 3)
	has(t, x, 2, 2, 3)
	has(t, x, api.MaxLSN-1, 2, 3)
	has(t, x, api.MaxLSN, 3)
	has(t, x, api.MaxLSN+1)
}

// P14.1: each node that is right may be a member, and tells for itself alone.
func TestEachNode(t *testing.T) {
	for low := 0; low <= api.MaxNodes-6; low++ {
		x := made(t, old(low+5, low+4, low+3, low+2, low+1, low))
		for n := -2; n < api.MaxNodes+2; n++ {
			is := low <= n && n <= low+5
			if x.Ack(n, 0, int64(n+100)) != is {
				t.Fatalf("node %d of those from %d on", n, low)
			}
			want := int64(0)
			if is {
				want = int64(n + 100)
			}
			if x.SCL(n) != want {
				t.Fatalf("SCL(%d) is %d, want %d", n, x.SCL(n), want)
			}
		}
		has(t, x, int64(low+103), low+3, low+4, low+5)
		pgcl(t, "each node", x, int64(low+102))
	}
}

// P14.1: another life of a node's disk has told nothing; the same one has told what it told.
func TestBorn(t *testing.T) {
	x := made(t, six())
	acked(t, x, 5, 5, 5, 5, 4)
	was := told(x)
	x.Born(0, 0)
	still(t, "the same", x, was)
	x.Born(0, 2)
	if x.SCL(0) != 0 || x.PGCL() != 4 {
		t.Error(told(x))
	}
	has(t, x, 5, 1, 2, 3)
	has(t, x, 0, 0, 1, 2, 3, 4, 5)
	if x.Ack(0, 0, 5) || x.Ack(0, 1, 5) || x.SCL(0) != 0 {
		t.Error("another Inc counts")
	}
	if !x.Ack(0, 2, 3) || x.SCL(0) != 3 || !x.Ack(0, 2, 7) || x.PGCL() != 5 {
		t.Error(told(x))
	}
	was = told(x)
	x.Born(0, 2)
	still(t, "the same", x, was)
	x.Born(0, 0)
	if x.SCL(0) != 0 || x.PGCL() != 4 {
		t.Error("what is forgotten doesn't come again:", told(x))
	}
	x.Born(0, 2)
	if x.SCL(0) != 0 || x.PGCL() != 4 || x.Ack(0, 0, 9) || !x.Ack(0, 2, 9) {
		t.Error("what is forgotten doesn't come again:", told(x))
	}
}

// P14.1: an Inc is any number; of a node that told nothing yet, too.
func TestBornIncs(t *testing.T) {
	x := made(t, six())
	for i, inc := range []int{1, 1 << 30, 1<<30 + 1, 1 << 32, math.MaxInt, -1, math.MinInt, 0} {
		x.Born(2, inc)
		if x.SCL(2) != 0 || x.Ack(2, inc+1, 50) || x.Ack(2, inc-1, 50) || !x.Ack(2, inc, int64(i+1)) || x.SCL(2) != int64(i+1) {
			t.Errorf("Inc %d: %s", inc, told(x))
		}
		if !x.Ack(1, 0, 1) || x.Ack(1, inc|1, 9) {
			t.Errorf("Inc %d of another node counts", inc)
		}
	}
}

// P14.1: Born and Drop of a node that isn't right change nothing.
func TestNoNode(t *testing.T) {
	x := made(t, old(0, 1, 2, 3, 4, 63))
	acked(t, x, 5, 6, 7, 8, 9)
	x.Ack(63, 0, 5)
	was := told(x)
	for _, n := range []int{-1, -64, 64, 65, 128, 256, 1 << 32, math.MinInt, math.MaxInt} {
		x.Born(n, 7)
		still(t, fmt.Sprint("Born of ", n), x, was)
		x.Drop(n)
		still(t, fmt.Sprint("Drop of ", n), x, was)
		if x.Ack(n, 7, 9) || x.Ack(n, 0, 9) || x.SCL(n) != 0 {
			t.Errorf("node %d is one", n)
		}
	}
}

// P14.1: Drop is as if the node had told nothing; its Inc stays.
func TestDrop(t *testing.T) {
	x := made(t, six())
	acked(t, x, 5, 5, 5, 5, 4, 3)
	x.Drop(1)
	if x.SCL(1) != 0 || x.PGCL() != 4 {
		t.Error(told(x))
	}
	has(t, x, 3, 0, 2, 3, 4, 5)
	was := told(x)
	x.Drop(1)
	still(t, "twice", x, was)
	if !x.Ack(1, 0, 2) || x.SCL(1) != 2 {
		t.Error("it tells less now:", told(x))
	}
	x.Born(1, 4)
	x.Ack(1, 4, 8)
	x.Drop(1)
	if x.SCL(1) != 0 || x.Ack(1, 0, 9) || !x.Ack(1, 4, 1) || x.SCL(1) != 1 {
		t.Error("its Inc:", told(x))
	}
	was = told(x)
	x.Born(1, 4)
	still(t, "Born of the same", x, was)
}

// P14.1: from now on the other one counts; who was told of before is remembered, though no member.
func TestChange(t *testing.T) {
	x := made(t, six())
	acked(t, x, 9, 8, 7, 6, 5, 4)
	changed(t, x, old(3, 4, 5, 6, 7, 8))
	if x.SCL(0) != 9 || x.SCL(3) != 6 {
		t.Error("it isn't remembered:", told(x))
	}
	has(t, x, 0, 3, 4, 5, 6, 7, 8)
	has(t, x, 4, 3, 4, 5)
	has(t, x, 5, 3, 4)
	has(t, x, 7)
	pgcl(t, "three have", x, 0)
	if x.Ack(0, 0, 99) || x.SCL(0) != 9 || !x.Ack(8, 0, 5) || !x.Ack(7, 0, 20) {
		t.Error("who tells:", told(x))
	}
	pgcl(t, "four have", x, 5)
	changed(t, x, six())
	has(t, x, 5, 0, 1, 2, 3, 4)
	pgcl(t, "as before", x, 6)
	changed(t, x, old(0, 1, 2, 7, 8, 9))
	has(t, x, 5, 0, 1, 2, 7, 8)
	pgcl(t, "of both", x, 7)
}

// P14.1: what is told to be of another life, or dropped, is so of one who is no member, too.
func TestAway(t *testing.T) {
	x := made(t, six())
	acked(t, x, 9, 8, 7, 6, 5, 4)
	changed(t, x, old(3, 4, 5, 6, 7, 8))
	x.Born(0, 2)
	x.Born(1, 0)
	x.Drop(2)
	x.Born(9, 5)
	if x.SCL(0) != 0 || x.SCL(1) != 8 || x.SCL(2) != 0 {
		t.Error(told(x))
	}
	changed(t, x, old(0, 1, 2, 3, 4, 9))
	has(t, x, 1, 1, 3, 4)
	if x.Ack(0, 0, 3) || !x.Ack(0, 2, 3) || !x.Ack(1, 0, 3) || !x.Ack(2, 0, 3) || x.Ack(9, 0, 3) || !x.Ack(9, 5, 3) {
		t.Error(told(x))
	}
	has(t, x, 3, 0, 1, 2, 3, 4, 9)
	has(t, x, 4, 1, 3, 4)
}

// P14.2: while one is replaced, four of the old six and four of the new ones are enough.
func TestJoint(t *testing.T) {
	for _, c := range []struct {
		scls []int64 // of 0 to 6
		want int64
	}{
		{[]int64{5, 5, 5, 5}, 5},                // four of both
		{[]int64{5, 5, 5, -1, -1, 5}, 0},        // four of the old, three of the new
		{[]int64{5, 5, 5, -1, -1, -1, 5}, 0},    // three, four
		{[]int64{5, 5, 5, -1, -1, 5, 5}, 5},     // four, four
		{[]int64{5, 5, 5, -1, -1, 7, 6}, 5},     // both have more
		{[]int64{9, 9, 9, -1, -1, 7, 6}, 6},     // the new one is the least
		{[]int64{9, 9, 9, -1, -1, 6, 7}, 6},     // the old one is
		{[]int64{9, 9, 9, 3, -1, 7, 0}, 3},      // 7 is enough for the old alone
		{[]int64{9, 9, 9, 3, -1, -1, 7}, 3},     // and here for the new alone
		{[]int64{9, 9, 9, 3, 4, -1, 7}, 4},      // and here
		{[]int64{1, 2, 3, 4, 5, 6, 7}, 3},       // 3, 4, 5, 6; 3, 4, 5, 7
		{[]int64{7, 6, 5, 4, 3, 2, 1}, 4},       // 7, 6, 5, 4
		{[]int64{-1, -1, 5, 5, 5, 5, 5}, 5},     // four, four
		{[]int64{-1, -1, -1, 5, 5, 5, 5}, 0},    // three, three
		{[]int64{-1, -1, -1, -1, -1, -1, 9}, 0}, // one
	} {
		x := made(t, joint(0, 1, 2, 3, 4, 6))
		acked(t, x, c.scls...)
		pgcl(t, fmt.Sprint(c.scls), x, c.want)
	}
	x := made(t, joint(8, 1, 2, 3, 4, 5))
	acked(t, x, 5, 5, 5, 5)
	has(t, x, 0, 0, 1, 2, 3, 4, 5, 8)
	pgcl(t, "three of the new ones", x, 0)
	if !x.Ack(8, 0, 4) {
		t.Error("the new one is no member")
	}
	has(t, x, 4, 0, 1, 2, 3, 8)
	pgcl(t, "four", x, 4)
}

// P14.2: a copy is replaced, from Begin to Commit, and from Begin to Rollback.
func TestReplaced(t *testing.T) {
	x := made(t, six())
	acked(t, x, 9, 9, 9, 3, 3, 9)
	pgcl(t, "six", x, 9)
	changed(t, x, joint(0, 1, 2, 3, 4, 6))
	pgcl(t, "both: it may fall by Change", x, 3)
	x.Ack(6, 0, 8)
	pgcl(t, "both", x, 8)
	changed(t, x, old(0, 1, 2, 3, 4, 6))
	pgcl(t, "the new ones", x, 8)
	x.Ack(6, 0, 20)
	pgcl(t, "the new ones", x, 9)
	if x.Ack(5, 0, 20) {
		t.Error("who went tells")
	}
	changed(t, x, six())
	pgcl(t, "the old ones", x, 9)
	has(t, x, 4, 0, 1, 2, 5)
}

// P14.2: nothing that Ack takes, or not, lets it fall.
func TestNeverFalls(t *testing.T) {
	x := made(t, joint(0, 1, 2, 3, 9, 5))
	d := dice(3)
	var was int64
	for i := range 5000 {
		x.Ack(d.upTo(12)-1, d.upTo(8)/7, int64(d.upTo(i+10)-2))
		if x.PGCL() < was {
			t.Fatalf("%d: %d behind %d", i, x.PGCL(), was)
		}
		was = x.PGCL()
	}
	if was < 4000 {
		t.Error("it stayed at", was)
	}
}

// P0.4: what is handed in is neither changed nor kept, nor what lies behind it.
func TestHandedIn(t *testing.T) {
	room := []int{5, 4, 3, 2, 1, 0, 77, 78, 5, 4, 3, 2, 1, 6, 79, 80}
	was := slices.Clone(room)
	c := api.Config{Old: room[:6], New: room[8:14]}
	x := made(t, c)
	y := made(t, six())
	changed(t, y, c)
	if !slices.Equal(room, was) {
		t.Fatal("changed:", room)
	}
	acked(t, x, 9, 9, 9, -1, -1, 8, 7)
	acked(t, y, 9, 9, 9, -1, -1, 8, 7)
	before := told(x)
	still(t, "Change", y, before)
	for i := range room {
		room[i] = 40 + i
	}
	still(t, "New", x, before)
	still(t, "Change", y, before)
	if x.Ack(40, 0, 1) || !x.Ack(6, 0, 1) || y.Ack(40, 0, 1) || !y.Ack(6, 0, 1) {
		t.Error("it is kept")
	}
}

// P0.4: each list that is handed out is new memory, spare room too.
func TestHandedOut(t *testing.T) {
	x := made(t, joint(0, 1, 2, 3, 4, 6))
	acked(t, x, 9, 9, 9, 9, 9, 9, 9)
	was := told(x)
	a, b := x.Has(0), x.Has(0)
	for _, l := range [][]int{a[:cap(a)], x.Has(9), x.Has(10)[:0]} {
		for i := range l {
			l[i] = 77
		}
		_ = append(l, 78)
	}
	if !slices.Equal(b, []int{0, 1, 2, 3, 4, 5, 6}) {
		t.Error("another list shows it:", b)
	}
	still(t, "it shows it", x, was)
}

// P0.5: two of them know nothing of each other.
func TestTwo(t *testing.T) {
	x, y := made(t, six()), made(t, six())
	was := told(y)
	acked(t, x, 9, 9, 9, 9)
	x.Born(3, 2)
	changed(t, x, old(6, 7, 8, 9, 10, 11))
	still(t, "another one", y, was)
	if !y.Ack(3, 0, 9) {
		t.Error("another one's Inc")
	}
}
