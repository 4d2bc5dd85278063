package hot_test

import (
	"bytes"
	"errors"
	"fmt"
	"iter"
	"math"
	"slices"
	"testing"

	"sextet/api"
	"sextet/hot"
	"sextet/redo"
	"sextet/span"
)

// group is the group of the logs here, if nothing else is said.
const group = 2

// rec is a record that is right, if its numbers are.
func rec(lsn, back int64, epoch int) api.Redo {
	return api.Redo{
		LSN: lsn, Back: back, Epoch: epoch, Group: group, Page: int(lsn & 7), Kind: api.Insert, Slot: 3,
		Key: []byte("key"), Value: fmt.Appendf(nil, "value of %d", lsn), Last: lsn%2 == 0,
	}
}

// cut is a span.
func cut(epoch int, from, to int64) api.Span { return api.Span{Epoch: epoch, From: from, To: to} }

// added are records that a log has to take, handed to it one by one.
func added(t *testing.T, l *hot.Log, recs ...api.Redo) *hot.Log {
	t.Helper()
	for _, r := range recs {
		if is, err := l.Add(r); !is || err != nil {
			t.Fatalf("Add(%v): %v, %v", r, is, err)
		}
	}
	return l
}

// of is a log that has these records.
func of(t *testing.T, recs ...api.Redo) *hot.Log {
	t.Helper()
	return added(t, hot.New(group), recs...)
}

// chain are n records, each the Back of the next one.
func chain(n int) []api.Redo {
	var out []api.Redo
	for i := range int64(n) {
		out = append(out, rec(i+1, i, 1))
	}
	return out
}

// cutBy asks that a Cut by these spans does away with n records.
func cutBy(t *testing.T, l *hot.Log, n int, spans ...api.Span) {
	t.Helper()
	if got, err := l.Cut(spans...); got != n || err != nil {
		t.Errorf("Cut(%v): %d, %v, want %d", spans, got, err, n)
	}
}

// adds asks what Add answers; where it isn't true, that it changed nothing.
func adds(t *testing.T, what string, l *hot.Log, r api.Redo, is bool, want error) {
	t.Helper()
	before, scl, gaps := l.Clone(), l.SCL(), l.Gaps()
	got, err := l.Add(r)
	if got != is || err != want {
		t.Errorf("%s: Add(%v): %v, %v, want %v, %v", what, r, got, err, is, want)
	}
	if !is && (!l.Same(before) || l.SCL() != scl || !slices.Equal(l.Gaps(), gaps)) {
		t.Errorf("%s: it changed what is there: SCL %d, Gaps %v", what, l.SCL(), l.Gaps())
	}
	if is && l.Len() != before.Len()+1 {
		t.Errorf("%s: it isn't there", what)
	}
}

// lsns are the numbers of records, as they come.
func lsns(l iter.Seq[api.Redo]) []int64 {
	var out []int64
	for r := range l {
		out = append(out, r.LSN)
	}
	return out
}

// look is all that a log tells, as text.
func look(l *hot.Log) string {
	return fmt.Sprint(slices.Collect(l.All()), l.SCL(), l.Top(), l.Len(), l.Gaps(), l.Above(0, math.MaxInt))
}

// told asks for what a log tells: the records, SCL and Gaps.
func told(t *testing.T, what string, l *hot.Log, there string, scl int64, gaps string) {
	t.Helper()
	if got := fmt.Sprint(lsns(l.All())); got != there {
		t.Errorf("%s: there are %s, want %s", what, got, there)
	}
	if got := l.SCL(); got != scl {
		t.Errorf("%s: SCL %d, want %d", what, got, scl)
	}
	if got := fmt.Sprint(l.Gaps()); got != gaps {
		t.Errorf("%s: Gaps %s, want %s", what, got, gaps)
	}
}

// changed are records unlike r, of its LSN and group, each in one field.
func changed(r api.Redo) []api.Redo {
	var out []api.Redo
	for _, do := range []func(r *api.Redo){
		func(r *api.Redo) { r.Back-- },
		func(r *api.Redo) { r.Epoch++ },
		func(r *api.Redo) { r.Epoch-- },
		func(r *api.Redo) { r.Page++ },
		func(r *api.Redo) { r.Kind++ },
		func(r *api.Redo) { r.Slot++ },
		func(r *api.Redo) { r.Key = []byte("kex") },
		func(r *api.Redo) { r.Key = nil },
		func(r *api.Redo) { r.Value = []byte("value") },
		func(r *api.Redo) { r.Last = !r.Last },
	} {
		x := redo.Clone(r)
		do(&x)
		out = append(out, x)
	}
	return out
}

// wrong are records that are not right, each with what redo.Valid tells of it.
func wrong() map[error][]api.Redo {
	with := func(do func(r *api.Redo)) api.Redo {
		r := rec(5, 4, 1)
		do(&r)
		return r
	}
	return map[error][]api.Redo{
		api.ErrRange: {
			{}, rec(0, 0, 1), rec(-5, -6, 1), rec(api.MaxLSN+1, 0, 1), rec(math.MinInt64, 0, 1), rec(math.MaxInt64, 0, 1),
			rec(5, -1, 1), rec(5, 5, 1), rec(5, 6, 1), rec(5, 4, -1), rec(5, 4, api.MaxEpoch+1),
			with(func(r *api.Redo) { r.Group = -1 }),
			with(func(r *api.Redo) { r.Group = api.MaxGroups }),
			with(func(r *api.Redo) { r.Page = api.MaxPages }),
			with(func(r *api.Redo) { r.Slot = 1<<15 + 1 }),
			with(func(r *api.Redo) { r.Slot, r.Kind, r.Key = -1, 0, make([]byte, 99) }),
		},
		api.ErrKind: {
			with(func(r *api.Redo) { r.Kind = 0 }),
			with(func(r *api.Redo) { r.Kind = api.Cut + 1 }),
			with(func(r *api.Redo) { r.Kind, r.Key = 7, make([]byte, 99) }),
		},
		api.ErrMany: {
			with(func(r *api.Redo) { r.Key = make([]byte, api.MaxKey+1) }),
			with(func(r *api.Redo) { r.Value = make([]byte, api.MaxValue+1) }),
		},
	}
}

// P9.1: a record that is new is there from then on, whatever order they come in.
func TestAdd(t *testing.T) {
	l := hot.New(group)
	told(t, "new", l, "[]", 0, "[]")
	for _, r := range []api.Redo{rec(5, 3, 1), rec(api.MaxLSN, api.MaxLSN-1, api.MaxEpoch), rec(1, 0, 0), rec(9, 7, 1), rec(4, 0, 0)} {
		adds(t, "a new one", l, r, true, nil)
		got, is := l.Get(r.LSN)
		if !is || !redo.Same(got, r) {
			t.Errorf("Get: %v, %v", got, is)
		}
	}
	told(t, "five", l, "[1 4 5 9 1099511627776]", 1, "[3 7 1099511627775]")
	if l.Len() != 5 || l.Top() != api.MaxLSN {
		t.Error(l.Len(), l.Top())
	}
}

// P9.1: any record that is right is taken, at its limits too.
func TestAddLimits(t *testing.T) {
	greatest := api.Redo{
		LSN: api.MaxLSN, Back: api.MaxLSN - 1, Epoch: api.MaxEpoch, Group: group, Page: api.MaxPages - 1, Kind: api.Cut, Slot: 1 << 15,
		Key: bytes.Repeat([]byte{255}, api.MaxKey), Value: bytes.Repeat([]byte{1}, api.MaxValue), Last: true,
	}
	l := hot.New(group)
	for _, r := range []api.Redo{greatest, {LSN: 1, Group: group, Kind: api.Format}} {
		adds(t, "a limit", l, r, true, nil)
		if got, is := l.Get(r.LSN); !is || !redo.Same(got, r) {
			t.Errorf("%v, %v", got, is)
		}
	}
}

// P9.1: redo.Valid's errors, ahead of all else.
func TestAddWrong(t *testing.T) {
	for want, l := range wrong() {
		for _, r := range l {
			adds(t, "none there", hot.New(group), r, false, want)
			adds(t, "one there", of(t, rec(5, 4, 1)), r, false, want)
			dead := hot.New(group + 1)
			cutBy(t, dead, 0, cut(9, 0, api.MaxLSN))
			adds(t, "of another group, and dead", dead, r, false, want)
		}
	}
}

// P9.1: ErrShape, if it is of another group, ahead of what is there, or dead.
func TestAddOtherGroup(t *testing.T) {
	for mine := -1; mine <= api.MaxGroups; mine++ {
		for other := range api.MaxGroups {
			l := hot.New(mine)
			r := rec(5, 4, 1)
			r.Group = other
			if mine == other {
				adds(t, "its group", l, r, true, nil)
				adds(t, "its group", l, r, false, nil)
				continue
			}
			adds(t, "another group", l, r, false, api.ErrShape)
		}
	}
	l := of(t, rec(5, 4, 1))
	cutBy(t, l, 0, cut(1, 0, 9))
	for _, epoch := range []int{0, 1, 2} {
		r := rec(5, 4, epoch)
		r.Group = 0
		adds(t, "there, or dead", l, r, false, api.ErrShape)
	}
}

// P9.1: false, if the same is there; ErrThere, if another one with its LSN is, of whatever epoch.
func TestAddThere(t *testing.T) {
	l := of(t, rec(3, 0, 5), rec(5, 3, 5), rec(8, 5, 5))
	for _, lsn := range []int64{3, 5, 8} {
		r, _ := l.Get(lsn)
		adds(t, "the same", l, r, false, nil)
		for _, x := range changed(r) {
			want := api.ErrThere
			if x.Back < 0 {
				want = api.ErrRange
			}
			adds(t, "another one", l, x, false, want)
		}
	}
	adds(t, "empty lists", l, api.Redo{LSN: 9, Group: group, Kind: 1}, true, nil)
	adds(t, "nil or empty", l, api.Redo{LSN: 9, Group: group, Kind: 1, Key: []byte{}, Value: []byte{}}, false, nil)
}

// P9.1: false, if a span has it dead: of a greater epoch, behind From, up to To.
func TestAddDead(t *testing.T) {
	l := hot.New(group)
	cutBy(t, l, 0, cut(3, 10, 20), cut(5, 15, 25))
	for _, x := range []struct {
		lsn  int64
		from int // of this epoch, and of greater ones, it isn't dead
	}{{9, 0}, {10, 0}, {11, 3}, {15, 3}, {16, 5}, {20, 5}, {21, 5}, {25, 5}, {26, 0}} {
		for epoch := range 7 {
			m := l.Clone()
			adds(t, "by spans", m, rec(x.lsn, 1, epoch), epoch >= x.from, nil)
		}
	}
}

// P9.1: one that is dead is left out without an error, even if another one with its LSN is there.
func TestAddDeadAheadOfThere(t *testing.T) {
	l := hot.New(group)
	cutBy(t, l, 0, cut(3, 10, 20))
	added(t, l, rec(12, 1, 3))
	adds(t, "dead", l, rec(12, 1, 2), false, nil)
	adds(t, "dead", l, rec(12, 5, 0), false, nil)
	adds(t, "the same", l, rec(12, 1, 3), false, nil)
	adds(t, "another one", l, rec(12, 2, 3), false, api.ErrThere)
	adds(t, "another one", l, rec(12, 1, 4), false, api.ErrThere)
}

// P9.1: ErrFull, if there are MaxRecs, behind all else.
func TestAddFull(t *testing.T) {
	l := hot.New(group)
	cutBy(t, l, 0, cut(5, 50000, 60000))
	recs := chain(api.MaxRecs)
	slices.Reverse(recs)
	added(t, l, recs[1:]...)
	adds(t, "the last that has room", l, recs[0], true, nil)
	for _, lsn := range []int64{api.MaxRecs + 1, api.MaxRecs + 2, 50000, 60001, api.MaxLSN} {
		adds(t, "no room", l, rec(lsn, 1, 1), false, api.ErrFull)
	}
	adds(t, "the same", l, recs[0], false, nil)
	adds(t, "the same", l, recs[api.MaxRecs-1], false, nil)
	adds(t, "another one", l, rec(1, 0, 2), false, api.ErrThere)
	adds(t, "dead", l, rec(50001, 1, 4), false, nil)
	other := rec(api.MaxRecs+1, 1, 1)
	other.Group = 0
	adds(t, "another group", l, other, false, api.ErrShape)
	adds(t, "wrong", l, rec(0, 0, 1), false, api.ErrRange)
	if l.Len() != api.MaxRecs || l.Top() != api.MaxRecs || l.SCL() != api.MaxRecs || len(l.Gaps()) > 0 {
		t.Error(l.Len(), l.Top(), l.SCL(), l.Gaps())
	}
	cutBy(t, l, 1, cut(2, api.MaxRecs-1, api.MaxRecs))
	adds(t, "room again", l, rec(50001, api.MaxRecs-1, 4), true, nil)
	adds(t, "no room again", l, rec(50002, 1, 4), false, api.ErrFull)
	if l.SCL() != 50001 {
		t.Error(l.SCL())
	}
}

// P9.1: Cut takes away those that are dead, on both sides of each end, and tells how many.
func TestCut(t *testing.T) {
	l := of(t, rec(9, 0, 1), rec(10, 9, 1), rec(11, 10, 1), rec(15, 11, 2), rec(16, 11, 3), rec(20, 16, 2), rec(21, 20, 1))
	m := l.Clone()
	cutBy(t, m, 3, cut(3, 10, 20))
	told(t, "cut", m, "[9 10 16 21]", 10, "[11 20]")
	if m.Len() != 4 || m.Top() != 21 {
		t.Error(m.Len(), m.Top())
	}
	for _, lsn := range []int64{11, 15, 20} {
		if r, is := m.Get(lsn); is || !redo.Same(r, api.Redo{}) {
			t.Error("not gone:", r)
		}
	}
	cutBy(t, m, 0, cut(3, 10, 20))
	m = l.Clone()
	cutBy(t, m, 7, cut(api.MaxEpoch, 0, api.MaxLSN))
	told(t, "all cut", m, "[]", 0, "[]")
	if m.Len() != 0 || m.Top() != 0 || len(m.Above(0, 9)) > 0 {
		t.Error(m.Len(), m.Top())
	}
	adds(t, "dead", m, rec(9, 0, 1), false, nil)
	m = l.Clone()
	cutBy(t, m, 1, cut(2, 20, 25))
	told(t, "the last cut", m, "[9 10 11 15 16 20]", 20, "[]")
	if m.Top() != 20 {
		t.Error(m.Top())
	}
	m = l.Clone()
	cutBy(t, m, 0, cut(1, 0, 25))
	cutBy(t, m, 0, cut(9, 21, 25))
	cutBy(t, m, 0, cut(9, 0, 8))
	told(t, "none cut", m, "[9 10 11 15 16 20 21]", 21, "[]")
	told(t, "the other one", l, "[9 10 11 15 16 20 21]", 21, "[]")
}

// P9.1: these are the spans from then on, in place of others.
func TestCutReplaces(t *testing.T) {
	l := of(t, chain(9)...)
	cutBy(t, l, 4, cut(2, 2, 4), cut(3, 4, 6))
	told(t, "cut", l, "[1 2 7 8 9]", 2, "[6]")
	adds(t, "dead by the first", l, rec(3, 2, 1), false, nil)
	adds(t, "dead by the second", l, rec(6, 5, 2), false, nil)
	cutBy(t, l, 1, cut(3, 4, 7))
	adds(t, "dead no more", l, rec(3, 2, 1), true, nil)
	adds(t, "dead no more", l, rec(4, 3, 1), true, nil)
	adds(t, "still dead", l, rec(5, 4, 1), false, nil)
	adds(t, "dead now", l, rec(7, 6, 1), false, nil)
	cutBy(t, l, 0)
	adds(t, "no spans", l, rec(7, 6, 1), true, nil)
	adds(t, "no spans", l, rec(5, 4, 1), true, nil)
	told(t, "no spans", l, "[1 2 3 4 5 7 8 9]", 5, "[6]")
	cutBy(t, l, 0, []api.Span{}...)
	cutBy(t, l, 8, cut(2, 0, 9))
	told(t, "all cut", l, "[]", 0, "[]")
}

// P9.1: span.Valid's errors: then all is as it was, the spans too.
func TestCutWrong(t *testing.T) {
	var many []api.Span
	for i := range api.MaxSpans + 1 {
		many = append(many, cut(i+1, int64(i), int64(i+1)))
	}
	l := of(t, chain(9)...)
	cutBy(t, l, 2, cut(2, 7, 20))
	for _, x := range []struct {
		spans []api.Span
		at    int // -1: around no place
		want  error
	}{
		{many, -1, api.ErrMany},
		{make([]api.Span, 1<<12), -1, api.ErrMany},
		{[]api.Span{{}}, 0, api.ErrRange},
		{[]api.Span{cut(0, 1, 9)}, 0, api.ErrRange},
		{[]api.Span{cut(9, 9, 9)}, 0, api.ErrRange},
		{[]api.Span{cut(9, -1, 9)}, 0, api.ErrRange},
		{[]api.Span{cut(9, 1, api.MaxLSN+1)}, 0, api.ErrRange},
		{[]api.Span{cut(2, 1, 9), cut(2, 1, 10)}, 1, api.ErrShape},
		{[]api.Span{cut(2, 1, 9), cut(3, 1, 9)}, 1, api.ErrShape},
		{[]api.Span{cut(2, 1, 9), cut(3, 1, 10), cut(api.MaxEpoch+1, 1, 11)}, 2, api.ErrRange},
	} {
		was, before := look(l), l.Clone()
		n, err := l.Cut(x.spans...)
		e := new(api.At)
		switch {
		case n != 0 || !errors.Is(err, x.want):
			t.Errorf("%v: %d, %v", x.want, n, err)
		case errors.As(err, &e) != (x.at >= 0) || e.Pos != max(x.at, 0):
			t.Errorf("%v: %v, want it at %d", x.want, err, x.at)
		}
		if look(l) != was || !l.Same(before) {
			t.Errorf("%v: it changed what is there", x.want)
		}
		adds(t, "still dead", l, rec(8, 7, 1), false, nil)
		adds(t, "still dead", l, rec(20, 7, 1), false, nil)
	}
	cutBy(t, l, 6, many[1:]...)
	cutBy(t, l, 0, many[:api.MaxSpans]...)
	adds(t, "dead by the last", l, rec(api.MaxSpans, 7, api.MaxSpans-1), false, nil)
	adds(t, "not by the last", l, rec(api.MaxSpans, 7, api.MaxSpans), true, nil)
}

// P9.2: the chapter's example.
func TestExample(t *testing.T) {
	told(t, "example", of(t, rec(1, 0, 1), rec(3, 2, 1)), "[1 3]", 1, "[2]")
}

// P9.2: SCL goes from 0, from one to the next, the record whose Back it is.
func TestSCL(t *testing.T) {
	for i, x := range []struct {
		recs []api.Redo
		want int64
	}{
		{nil, 0},
		{[]api.Redo{rec(1, 0, 0)}, 1},
		{[]api.Redo{rec(7, 0, 0)}, 7},
		{[]api.Redo{rec(api.MaxLSN, 0, 0)}, api.MaxLSN},
		{[]api.Redo{rec(2, 1, 0)}, 0},
		{[]api.Redo{rec(2, 1, 0), rec(3, 2, 0)}, 0},
		{[]api.Redo{rec(2, 0, 0), rec(3, 1, 0)}, 2},
		{[]api.Redo{rec(5, 0, 0), rec(9, 5, 0), rec(20, 9, 0)}, 20},
		{[]api.Redo{rec(5, 0, 0), rec(9, 5, 0), rec(20, 10, 0)}, 9},
		{[]api.Redo{rec(5, 0, 0), rec(9, 4, 0), rec(20, 9, 0)}, 5},
		{[]api.Redo{rec(5, 0, 0), rec(9, 6, 0), rec(20, 5, 0)}, 20},   // past one that isn't reached
		{[]api.Redo{rec(5, 0, 9), rec(9, 5, 1), rec(20, 9, 5)}, 20},   // epochs needn't rise
		{[]api.Redo{rec(1, 0, 1), rec(3, 0, 1)}, 1},                   // the least number
		{[]api.Redo{rec(1, 0, 1), rec(3, 0, 2)}, 3},                   // the greatest epoch ahead of it
		{[]api.Redo{rec(1, 0, 2), rec(3, 0, 1)}, 1},                   // so or so
		{[]api.Redo{rec(1, 0, 1), rec(2, 1, 1), rec(3, 0, 2)}, 3},     // though the other one goes on
		{[]api.Redo{rec(1, 0, 1), rec(9, 1, 1), rec(3, 0, 2)}, 3},     // and farther
		{[]api.Redo{rec(1, 0, 1), rec(3, 0, 1), rec(4, 3, 1)}, 1},     // so here
		{[]api.Redo{rec(1, 0, 1), rec(3, 0, 1), rec(4, 1, 0)}, 4},     // that choice goes on
		{[]api.Redo{rec(1, 0, 1), rec(4, 1, 1), rec(3, 1, 1)}, 3},     // behind another one too
		{[]api.Redo{rec(1, 0, 1), rec(4, 1, 2), rec(3, 1, 1)}, 4},     //
		{[]api.Redo{rec(1, 0, 1), rec(4, 1, 2), rec(3, 1, 3)}, 3},     //
		{[]api.Redo{rec(3, 1, 1), rec(4, 1, 3), rec(5, 1, 3)}, 0},     // none of them is reached
		{[]api.Redo{rec(3, 0, 1), rec(4, 0, 3), rec(5, 0, 3)}, 4},     // of three
		{[]api.Redo{rec(3, 0, 3), rec(4, 0, 3), rec(5, 0, 3)}, 3},     //
		{[]api.Redo{rec(3, 0, 1), rec(4, 0, 2), rec(5, 0, 3)}, 5},     //
		{[]api.Redo{rec(6, 5, 1), rec(7, 5, 2), rec(5, 0, 1)}, 7},     //
		{append(chain(500), rec(900, 499, 2), rec(901, 900, 1)), 901}, // ahead of the last
		{append(chain(500), rec(900, 250, 2)), 900},                   // in the middle
		{append(chain(500), rec(900, 250, 1)), 500},                   // no better one
		{chain(500)[1:], 0},                        // the first isn't there
		{slices.Delete(chain(500), 250, 251), 250}, // one isn't there
	} {
		back := slices.Clone(x.recs)
		slices.Reverse(back)
		if a, b := of(t, x.recs...).SCL(), of(t, back...).SCL(); a != x.want || b != x.want {
			t.Errorf("%d: %d, %d, want %d", i, a, b, x.want)
		}
	}
}

// P9.2: SCL is of what is there now: it rises far by one record, and falls by a better one, and by Cut.
func TestSCLMoves(t *testing.T) {
	l := of(t, chain(500)[1:]...)
	told(t, "without the first", l.Clone(), fmt.Sprint(lsns(l.All())), 0, "[1]")
	added(t, l, rec(1, 0, 1))
	if l.SCL() != 500 {
		t.Error(l.SCL())
	}
	added(t, l, rec(501, 7, 2))
	if l.SCL() != 501 {
		t.Error(l.SCL())
	}
	cutBy(t, l, 100, cut(2, 400, 600))
	if l.SCL() != 501 {
		t.Error(l.SCL())
	}
	cutBy(t, l, 1, cut(3, 450, 600))
	if l.SCL() != 400 {
		t.Error(l.SCL())
	}
	cutBy(t, l, 1, cut(3, 0, 1))
	if l.SCL() != 0 {
		t.Error(l.SCL())
	}
}

// P9.2: Top is the greatest LSN, Len how many there are.
func TestTopAndLen(t *testing.T) {
	l := hot.New(group)
	for i, lsn := range []int64{5, 3, 9, 1, api.MaxLSN, 8} {
		added(t, l, rec(lsn, 0, 1))
		if want := []int64{5, 5, 9, 9, api.MaxLSN, api.MaxLSN}[i]; l.Top() != want || l.Len() != i+1 {
			t.Errorf("%d, %d, want %d, %d", l.Top(), l.Len(), want, i+1)
		}
	}
}

// P9.2: Get of each number, there or not.
func TestGet(t *testing.T) {
	recs := []api.Redo{rec(1, 0, 2), rec(5, 3, 1), rec(9, 2, 1)}
	l := of(t, recs[1], recs[0], recs[2])
	for _, r := range recs {
		if got, is := l.Get(r.LSN); !is || !redo.Same(got, r) {
			t.Errorf("Get(%d): %v, %v", r.LSN, got, is)
		}
	}
	for _, lsn := range []int64{0, -1, -5, 2, 3, 4, 6, 8, 10, api.MaxLSN, 1<<32 + 5, math.MinInt64, math.MaxInt64} {
		if r, is := l.Get(lsn); is || !redo.Same(r, api.Redo{}) {
			t.Errorf("Get(%d): %v, %v", lsn, r, is)
		}
		if r, is := hot.New(group).Get(lsn); is || !redo.Same(r, api.Redo{}) {
			t.Errorf("Get(%d) of none: %v, %v", lsn, r, is)
		}
	}
}

// P9.2: Gaps are the Backs of which there is no record, rising, each once; 0 is none.
func TestGaps(t *testing.T) {
	for i, x := range []struct {
		recs []api.Redo
		want string
	}{
		{nil, "[]"},
		{[]api.Redo{rec(1, 0, 1)}, "[]"},
		{[]api.Redo{rec(7, 0, 1), rec(9, 0, 1)}, "[]"},
		{[]api.Redo{rec(2, 1, 1)}, "[1]"},
		{[]api.Redo{rec(api.MaxLSN, api.MaxLSN-1, 1)}, "[1099511627775]"},
		{[]api.Redo{rec(2, 1, 1), rec(1, 0, 1)}, "[]"},
		{[]api.Redo{rec(9, 1, 1), rec(8, 1, 2), rec(7, 1, 3)}, "[1]"},
		{[]api.Redo{rec(9, 6, 1), rec(8, 5, 2), rec(7, 4, 3)}, "[4 5 6]"},
		{[]api.Redo{rec(9, 4, 1), rec(8, 5, 2), rec(7, 6, 3)}, "[4 5 6]"},
		{[]api.Redo{rec(9, 7, 1), rec(8, 5, 2), rec(7, 6, 3)}, "[5 6]"},
		{[]api.Redo{rec(9, 8, 1), rec(8, 7, 2), rec(7, 6, 3)}, "[6]"},
		{[]api.Redo{rec(9, 8, 1), rec(7, 6, 3), rec(5, 0, 3)}, "[6 8]"},
		{[]api.Redo{rec(9, 5, 1), rec(8, 5, 2), rec(5, 2, 3), rec(6, 2, 3)}, "[2]"},
		{[]api.Redo{rec(9, 5, 1), rec(8, 4, 2), rec(5, 4, 3), rec(6, 3, 3)}, "[3 4]"},
		{slices.Delete(chain(500), 250, 252), "[252]"},
		{chain(500)[1:], "[1]"},
		{chain(500), "[]"},
	} {
		back := slices.Clone(x.recs)
		slices.Reverse(back)
		if a, b := fmt.Sprint(of(t, x.recs...).Gaps()), fmt.Sprint(of(t, back...).Gaps()); a != x.want || b != x.want {
			t.Errorf("%d: %s, %s, want %s", i, a, b, x.want)
		}
	}
}

// P9.2: Above has those whose LSN is above, rising, at most most.
func TestAbove(t *testing.T) {
	l := of(t, rec(9, 7, 1), rec(5, 3, 1), rec(api.MaxLSN, 9, 1), rec(1, 0, 2))
	for _, x := range []struct {
		lsn  int64
		most int
		want string
	}{
		{0, 9, "[1 5 9 1099511627776]"}, {-1, 9, "[1 5 9 1099511627776]"}, {math.MinInt64, math.MaxInt, "[1 5 9 1099511627776]"},
		{0, 4, "[1 5 9 1099511627776]"}, {0, 3, "[1 5 9]"}, {0, 2, "[1 5]"}, {0, 1, "[1]"},
		{0, 0, "[]"}, {0, -1, "[]"}, {0, math.MinInt, "[]"}, {4, 0, "[]"}, {5, -1, "[]"},
		{1, 9, "[5 9 1099511627776]"}, {1, 1, "[5]"}, {4, 1, "[5]"}, {4, 2, "[5 9]"}, {5, 1, "[9]"}, {6, 1, "[9]"}, {8, 9, "[9 1099511627776]"},
		{9, 9, "[1099511627776]"}, {api.MaxLSN - 1, 9, "[1099511627776]"}, {api.MaxLSN, 9, "[]"}, {math.MaxInt64, 9, "[]"},
	} {
		got := l.Above(x.lsn, x.most)
		if s := fmt.Sprint(lsns(slices.Values(got))); s != x.want {
			t.Errorf("Above(%d, %d): %s, want %s", x.lsn, x.most, s, x.want)
		}
		for _, r := range got {
			if own, _ := l.Get(r.LSN); !redo.Same(r, own) {
				t.Errorf("Above(%d, %d): %v", x.lsn, x.most, r)
			}
		}
		if len(hot.New(group).Above(x.lsn, x.most)) > 0 {
			t.Errorf("Above(%d, %d) of none", x.lsn, x.most)
		}
	}
}

// P9.2: All goes through all, rising; several times, left early, one within another.
func TestAll(t *testing.T) {
	want := []api.Redo{rec(1, 0, 2), rec(5, 3, 1), rec(9, 7, 1)}
	l := of(t, want[1], want[2], want[0])
	all := l.All()
	for range 3 {
		if got := slices.Collect(all); !slices.EqualFunc(got, want, redo.Same) {
			t.Error(got)
		}
	}
	for n := range 4 {
		var got []api.Redo
		for r := range all {
			if len(got) == n {
				break
			}
			got = append(got, r)
		}
		if !slices.EqualFunc(got, want[:n], redo.Same) {
			t.Errorf("left behind %d: %v", n, got)
		}
	}
	pairs := ""
	for a := range all {
		for b := range all {
			pairs += fmt.Sprint(a.LSN, b.LSN, " ")
		}
	}
	if pairs != "1 1 1 5 1 9 5 1 5 5 5 9 9 1 9 5 9 9 " {
		t.Error(pairs)
	}
	next, stop := iter.Pull(all)
	next()
	if r, is := next(); !is || r.LSN != 5 || fmt.Sprint(lsns(all)) != "[1 5 9]" {
		t.Error(r, is)
	}
	stop()
	for range hot.New(group).All() {
		t.Error("one of none")
	}
}

// P9.2, P0.5: All is of what is there when it is called.
func TestAllIsOfThen(t *testing.T) {
	l := of(t, rec(1, 0, 1), rec(5, 3, 1), rec(9, 7, 1))
	all := l.All()
	added(t, l, rec(3, 1, 1), rec(10, 9, 1))
	cutBy(t, l, 2, cut(2, 4, 9))
	if fmt.Sprint(lsns(all)) != "[1 5 9]" || fmt.Sprint(lsns(l.All())) != "[1 3 10]" {
		t.Error(lsns(all), lsns(l.All()))
	}
	seen := ""
	for r := range l.All() {
		seen += fmt.Sprint(r.LSN, " ")
		l.Add(rec(r.LSN+10, r.LSN, 2))
		l.Cut(cut(2, 0, r.LSN))
	}
	if seen != "1 3 10 " {
		t.Error(seen)
	}
	told(t, "behind it", l, "[11 13 20]", 0, "[1 3 10]")
}

// Same is whether group, spans and records are the same, whatever order they came in.
func TestSame(t *testing.T) {
	recs := chain(4)
	l, m := of(t, recs...), of(t, recs[3], recs[1], recs[0], recs[2])
	checkSame(t, "as they came", l, m, true)
	checkSame(t, "itself", l, l, true)
	checkSame(t, "none", hot.New(group), hot.New(group), true)
	checkSame(t, "another group", hot.New(group), hot.New(0), false)
	checkSame(t, "none and some", l, hot.New(group), false)
	checkSame(t, "one less", l, of(t, recs[:3]...), false)
	checkSame(t, "the first less", l, of(t, recs[1:]...), false)
	checkSame(t, "others", of(t, recs[:3]...), of(t, recs[1:]...), false)
	for _, r := range changed(rec(4, 3, 1)) {
		checkSame(t, "another one", l, of(t, recs[0], recs[1], recs[2], r), false)
	}
	cutBy(t, l, 0, cut(1, 0, 9))
	checkSame(t, "other spans", l, m, false)
	cutBy(t, m, 0, cut(1, 0, 8))
	checkSame(t, "other spans", l, m, false)
	cutBy(t, m, 0, cut(1, 0, 9))
	checkSame(t, "the same spans", l, m, true)
	cutBy(t, l, 2, cut(2, 2, 9))
	checkSame(t, "cut", l, m, false)
	cutBy(t, m, 1, cut(2, 2, 3))
	checkSame(t, "cut otherwise", l, m, false)
	cutBy(t, m, 1, cut(2, 2, 9))
	checkSame(t, "cut alike", l, m, true)
	cutBy(t, m, 0)
	checkSame(t, "no spans", l, m, false)
	cutBy(t, l, 0)
	checkSame(t, "no spans", l, m, true)
}

// checkSame asks for Same, both ways round.
func checkSame(t *testing.T, what string, l, m *hot.Log, want bool) {
	t.Helper()
	if l.Same(m) != want || m.Same(l) != want {
		t.Errorf("%s: not %v", what, want)
	}
}

// Clone has the same, and each goes its own way.
func TestClone(t *testing.T) {
	l := of(t, chain(4)...)
	cutBy(t, l, 1, cut(2, 3, 9))
	c := l.Clone()
	was := look(l)
	checkSame(t, "a clone", l, c, true)
	adds(t, "the group", c, api.Redo{LSN: 20, Kind: 1}, false, api.ErrShape)
	adds(t, "the spans", c, rec(4, 3, 1), false, nil)
	added(t, c, rec(20, 3, 1), rec(21, 20, 1), rec(10, 0, 2))
	if look(l) != was {
		t.Error("Add of a clone:", look(l))
	}
	added(t, l, rec(30, 3, 1))
	told(t, "the clone", c, "[1 2 3 10 20 21]", 10, "[]")
	told(t, "the first", l, "[1 2 3 30]", 30, "[]")
	cutBy(t, c, 5, cut(2, 0, 40))
	told(t, "the first", l, "[1 2 3 30]", 30, "[]")
	adds(t, "its spans", l, rec(40, 30, 1), true, nil)
	adds(t, "its spans", l, rec(9, 3, 1), false, nil)
	d := l.Clone()
	cutBy(t, l, 2, cut(2, 0, 2))
	told(t, "its clone", d, "[1 2 3 30 40]", 40, "[]")
	adds(t, "its clone's spans", d, rec(9, 3, 1), false, nil)
}

// Clones that grow side by side don't write into one another.
func TestClonesGrow(t *testing.T) {
	for n := range 20 {
		l := of(t, chain(n)...)
		c, d := l.Clone(), l.Clone()
		added(t, c, rec(100, 0, 3))
		added(t, d, rec(200, 0, 4))
		added(t, l, rec(300, 0, 5))
		for want, x := range map[int64]*hot.Log{100: c, 200: d, 300: l} {
			if x.Top() != want || x.SCL() != want || x.Len() != n+1 || len(x.Gaps()) > 0 {
				t.Error(n, want, look(x))
			}
		}
	}
}

// Era goes on while a log and its clones grow, and ends with each Cut that isn't refused.
func TestEra(t *testing.T) {
	l := of(t, chain(4)...)
	was := l.Era()
	if was == (hot.Era{}) || was == hot.New(group).Era() || was == of(t, chain(4)...).Era() {
		t.Error("one of another log, or none")
	}
	added(t, l, rec(9, 4, 1))
	adds(t, "the same", l, rec(9, 4, 1), false, nil)
	adds(t, "another one", l, rec(9, 4, 2), false, api.ErrThere)
	c := l.Clone()
	added(t, c, rec(10, 9, 1))
	if _, err := l.Cut(cut(2, 9, 9)); err == nil || l.Era() != was || c.Era() != was || c.Clone().Era() != was {
		t.Error("it ended without a Cut:", err)
	}
	seen := []hot.Era{was}
	for _, x := range []struct {
		gone  int
		spans []api.Span
	}{{0, nil}, {0, nil}, {1, []api.Span{cut(2, 8, 9)}}, {0, []api.Span{cut(2, 8, 9)}}, {0, nil}} {
		cutBy(t, l, x.gone, x.spans...)
		if slices.Contains(seen, l.Era()) || l.Era() != l.Clone().Era() || c.Era() != was {
			t.Error("behind a Cut:", x)
		}
		seen = append(seen, l.Era())
	}
	cutBy(t, c, 0)
	if slices.Contains(seen, c.Era()) {
		t.Error("a clone's Cut is its own")
	}
	checkSame(t, "the Era is no part of it", hot.New(group), hot.New(group), true)
}

// roomy is b with room behind its length that holds what would count, and that memory whole.
func roomy(b []byte) (short, whole []byte) {
	whole = append(bytes.Clone(b), "more"...)
	return whole[:len(b)], whole
}

// scribble writes over b and its spare room.
func scribble(b []byte) {
	b = b[:cap(b)]
	for i := range b {
		b[i] = 'X'
	}
}

// P0.4: what is handed in is neither changed nor kept.
func TestHandedIn(t *testing.T) {
	r := rec(1, 0, 1)
	var keys, values []byte
	r.Key, keys = roomy(r.Key)
	r.Value, values = roomy(r.Value)
	l := of(t, r)
	spans := []api.Span{cut(2, 5, 9), cut(3, 5, 12), cut(4, 0, 99)}
	cutBy(t, l, 0, spans[:2]...)
	if string(keys) != "keymore" || string(values) != "value of 1more" || fmt.Sprint(spans) != "[{2 5 9} {3 5 12} {4 0 99}]" {
		t.Error("written to:", string(keys), string(values), spans)
	}
	scribble(r.Key)
	scribble(r.Value)
	clear(spans)
	if got, _ := l.Get(1); !redo.Same(got, rec(1, 0, 1)) {
		t.Error("kept:", got)
	}
	adds(t, "its spans", l, rec(12, 1, 2), false, nil)
	adds(t, "its spans", l, rec(13, 1, 1), true, nil)
	adds(t, "the same", l, rec(1, 0, 1), false, nil)
}

// P0.4: each list handed out is new memory, its spare room too.
func TestHandedOut(t *testing.T) {
	l := of(t, rec(1, 0, 1), rec(5, 3, 1), rec(9, 7, 1))
	c := l.Clone()
	was := look(l)
	spoil := func(r api.Redo) {
		scribble(append(r.Key, 'Y'))
		scribble(append(r.Value, 'Y'))
		scribble(r.Key)
		scribble(r.Value)
	}
	check := func(what string) {
		t.Helper()
		if look(l) != was || look(c) != was {
			t.Error(what, look(l), look(c))
		}
	}
	one, _ := l.Get(5)
	two, _ := l.Get(5)
	spoil(one)
	if !redo.Same(two, rec(5, 3, 1)) {
		t.Error("Get shares:", two)
	}
	check("Get")
	above, again := l.Above(1, 2), l.Above(1, 2)
	spoil(above[0])
	if !redo.Same(above[1], rec(9, 7, 1)) || !redo.Same(again[0], rec(5, 3, 1)) {
		t.Error("Above shares:", above, again)
	}
	for _, r := range append(above, api.Redo{}) {
		spoil(r)
	}
	clear(above[:cap(above)])
	check("Above")
	all := l.All()
	for r := range all {
		if string(r.Key) != "key" {
			t.Error("All shares:", r)
		}
		spoil(r)
	}
	for r := range all {
		if string(r.Key) != "key" {
			t.Error("All shares:", r)
		}
	}
	check("All")
	gaps, others := l.Gaps(), l.Gaps()
	for i := range gaps[:cap(gaps)] {
		gaps[:cap(gaps)][i] = 99
	}
	if fmt.Sprint(others) != "[3 7]" {
		t.Error("Gaps share:", others)
	}
	check("Gaps")
}

// plain is a log that works out each answer from the words of the chapter, record by record.
type plain struct {
	recs  []api.Redo // as they came
	spans []api.Span
}

// add is what Add answers.
func (p *plain) add(r api.Redo) (bool, error) {
	if err := redo.Valid(r); err != nil {
		return false, err
	}
	if r.Group != group {
		return false, api.ErrShape
	}
	if span.Dead(p.spans, r.LSN, r.Epoch) {
		return false, nil
	}
	for _, x := range p.recs {
		if redo.Same(x, r) {
			return false, nil
		}
		if x.LSN == r.LSN {
			return false, api.ErrThere
		}
	}
	p.recs = append(p.recs, r)
	return true, nil
}

// cut is what Cut answers, of spans that are right.
func (p *plain) cut(spans []api.Span) int {
	p.spans = spans
	var kept []api.Redo
	for _, r := range p.recs {
		if !span.Dead(spans, r.LSN, r.Epoch) {
			kept = append(kept, r)
		}
	}
	gone := len(p.recs) - len(kept)
	p.recs = kept
	return gone
}

// look is look of a log that has the same.
func (p *plain) look() string {
	recs := redo.Sort(p.recs...)
	scl, top := int64(0), int64(0)
	for {
		var best *api.Redo
		for i, r := range recs {
			if r.Back == scl && (best == nil || r.Epoch > best.Epoch || r.Epoch == best.Epoch && r.LSN < best.LSN) {
				best = &recs[i]
			}
		}
		if best == nil {
			break
		}
		scl = best.LSN
	}
	var gaps []int64
	for _, r := range recs {
		top = max(top, r.LSN)
		is := slices.ContainsFunc(recs, func(x api.Redo) bool { return x.LSN == r.Back })
		if r.Back != 0 && !is && !slices.Contains(gaps, r.Back) {
			gaps = append(gaps, r.Back)
		}
	}
	slices.Sort(gaps)
	return fmt.Sprint(recs, scl, top, len(recs), gaps, recs)
}

// dice are numbers that look like chance, the same at every run.
type dice uint64

// upTo is a number from 0 to n - 1.
func (x *dice) upTo(n int) int {
	*x = *x*6364136223846793005 + 1442695040888963407
	return int(uint64(*x)>>33) % n
}

// rec is a record of a small number, mostly one that is right.
func (x *dice) rec() api.Redo {
	lsn := int64(x.upTo(31))
	r := rec(lsn, max(0, lsn-1-int64(x.upTo(4)*x.upTo(2))), x.upTo(5))
	if x.upTo(20) == 0 {
		r.Group = x.upTo(5)
	}
	if x.upTo(20) == 0 {
		r.Value = nil
	}
	return r
}

// spans are some that are right.
func (x *dice) spans() []api.Span {
	var out []api.Span
	epoch, to := 0, int64(0)
	for range x.upTo(3) {
		epoch += 1 + x.upTo(3)
		to += 1 + int64(x.upTo(8))
		out = append(out, cut(epoch, to-1-int64(x.upTo(int(to))), to))
	}
	return out
}

// P9.1, P9.2: many calls, all answered as the plain log does; each kind of answer comes often.
func TestAsPlain(t *testing.T) {
	x := dice(9)
	counts := map[string]int{}
	for range 50 {
		l, p := hot.New(group), &plain{}
		for range 120 {
			if x.upTo(15) == 0 {
				spans := x.spans()
				n, err := l.Cut(spans...)
				if want := p.cut(spans); n != want || err != nil {
					t.Fatalf("Cut(%v): %d, %v, want %d", spans, n, err, want)
				}
				counts[fmt.Sprint("cut ", n > 0)]++
			} else {
				r := x.rec()
				is, err := l.Add(r)
				was, want := p.add(r)
				if is != was || err != want {
					t.Fatalf("Add(%v): %v, %v, want %v, %v", r, is, err, was, want)
				}
				counts[fmt.Sprint("add ", is, err)]++
			}
			if got, want := look(l), p.look(); got != want {
				t.Fatalf("%s\nwant %s", got, want)
			}
			for r := range l.All() {
				if got, is := l.Get(r.LSN); !is || !redo.Same(got, r) {
					t.Fatalf("Get(%d): %v, %v", r.LSN, got, is)
				}
			}
		}
	}
	for _, what := range []string{"cut true", "cut false", "add true <nil>", "add false <nil>", "add false " + api.ErrThere.Error(), "add false " + api.ErrShape.Error(), "add false " + api.ErrRange.Error()} {
		if counts[what] < 50 {
			t.Errorf("%s: only %d", what, counts[what])
		}
	}
}
