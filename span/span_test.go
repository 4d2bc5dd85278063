package span_test

import (
	"bytes"
	"encoding/binary"
	"errors"
	"fmt"
	"math"
	"math/rand"
	"slices"
	"strings"
	"testing"

	"sextet/api"
	"sextet/span"
	"sextet/wire"
)

// most64 is the greatest number of 64 bits.
const most64 = math.MaxInt64

// of is a span.
func of(epoch int, from, to int64) api.Span { return api.Span{Epoch: epoch, From: from, To: to} }

// some are spans that are right: the second cuts into what the first kept, the third stands apart.
func some() []api.Span { return []api.Span{of(1, 10, 20), of(3, 5, 25), of(4, 30, 40)} }

// rising are n spans, of which each is right behind the one ahead.
func rising(n int) []api.Span {
	var out []api.Span
	for i := range n {
		out = append(out, of(i+1, int64(i), int64(i+1)))
	}
	return out
}

// greatest are the spans that take the most bytes.
func greatest() []api.Span {
	var out []api.Span
	for i := range api.MaxSpans {
		behind := api.MaxSpans - 1 - i
		to := int64(api.MaxLSN - behind)
		out = append(out, of(api.MaxEpoch-behind, to-1, to))
	}
	return out
}

// judged is a list of spans, and what Valid tells of it: an error, around a place (-1: around none).
type judged struct {
	name string
	l    []api.Span
	at   int
	want error
}

// numbers are single spans: both sides of each end of each number, and the outermost ones.
func numbers() []judged {
	var out []judged
	add := func(name string, s api.Span, want error) {
		out = append(out, judged{name, []api.Span{s}, 0, want})
	}
	for _, n := range []int{1, 2, 63, 64, api.MaxEpoch - 1, api.MaxEpoch} {
		add("a right epoch", of(n, 10, 20), nil)
	}
	for _, n := range []int{0, -1, -2, -api.MaxEpoch, api.MaxEpoch + 1, 1 << 32, 1<<32 + 1, math.MinInt, math.MaxInt} {
		add("a wrong epoch", of(n, 10, 20), api.ErrRange)
	}
	for _, n := range []int64{0, 1, 18, 19} {
		add("a right From", of(1, n, 20), nil)
	}
	for _, n := range []int64{-1, -2, -20, 20, 21, api.MaxLSN, 1 << 62, math.MinInt64, most64} {
		add("a wrong From", of(1, n, 20), api.ErrRange)
	}
	for _, n := range []int64{11, 12, 20, api.MaxLSN - 1, api.MaxLSN} {
		add("a right To", of(1, 10, n), nil)
	}
	for _, n := range []int64{10, 9, 0, -1, api.MaxLSN + 1, 1 << 62, most64, math.MinInt64} {
		add("a wrong To", of(1, 10, n), api.ErrRange)
	}
	add("the least", of(1, 0, 1), nil)
	add("all", of(api.MaxEpoch, 0, api.MaxLSN), nil)
	add("the last", of(api.MaxEpoch, api.MaxLSN-1, api.MaxLSN), nil)
	add("none at the end", of(1, api.MaxLSN, api.MaxLSN), api.ErrRange)
	add("none at 0", of(1, 0, 0), api.ErrRange)
	add("both below 0", of(1, -2, -1), api.ErrRange)
	add("behind the end", of(1, api.MaxLSN, api.MaxLSN+1), api.ErrRange)
	add("of zeros", api.Span{}, api.ErrRange)
	return out
}

// lists are lists of several spans, or of none.
func lists() []judged {
	big := make([]api.Span, 1<<16)
	wrong := rising(api.MaxSpans)
	wrong[api.MaxSpans-1] = of(api.MaxSpans, 0, api.MaxSpans-1)
	return []judged{
		{"none", nil, -1, nil},
		{"empty", []api.Span{}, -1, nil},
		{"some", some(), -1, nil},
		{"From as ahead", []api.Span{of(1, 10, 20), of(2, 10, 21)}, -1, nil},
		{"From below", []api.Span{of(1, 10, 20), of(2, 9, 21)}, -1, nil},
		{"From 0", []api.Span{of(1, 10, 20), of(2, 0, 21)}, -1, nil},
		{"From above", []api.Span{of(1, 10, 20), of(2, 11, 21)}, -1, nil},
		{"From at To", []api.Span{of(1, 10, 20), of(2, 20, 21)}, -1, nil},
		{"From far above", []api.Span{of(1, 10, 20), of(2, 1000, 1001)}, -1, nil},
		{"epoch far above", []api.Span{of(1, 10, 20), of(api.MaxEpoch, 10, 21)}, -1, nil},
		{"the same", []api.Span{of(1, 10, 20), of(1, 10, 20)}, 1, api.ErrShape},
		{"epoch the same", []api.Span{of(3, 10, 20), of(3, 10, 21)}, 1, api.ErrShape},
		{"epoch below", []api.Span{of(3, 10, 20), of(2, 10, 21)}, 1, api.ErrShape},
		{"To the same", []api.Span{of(1, 10, 20), of(2, 10, 20)}, 1, api.ErrShape},
		{"To below", []api.Span{of(1, 10, 20), of(2, 10, 19)}, 1, api.ErrShape},
		{"both below", []api.Span{of(2, 10, 20), of(1, 1, 2)}, 1, api.ErrShape},
		{"above the one ahead alone", []api.Span{of(1, 0, 90), of(2, 0, 91), of(1, 0, 92)}, 2, api.ErrShape},
		{"To above the one ahead of the one ahead", []api.Span{of(1, 0, 9), of(2, 0, 91), of(3, 0, 10)}, 2, api.ErrShape},
		{"range ahead of shape", []api.Span{of(1, 10, 20), of(1, 10, 10)}, 1, api.ErrRange},
		{"epoch 0 behind", []api.Span{of(1, 10, 20), of(0, 10, 21)}, 1, api.ErrRange},
		{"the first of two", []api.Span{of(0, 1, 2), of(1, 2, 2)}, 0, api.ErrRange},
		{"shape ahead", []api.Span{of(1, 10, 20), of(1, 10, 21), of(0, 1, 2)}, 1, api.ErrShape},
		{"range ahead", []api.Span{of(1, 10, 20), of(2, 30, 21), of(1, 1, 2)}, 1, api.ErrRange},
		{"the third", []api.Span{of(1, 10, 20), of(2, 10, 21), of(3, -1, 22)}, 2, api.ErrRange},
		{"MaxSpans", rising(api.MaxSpans), -1, nil},
		{"the greatest", greatest(), -1, nil},
		{"the last of MaxSpans", wrong, api.MaxSpans - 1, api.ErrShape},
		{"MaxSpans of zeros", make([]api.Span, api.MaxSpans), 0, api.ErrRange},
		{"MaxSpans + 1", rising(api.MaxSpans + 1), -1, api.ErrMany},
		{"MaxSpans + 1 of zeros", make([]api.Span, api.MaxSpans+1), -1, api.ErrMany},
		{"very many", big, -1, api.ErrMany},
	}
}

// all are all of them.
func all() []judged { return append(numbers(), lists()...) }

// right are those that are right.
func right() [][]api.Span {
	var out [][]api.Span
	for _, c := range all() {
		if c.want == nil {
			out = append(out, c.l)
		}
	}
	return out
}

// checkErr asks that err is want, around that place (-1: around none).
func checkErr(t *testing.T, what string, err error, at int, want error) {
	t.Helper()
	if want == nil || at < 0 {
		if err != want {
			t.Errorf("%s: %v, want %v", what, err, want)
		}
		return
	}
	e, is := err.(*api.At)
	if !is || e.Pos != at || e.Err != want || !errors.Is(err, want) {
		t.Errorf("%s: %v, want %v at %d", what, err, want, at)
	}
}

// checkThat asks that got is want, nil and an empty list being the same.
func checkThat(t *testing.T, what string, got, want []api.Span) {
	t.Helper()
	if !slices.Equal(got, want) {
		t.Errorf("%s: %v, want %v", what, got, want)
	}
}

// roomy is l with room behind its length that holds what would count, and that memory whole.
func roomy(l []api.Span) (short, whole []api.Span) {
	whole = append(slices.Clone(l), of(1<<29, 1, 1<<39), of(1<<29+1, 0, 1<<39+1), of(0, -1, -1))
	return whole[:len(l)], whole
}

// scribble writes over l and over its spare room.
func scribble(l []api.Span) {
	l = l[:cap(l)]
	for i := range l {
		l[i] = of(-7, -7, -7)
	}
}

// P8.1: what Valid tells of each.
func TestValid(t *testing.T) {
	for _, c := range all() {
		checkErr(t, fmt.Sprint(c.name, c.l[:min(3, len(c.l))]), span.Valid(c.l...), c.at, c.want)
	}
	checkErr(t, "without arguments", span.Valid(), -1, nil)
}

// P8.1: a fault is told wherever it stands.
func TestValidEachPlace(t *testing.T) {
	for i := range api.MaxSpans {
		l := rising(api.MaxSpans)
		l[i].From = l[i].To
		checkErr(t, "From at To", span.Valid(l...), i, api.ErrRange)
		if i == 0 {
			continue
		}
		l = rising(api.MaxSpans)
		l[i].Epoch--
		checkErr(t, "epoch as ahead", span.Valid(l...), i, api.ErrShape)
		l = rising(api.MaxSpans)
		l[i].From, l[i].To = 0, l[i-1].To
		checkErr(t, "To as ahead", span.Valid(l...), i, api.ErrShape)
	}
}

// P8.1: an error that a caller writes into doesn't come back.
func TestValidErrorsAreNew(t *testing.T) {
	l := []api.Span{of(1, 1, 2), of(1, 1, 2)}
	one := span.Valid(l...)
	one.(*api.At).Pos, one.(*api.At).Err = 9, api.ErrEnd
	checkErr(t, "again", span.Valid(l...), 1, api.ErrShape)
}

// P8.1: Add is l and s behind it, or the error of both together.
func TestAdd(t *testing.T) {
	for _, c := range all() {
		if len(c.l) == 0 {
			continue
		}
		short, whole := roomy(c.l[:len(c.l)-1])
		before := slices.Clone(whole)
		out, err := span.Add(short, c.l[len(c.l)-1])
		checkErr(t, c.name, err, c.at, c.want)
		want := c.l
		if c.want != nil {
			want = nil
		}
		checkThat(t, c.name, out, want)
		checkThat(t, c.name+", what was handed in", whole, before)
	}
}

// P8.1: Add refuses what is there already, and tells a fault of l ahead of one of s.
func TestAddRefused(t *testing.T) {
	for i, x := range []struct {
		l    []api.Span
		s    api.Span
		at   int
		want error
	}{
		{some(), some()[0], 3, api.ErrShape},
		{some(), some()[2], 3, api.ErrShape},
		{some(), of(4, 40, 50), 3, api.ErrShape},
		{some(), of(5, 1, 40), 3, api.ErrShape},
		{some(), api.Span{}, 3, api.ErrRange},
		{nil, api.Span{}, 0, api.ErrRange},
		{nil, of(1, 5, 5), 0, api.ErrRange},
		{[]api.Span{of(1, 5, 5)}, of(2, 5, 6), 0, api.ErrRange},
		{[]api.Span{of(1, 5, 6), of(1, 5, 7)}, api.Span{}, 1, api.ErrShape},
		{rising(api.MaxSpans), of(99, 0, 99), -1, api.ErrMany},
		{rising(api.MaxSpans), api.Span{}, -1, api.ErrMany},
		{make([]api.Span, api.MaxSpans), of(99, 0, 99), -1, api.ErrMany},
		{rising(api.MaxSpans + 1), of(99, 0, 99), -1, api.ErrMany},
	} {
		out, err := span.Add(x.l, x.s)
		checkErr(t, fmt.Sprint(i), err, x.at, x.want)
		checkThat(t, fmt.Sprint(i), out, nil)
	}
	out, err := span.Add(rising(api.MaxSpans-1), of(99, 0, 99))
	if err != nil || len(out) != api.MaxSpans {
		t.Errorf("%d, %v", len(out), err)
	}
}

// P8.1, P0.4: what Add hands out is new memory, its spare room too.
func TestAddIsNewMemory(t *testing.T) {
	for n := range 5 {
		l, s := rising(n), of(9, 0, 9)
		one, err := span.Add(l, s)
		two, err2 := span.Add(l, s)
		if err != nil || err2 != nil {
			t.Fatal(err, err2)
		}
		scribble(one)
		checkThat(t, "another answer", two, append(rising(n), s))
		checkThat(t, "what was handed in", l, rising(n))
		three, _ := span.Add(two, of(10, 0, 10))
		four, _ := span.Add(two, of(11, 0, 11))
		checkThat(t, "goes on", three, append(rising(n), s, of(10, 0, 10)))
		checkThat(t, "goes on", four, append(rising(n), s, of(11, 0, 11)))
		scribble(two)
		checkThat(t, "went on", three, append(rising(n), s, of(10, 0, 10)))
	}
}

// P8.1: Same holds each field of each span, in their order; any numbers.
func TestSame(t *testing.T) {
	l := append(some(), of(-1, most64, math.MinInt64), api.Span{})
	if !span.Same(l, slices.Clone(l)) || !span.Same(l, l) || !span.Same(nil, nil) {
		t.Error("not the same")
	}
	if !span.Same(nil, []api.Span{}) || !span.Same([]api.Span{}, nil) || !span.Same(l[:0], nil) {
		t.Error("nil is another one than the empty list")
	}
	other := func(m []api.Span) {
		t.Helper()
		if span.Same(l, m) || span.Same(m, l) {
			t.Errorf("the same: %v", m)
		}
	}
	other(nil)
	for i := range l {
		other(l[:i])
		other(slices.Delete(slices.Clone(l), i, i+1))
		other(slices.Insert(slices.Clone(l), i, l[i]))
		for _, do := range []func(s *api.Span){
			func(s *api.Span) { s.Epoch++ },
			func(s *api.Span) { s.From++ },
			func(s *api.Span) { s.To++ },
			func(s *api.Span) { s.Epoch += 1 << 32 },
			func(s *api.Span) { s.From, s.To = s.To, s.From+9 },
		} {
			m := slices.Clone(l)
			do(&m[i])
			other(m)
		}
	}
	m := slices.Clone(l)
	m[0], m[1] = m[1], m[0]
	other(m)
	other(append(slices.Clone(l), api.Span{}))
	short, _ := roomy(l)
	if !span.Same(short, l) {
		t.Error("what lies behind counts")
	}
}

// P8.2: Dead at both ends of a span, for epochs on both sides of its.
func TestDead(t *testing.T) {
	one := []api.Span{of(5, 10, 20)}
	for _, x := range []struct {
		lsn   int64
		epoch int
		want  bool
	}{
		{9, 4, false}, {10, 4, false}, {11, 4, true}, {15, 4, true}, {19, 4, true}, {20, 4, true}, {21, 4, false},
		{11, 5, false}, {20, 5, false}, {15, 6, false}, {15, api.MaxEpoch, false}, {15, math.MaxInt, false},
		{11, 0, true}, {20, 0, true}, {15, -1, true}, {15, math.MinInt, true},
		{0, 0, false}, {-1, 0, false}, {-15, 0, false}, {1, 0, false}, {api.MaxLSN, 0, false},
		{math.MinInt64, 0, false}, {most64, 0, false}, {1<<32 + 15, 0, false},
	} {
		if got := span.Dead(one, x.lsn, x.epoch); got != x.want {
			t.Errorf("Dead of %d, epoch %d: %v", x.lsn, x.epoch, got)
		}
	}
	whole := []api.Span{of(api.MaxEpoch, 0, api.MaxLSN)}
	for lsn, want := range map[int64]bool{0: false, 1: true, api.MaxLSN: true, api.MaxLSN + 1: false} {
		if span.Dead(whole, lsn, api.MaxEpoch-1) != want || span.Dead(whole, lsn, api.MaxEpoch) {
			t.Errorf("Dead of %d", lsn)
		}
	}
	if span.Dead(nil, 1, 0) || span.Dead([]api.Span{}, 1, 0) || span.Dead(nil, 0, -1) {
		t.Error("dead by nothing")
	}
}

// P8.2: any of several spans may have it, the last one of those that do need not.
func TestDeadOfSeveral(t *testing.T) {
	for _, x := range []struct {
		lsn  int64
		from int // of this epoch, and of greater ones, it is not dead
	}{
		{5, 0}, {6, 3}, {10, 3}, {11, 3}, {20, 3}, {21, 3}, {25, 3}, {26, 0}, {30, 0}, {31, 4}, {40, 4}, {41, 0},
	} {
		for epoch := range 6 {
			if got := span.Dead(some(), x.lsn, epoch); got != (epoch < x.from) {
				t.Errorf("Dead of %d, epoch %d: %v", x.lsn, epoch, got)
			}
		}
	}
}

// P8.2: the chapter's example, and both ends of a span.
func TestNext(t *testing.T) {
	one := []api.Span{of(1, 10, 20)}
	for _, x := range []struct {
		l         []api.Span
		lsn, want int64
	}{
		{one, 10, 21},
		{one, 8, 9}, {one, 9, 10}, {one, 11, 21}, {one, 19, 21}, {one, 20, 21}, {one, 21, 22},
		{one, 0, 1}, {one, -1, 0}, {one, -2, -1}, {one, math.MinInt64, math.MinInt64 + 1},
		{one, api.MaxLSN, api.MaxLSN + 1}, {one, most64 - 1, most64}, {one, 1<<32 + 10, 1<<32 + 11},
		{nil, 7, 8}, {nil, 0, 1}, {nil, -1, 0}, {[]api.Span{}, 7, 8}, {nil, api.MaxLSN, api.MaxLSN + 1}, {nil, most64 - 1, most64},
		{some(), 0, 1}, {some(), 4, 5}, {some(), 5, 26}, {some(), 9, 26}, {some(), 10, 26}, {some(), 20, 26},
		{some(), 24, 26}, {some(), 25, 26}, {some(), 26, 27}, {some(), 29, 30}, {some(), 30, 41}, {some(), 40, 41}, {some(), 41, 42},
		{[]api.Span{of(1, 10, 20), of(2, 20, 30)}, 10, 31}, // one behind the other
		{[]api.Span{of(1, 10, 20), of(2, 20, 30)}, 9, 10},
		{[]api.Span{of(1, 10, 20), of(2, 21, 30)}, 10, 21}, // 21 is between them
		{[]api.Span{of(1, 10, 20), of(2, 21, 30)}, 21, 31},
		{[]api.Span{of(1, 0, api.MaxLSN)}, 0, api.MaxLSN + 1},
		{[]api.Span{of(1, 0, api.MaxLSN)}, -1, 0},
		{rising(api.MaxSpans), 0, api.MaxSpans + 1},
		{rising(api.MaxSpans), 63, api.MaxSpans + 1},
		{greatest(), 1, 2},
		{greatest(), api.MaxLSN - api.MaxSpans, api.MaxLSN + 1},
		{greatest(), api.MaxLSN - api.MaxSpans - 1, api.MaxLSN - api.MaxSpans},
	} {
		if got := span.Next(x.l, x.lsn); got != x.want {
			t.Errorf("Next(%v, %d): %d, want %d", x.l, x.lsn, got, x.want)
		}
	}
}

// P8.2, P0.6: above the greatest number of 64 bits there is none to answer.
func TestNextNone(t *testing.T) {
	end := []api.Span{of(1, 5, most64)}
	for _, l := range [][]api.Span{nil, some(), end, {of(1, math.MinInt64, most64)}} {
		if got := span.Next(l, most64); got != 0 {
			t.Errorf("%v: %d", l, got)
		}
	}
	for lsn, want := range map[int64]int64{4: 5, 5: 0, 6: 0, most64 - 1: 0} {
		if got := span.Next(end, lsn); got != want {
			t.Errorf("Next of %d: %d, want %d", lsn, got, want)
		}
	}
}

// plainNext is what the chapter says, number by number.
func plainNext(l []api.Span, lsn int64) int64 {
	in := func(n int64) bool {
		return slices.ContainsFunc(l, func(s api.Span) bool { return s.From < n && n <= s.To })
	}
	n := lsn + 1
	for in(n) {
		n++
	}
	return n
}

// P8.2: Next and Dead of any spans, right or not, are what the chapter says.
func TestNextAndDeadOfAny(t *testing.T) {
	r := rand.New(rand.NewSource(8))
	for range 3000 {
		l := make([]api.Span, r.Intn(8))
		for i := range l {
			from := int64(r.Intn(40) - 5)
			l[i] = of(r.Intn(6)-1, from, from+int64(r.Intn(14)-2))
		}
		short, whole := roomy(l)
		before := slices.Clone(whole)
		for lsn := int64(-8); lsn < 60; lsn++ {
			if got, want := span.Next(short, lsn), plainNext(l, lsn); got != want {
				t.Fatalf("Next(%v, %d): %d, want %d", l, lsn, got, want)
			}
			epoch := r.Intn(7) - 1
			want := slices.ContainsFunc(l, func(s api.Span) bool {
				return plainNext([]api.Span{s}, lsn-1) != lsn && s.Epoch > epoch
			})
			if got := span.Dead(short, lsn, epoch); got != want {
				t.Fatalf("Dead(%v, %d, %d): %v", l, lsn, epoch, got)
			}
		}
		checkThat(t, "handed in", whole, before)
	}
}

// P8.2, P0.1: Next ends soon, however long the spans are, however many, in whatever order.
func TestNextEnds(t *testing.T) {
	const many = 1 << 17
	l := rising(many)
	slices.Reverse(l)
	if got := span.Next(l, 0); got != many+1 {
		t.Error(got)
	}
	l = []api.Span{of(2, 1<<61, 1<<62), of(1, math.MinInt64, 1<<61)}
	for _, lsn := range []int64{math.MinInt64, -1, 0, 1 << 61, 1<<62 - 1, 1 << 62} {
		if got := span.Next(l, lsn); got != 1<<62+1 {
			t.Errorf("Next of %d: %d", lsn, got)
		}
	}
}

// P8.2: Top is the last one's To, whatever the others'.
func TestTop(t *testing.T) {
	for _, x := range []struct {
		l    []api.Span
		want int64
	}{
		{nil, 0}, {[]api.Span{}, 0}, {some(), 40}, {some()[:2], 25}, {some()[:1], 20}, {some()[:0], 0},
		{greatest(), api.MaxLSN}, {rising(api.MaxSpans), api.MaxSpans},
		{[]api.Span{of(1, 10, 20), of(2, 3, 4)}, 4}, {[]api.Span{of(1, 10, 20), {}}, 0}, {rising(1000), 1000},
		{[]api.Span{of(1, 1, -5)}, -5}, {[]api.Span{of(0, 0, most64)}, most64},
	} {
		if got := span.Top(x.l); got != x.want {
			t.Errorf("Top of %v: %d, want %d", x.l, got, x.want)
		}
	}
}

// parts are what the chapter says of l's bytes, number by number, by the library.
func parts(l []api.Span) [][]byte {
	out := [][]byte{binary.AppendVarint(nil, int64(len(l)))}
	for _, s := range l {
		for _, n := range []int64{int64(s.Epoch), s.From, s.To} {
			out = append(out, binary.AppendVarint(nil, n))
		}
	}
	return out
}

// joined are the parts one behind the other.
func joined(l [][]byte) []byte { return bytes.Join(l, nil) }

// startOf is the place at which a part begins.
func startOf(l [][]byte, i int) int { return len(joined(l[:i])) }

// P8.3: known bytes.
func TestBytesKnown(t *testing.T) {
	for _, x := range []struct {
		l    []api.Span
		want string
	}{
		{nil, "\x00"},
		{[]api.Span{}, "\x00"},
		{[]api.Span{of(1, 10, 20)}, "\x02\x02\x14\x28"},
		{[]api.Span{of(1, 0, 1)}, "\x02\x02\x00\x02"},
		{some(), "\x06\x02\x14\x28\x06\x0a\x32\x08\x3c\x50"},
		{[]api.Span{of(64, 63, 64)}, "\x02\x80\x01\x7e\x80\x01"},
		{[]api.Span{of(api.MaxEpoch, 0, api.MaxLSN)}, "\x02\x80\x80\x80\x80\x08\x00\x80\x80\x80\x80\x80\x40"},
	} {
		if got := span.Bytes(x.l...); string(got) != x.want {
			t.Errorf("%v: %q, want %q", x.l, got, x.want)
		}
	}
	if got := span.Bytes(); string(got) != "\x00" {
		t.Errorf("without arguments: %q", got)
	}
}

// P8.3: of right ones what the chapter says, of others nothing.
func TestBytes(t *testing.T) {
	for _, c := range all() {
		short, whole := roomy(c.l)
		before := slices.Clone(whole)
		got := span.Bytes(short...)
		var want []byte
		if c.want == nil {
			want = joined(parts(c.l))
		}
		if !bytes.Equal(got, want) {
			t.Errorf("%s: %q, want %q", c.name, got, want)
		}
		checkThat(t, c.name+", what was handed in", whole, before)
	}
}

// P8.3, P0.4: Bytes hands out new memory.
func TestBytesAreNewMemory(t *testing.T) {
	for _, l := range right() {
		want := joined(parts(l))
		one, two := span.Bytes(l...), span.Bytes(l...)
		one = one[:cap(one)]
		for i := range one {
			one[i] ^= 255
		}
		if !bytes.Equal(two, want) || !bytes.Equal(span.Bytes(l...), want) {
			t.Errorf("%v: an answer is shared", l)
		}
	}
}

// P8.3: Read tells what Bytes was given, and how many bytes that has, whatever is behind it.
func TestReadOfBytes(t *testing.T) {
	for _, l := range right() {
		b := span.Bytes(l...)
		for _, tail := range []string{"", "\x00", "\x05", "\x80", "\xff\xff", string(b), strings.Repeat("\x80", 5000)} {
			got, n, err := span.Read(append(bytes.Clone(b), tail...))
			if !slices.Equal(got, l) || n != len(b) || err != nil {
				t.Errorf("%v with %d bytes behind: %v, %d, %v", l, len(tail), got, n, err)
			}
		}
	}
}

// checkWrong asks that b is read with that error around that place, and nothing beside it.
func checkWrong(t *testing.T, what string, b []byte, at int, want error) {
	t.Helper()
	l, n, err := span.Read(b)
	checkErr(t, what, err, at, want)
	if len(l) > 0 || n != 0 {
		t.Errorf("%s: %v, %d beside an error", what, l, n)
	}
}

// P8.3: spans that are cut anywhere end too early: where the part that is cut begins.
func TestReadEnds(t *testing.T) {
	for _, l := range right() {
		p := parts(l)
		b := joined(p)
		for i, x := range p {
			at := startOf(p, i)
			for k := range x {
				checkWrong(t, "cut", b[:at+k], at, api.ErrEnd)
			}
		}
	}
	checkWrong(t, "none", nil, 0, api.ErrEnd)
	checkWrong(t, "empty", []byte{}, 0, api.ErrEnd)
	checkWrong(t, "fewer than told", []byte{6, 2, 2, 4, 4, 4, 6}, 7, api.ErrEnd)
}

// P8.3: each number has its range: one past either end is met where it begins.
func TestReadRanges(t *testing.T) {
	for _, l := range [][]api.Span{some(), greatest()} {
		for i := range parts(l) {
			outside := []int64{-1, api.MaxLSN + 1}
			switch {
			case i == 0:
				outside = []int64{-1, api.MaxSpans + 1, api.MaxLSN}
			case i%3 == 1:
				outside = []int64{0, -1, api.MaxEpoch + 1, 1<<32 + 1}
			}
			for _, n := range append(outside, math.MinInt64, most64) {
				p := parts(l)
				at := startOf(p, i)
				p[i] = binary.AppendVarint(nil, n)
				checkWrong(t, "out of its range", joined(p), at, api.ErrRange)
				checkWrong(t, "out of its range, and nothing behind", joined(p[:i+1]), at, api.ErrRange)
			}
		}
	}
}

// P8.3: both ends of each range are read: what is wrong with them then is Valid's, around the span.
func TestReadEndsOfRanges(t *testing.T) {
	for _, x := range []struct {
		l    []api.Span
		at   int
		want error
	}{
		{[]api.Span{of(1, 0, 0)}, 0, api.ErrRange},
		{[]api.Span{of(1, 1, 0)}, 0, api.ErrRange},
		{[]api.Span{of(1, 2, 2)}, 0, api.ErrRange},
		{[]api.Span{of(1, api.MaxLSN, 1)}, 0, api.ErrRange},
		{[]api.Span{of(1, api.MaxLSN, api.MaxLSN)}, 0, api.ErrRange},
		{[]api.Span{of(api.MaxEpoch, 0, 1), of(1, 0, 2)}, 1, api.ErrShape},
		{[]api.Span{of(1, 10, 20), of(1, 10, 21)}, 1, api.ErrShape},
		{[]api.Span{of(1, 10, 20), of(2, 10, 20)}, 1, api.ErrShape},
		{[]api.Span{of(1, 10, 20), of(2, 10, 19)}, 1, api.ErrShape},
		{[]api.Span{of(1, 10, 20), of(1, 10, 10)}, 1, api.ErrRange},
		{[]api.Span{of(1, 10, 20), of(2, 9, 21), of(2, 9, 22)}, 2, api.ErrShape},
		{append(rising(api.MaxSpans-1), of(api.MaxSpans, 0, 63)), api.MaxSpans - 1, api.ErrShape},
	} {
		b := joined(parts(x.l))
		checkWrong(t, fmt.Sprint(x.l), b, x.at, x.want)
		checkWrong(t, fmt.Sprint(x.l, " and more"), append(b, 0, 255), x.at, x.want)
	}
}

// P8.3: a number that is written in another way, or has more than 64 bits, isn't of its shape.
func TestReadShape(t *testing.T) {
	for _, l := range [][]api.Span{some(), greatest()} {
		for i := range parts(l) {
			for _, x := range []string{"\x80\x00", "\x82\x80\x00", strings.Repeat("\xff", 9) + "\x02", strings.Repeat("\x80", 10), strings.Repeat("\xff", 300)} {
				p := parts(l)
				at := startOf(p, i)
				p[i] = []byte(x)
				checkWrong(t, "another shape", joined(p), at, api.ErrShape)
				checkWrong(t, "another shape, and nothing behind", joined(p[:i+1]), at, api.ErrShape)
			}
		}
	}
}

// P8.3, P0.2: the first error is told: the reader's, of all the numbers, ahead of Valid's.
func TestReadInOrder(t *testing.T) {
	p := parts([]api.Span{of(1, 2, 2), of(1, 3, 4), of(2, 3, 5)})
	checkWrong(t, "From at To, epoch as ahead", joined(p), 0, api.ErrRange)
	checkWrong(t, "and cut", joined(p[:9]), 9, api.ErrEnd)
	p[9] = []byte{0x80, 0}
	checkWrong(t, "and To of another shape", joined(p), 9, api.ErrShape)
	p[8] = []byte{1}
	checkWrong(t, "and From -1", joined(p), 8, api.ErrRange)
	p[4] = []byte{0}
	checkWrong(t, "and epoch 0", joined(p), 4, api.ErrRange)
	p[0] = []byte{0x82, 1}
	checkWrong(t, "and too many", joined(p), 0, api.ErrRange)
}

// P8.3: too many is the reader's error, as how many there may be is a range.
func TestReadMany(t *testing.T) {
	checkWrong(t, "MaxSpans + 1", joined(parts(rising(api.MaxSpans+1))), 0, api.ErrRange)
	l, n, err := span.Read(joined(parts(rising(api.MaxSpans))))
	if err != nil || len(l) != api.MaxSpans || n != 2+3*api.MaxSpans+2 { // 64 takes two bytes: how many, the last epoch, the last To
		t.Errorf("MaxSpans: %d, %d, %v", len(l), n, err)
	}
}

// P8.3, P0.4: Read leaves what it is given, reads nothing behind it, and hands out new memory.
func TestReadSharesNothing(t *testing.T) {
	for _, l := range right() {
		whole := append(joined(parts(l)), 0x5a, 0x80, 0, 2, 2, 4)
		b, before := whole[:len(whole)-6], bytes.Clone(whole)
		one, _, _ := span.Read(b)
		two, _, _ := span.Read(b)
		scribble(one)
		checkThat(t, "another answer", two, l)
		if !bytes.Equal(whole, before) {
			t.Errorf("%v: written to", l)
		}
		clear(whole)
		checkThat(t, "what it was read from counts later", two, l)
		b = append(before[:0:0], before[:len(b)]...)
		for k := range b {
			if _, _, err := span.Read(b[:k]); !errors.Is(err, api.ErrEnd) {
				t.Errorf("%v cut at %d: %v", l, k, err)
			}
		}
	}
}

// P8.3: Fields goes on where a reader is, is not Valid's, and its errors are that reader's.
func TestFields(t *testing.T) {
	for _, l := range append(right(), []api.Span{of(2, 9, 9), of(2, 5, 4)}) {
		p := parts(l)
		b := append(joined(p), 7)
		in := wire.NewReader(append([]byte{4, 6}, b...))
		in.Num(2, 2)
		in.Num(3, 3)
		got := span.Fields(in)
		checkThat(t, "Fields", got, l)
		if in.Err() != nil || in.At() != 1+len(b) || in.Left() != 1 {
			t.Errorf("%v: %v, at %d", l, in.Err(), in.At())
		}
		in = wire.NewReader(b[:len(b)-2])
		span.Fields(in)
		checkErr(t, "cut", in.Err(), startOf(p, len(p)-1), api.ErrEnd)
	}
}
