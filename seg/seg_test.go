package seg_test

import (
	"bytes"
	"errors"
	"fmt"
	"math"
	"slices"
	"testing"

	"sextet/api"
	"sextet/conf"
	"sextet/disk"
	"sextet/hot"
	"sextet/msg"
	"sextet/page"
	"sextet/redo"
	"sextet/seg"
	"sextet/slog"
)

// The copies here are node self of group, in life inc of their disk; head asks them.
const (
	group = 1
	self  = 6
	inc   = 5
	head  = 60
)

// rec is a record that puts its own key at the end of page 1.
func rec(lsn, back int64, epoch int) api.Redo {
	return api.Redo{
		LSN: lsn, Back: back, Epoch: epoch, Group: group, Page: 1, Kind: api.Insert, Slot: api.MaxEntries,
		Key: fmt.Appendf(nil, "%d", lsn), Value: []byte("value"), Last: lsn%2 == 0,
	}
}

// chain are the records from one LSN to another one, each the Back of the next.
func chain(from, to int64, epoch int) []api.Redo {
	var out []api.Redo
	for lsn := from; lsn <= to; lsn++ {
		out = append(out, rec(lsn, lsn-1, epoch))
	}
	return out
}

// with is r, changed.
func with(r api.Redo, do func(r *api.Redo)) api.Redo {
	r = redo.Clone(r)
	do(&r)
	return r
}

// list is its arguments.
func list(recs ...api.Redo) []api.Redo { return recs }

// cut is a span, alone.
func cut(epoch int, from, to int64) []api.Span {
	return []api.Span{{Epoch: epoch, From: from, To: to}}
}

// made is a disk of so many blocks.
func made(t *testing.T, blocks int) *disk.Disk {
	t.Helper()
	d, err := disk.New(blocks)
	if err != nil {
		t.Fatal(err)
	}
	return d
}

// ok asks that calls did well.
func ok(t *testing.T, errs ...error) {
	t.Helper()
	for i, err := range errs {
		if err != nil {
			t.Fatalf("call %d: %v", i, err)
		}
	}
}

// laid lets do work on the log of a disk, ahead of any copy.
func laid(t *testing.T, d *disk.Disk, do func(l *slog.Log)) {
	t.Helper()
	l, err := slog.Open(d, group)
	ok(t, err)
	do(l)
}

// risen is the copy on a disk.
func risen(t *testing.T, d *disk.Disk) *seg.Seg {
	t.Helper()
	s, err := seg.New(self, group, d, inc)
	if s == nil || err != nil {
		t.Fatalf("New: %v", err)
	}
	return s
}

// blank is a copy on a disk that had nothing.
func blank(t *testing.T) (*seg.Seg, *disk.Disk) {
	t.Helper()
	d := made(t, 500)
	return risen(t, d), d
}

// whole is a copy that was whole at its birth, and promised and installed these epochs.
func whole(t *testing.T, promised, installed int, recs ...api.Redo) (*seg.Seg, *disk.Disk) {
	t.Helper()
	d := made(t, 500)
	laid(t, d, func(l *slog.Log) {
		ok(t, l.Born(inc, true))
		if installed > 0 {
			ok(t, l.Promise(installed), l.Install(installed, nil, nil))
		}
		ok(t, l.Promise(promised))
		_, err := l.Records(recs...)
		ok(t, err)
	})
	return risen(t, d), d
}

// to is m on its way to a copy.
func to(s *seg.Seg, m api.Msg) api.Msg {
	m.To, m.Group = s.ID(), s.Group()
	return m
}

// answer is what a copy answers m (of head, if it tells of nobody), without what each answer has, which must be right; the zero message is nothing.
func answer(t *testing.T, s *seg.Seg, m api.Msg) api.Msg {
	t.Helper()
	m = to(s, m)
	if m.From == 0 {
		m.From = head
	}
	l, err := s.Handle(m)
	ok(t, err)
	if len(l) == 0 {
		return api.Msg{}
	}
	x := l[0]
	if len(l) > 1 || msg.Valid(x) != nil || x.From != s.ID() || x.To != m.From || x.Group != s.Group() || x.Seq != m.Seq {
		t.Fatalf("the answer to %v is %v", m, l)
	}
	x.From, x.To, x.Group, x.Seq = 0, 0, 0, 0
	return x
}

// told asks for that answer to m.
func told(t *testing.T, what string, s *seg.Seg, m, want api.Msg) {
	t.Helper()
	if got := answer(t, s, m); !msg.Same(got, want) {
		t.Errorf("%s: the answer is %v, want %v", what, got, want)
	}
}

// look is all that a copy tells of itself, as text.
func look(s *seg.Seg) string {
	return fmt.Sprint(s.ID(), s.Group(), s.State(), slices.Collect(s.Hot().All()))
}

// same is whether two copies are the same, and their records are cut by the same spans.
func same(a, b *seg.Seg) bool { return look(a) == look(b) && a.Hot().Same(b.Hot()) }

// still asks for that answer to m, that nothing changes, and that the disk has nothing to do.
func still(t *testing.T, what string, s *seg.Seg, d *disk.Disk, m, want api.Msg) {
	t.Helper()
	was, calls := look(s), d.Calls()
	told(t, what, s, m, want)
	if look(s) != was || d.Calls() != calls {
		t.Errorf("%s: it changed what is there: %s, %d calls", what, look(s), d.Calls()-calls)
	}
}

// has asks for what State tells, that the records are those of these LSNs, and that all of it is on the disk.
func has(t *testing.T, what string, s *seg.Seg, d *disk.Disk, st slog.State, lsns ...int64) {
	t.Helper()
	if got := s.State(); fmt.Sprint(got) != fmt.Sprint(st) {
		t.Errorf("%s: State is %v, want %v", what, got, st)
	}
	var got []int64
	for r := range s.Hot().All() {
		got = append(got, r.LSN)
	}
	if !slices.Equal(got, lsns) {
		t.Errorf("%s: there are %v, want %v", what, got, lsns)
	}
	kept(t, what, s, d)
}

// kept asks that all that a copy has is on its disk, and outlives a crash.
func kept(t *testing.T, what string, s *seg.Seg, d *disk.Disk) {
	t.Helper()
	other := d.Clone()
	other.Crash()
	again, err := seg.New(s.ID(), s.Group(), other, 77)
	ok(t, err)
	if !same(again, s) {
		t.Errorf("%s: on the disk is %s, want %s", what, look(again), look(s))
	}
}

// old is a configuration of nodes 0 to 5; next has node self in the place of 5 beside them.
func old() api.Config { return api.Config{Old: []int{0, 1, 2, 3, 4, 5}} }

func next() api.Config {
	return api.Config{Epoch: 1, Old: []int{0, 1, 2, 3, 4, 5}, New: []int{0, 1, 2, 3, 4, self}}
}

// ticked is what a Tick answers.
func ticked(t *testing.T, s *seg.Seg, c api.Config) []api.Msg {
	t.Helper()
	l, err := s.Tick(c)
	ok(t, err)
	return l
}

// asks wants m, from a copy and of its group, to each of the nodes.
func asks(t *testing.T, what string, s *seg.Seg, got []api.Msg, m api.Msg, nodes ...int) {
	t.Helper()
	var want []api.Msg
	for _, node := range nodes {
		m.From, m.To, m.Group = s.ID(), node, s.Group()
		want = append(want, m)
	}
	if !slices.EqualFunc(got, want, msg.Same) {
		t.Errorf("%s: %v, want %v", what, got, want)
	}
}

// account is a Whole of that node, of what is promised, installed, and the Floor.
func account(from, promised, installed int, floor int64, recs ...api.Redo) api.Msg {
	return api.Msg{Kind: api.Whole, From: from, Seq: inc, Epoch: promised, At: int64(installed), LSN: floor, Recs: recs}
}

// listens hands a blank copy accounts.
func listens(t *testing.T, s *seg.Seg, l ...api.Msg) {
	t.Helper()
	for _, m := range l {
		if out, err := s.Handle(to(s, m)); len(out) > 0 || err != nil {
			t.Fatalf("a Whole of %d: %v, %v", m.From, out, err)
		}
	}
}

// P13.1: numbers that are not right, on both sides of their limits.
func TestNewRange(t *testing.T) {
	for _, x := range []struct {
		id, group int
		want      error
	}{
		{0, 0, nil}, {api.MaxNodes - 1, api.MaxGroups - 1, nil}, {self, group, nil},
		{-1, 0, api.ErrRange}, {api.MaxNodes, 0, api.ErrRange}, {math.MinInt, 0, api.ErrRange}, {math.MaxInt, 3, api.ErrRange},
		{0, -1, api.ErrRange}, {0, api.MaxGroups, api.ErrRange}, {1, math.MinInt, api.ErrRange}, {1, math.MaxInt, api.ErrRange},
		{-1, -1, api.ErrRange},
	} {
		for _, down := range []bool{false, true} {
			d := made(t, 9)
			want := x.want
			if down {
				d.Arm(1)
				_ = d.Sync()
				if want == nil {
					want = api.ErrCrash
				}
			}
			s, err := seg.New(x.id, x.group, d, inc)
			if err != want || (s == nil) != (want != nil) {
				t.Errorf("New(%d, %d) on a disk that is down %v: %v, want %v", x.id, x.group, down, err, want)
			}
			if err != nil && d.Calls() > 0 {
				t.Error("a New that is refused writes")
			}
			if err == nil && (s.ID() != x.id || s.Group() != x.group) {
				t.Error("ID", s.ID(), "Group", s.Group())
			}
		}
	}
}

// P13.1: on a disk that has nothing it is born, blank; the numbers of a birth are slog's.
func TestNewBorn(t *testing.T) {
	for _, x := range []struct {
		inc  int
		want error
	}{{1, nil}, {inc, nil}, {1 << 30, nil}, {0, api.ErrRange}, {-1, api.ErrRange}, {1<<30 + 1, api.ErrRange}, {math.MinInt, api.ErrRange}, {math.MaxInt, api.ErrRange}} {
		d := made(t, 9)
		s, err := seg.New(self, group, d, x.inc)
		if err != x.want || (s == nil) != (err != nil) {
			t.Fatalf("New of Inc %d: %v, want %v", x.inc, err, x.want)
		}
		if err != nil {
			if d.Calls() > 0 {
				t.Error("a New that is refused writes")
			}
			continue
		}
		has(t, "born", s, d, slog.State{Inc: x.inc})
	}
	// One that fails has done nothing that a later one could tell.
	for n := 1; n <= 2; n++ {
		d := made(t, 9)
		d.Arm(n)
		if s, err := seg.New(self, group, d, 3); s != nil || err != api.ErrCrash {
			t.Errorf("armed %d: %v", n, err)
		}
		d.Crash()
		s, err := seg.New(self, group, d, 4)
		ok(t, err)
		has(t, "behind a crash", s, d, slog.State{Inc: 4})
	}
	// A call that told nothing left nothing.
	d := made(t, 9)
	laid(t, d, func(l *slog.Log) { ok(t, l.Install(0, nil, nil)) })
	has(t, "behind a call that did nothing", risen(t, d), d, slog.State{Inc: inc})
}

// P13.1: on a disk that has something New goes on with that, whatever Inc it is handed.
func TestNewThere(t *testing.T) {
	for what, do := range map[string]func(l *slog.Log) error{
		"whole":    func(l *slog.Log) error { return l.Born(2, true) },
		"blank":    func(l *slog.Log) error { return l.Born(3, false) },
		"promised": func(l *slog.Log) error { return l.Promise(1) },
		"a floor":  func(l *slog.Log) error { return l.Floor(1) },
		"spans":    func(l *slog.Log) error { return l.Install(0, cut(1, 2, 3), nil) },
		"records":  func(l *slog.Log) error { _, err := l.Records(chain(1, 3, 0)...); return err },
		"all of it": func(l *slog.Log) error {
			return errors.Join(l.Born(9, false), l.Hydrate(slog.State{Promise: 4, Installed: 3, Floor: 1, Spans: cut(3, 2, 60)}, chain(1, 2, 0)))
		},
		"gaps, dead": func(l *slog.Log) error { return l.Install(0, cut(4, 5, 9), list(rec(2, 1, 3), rec(6, 5, 3))) },
	} {
		for _, n := range []int{inc, 0, -1, math.MaxInt} {
			d := made(t, 60)
			var st slog.State
			var h *hot.Log
			laid(t, d, func(l *slog.Log) {
				ok(t, do(l))
				st, h = l.State(), l.Hot()
			})
			calls := d.Calls()
			s, err := seg.New(self, group, d, n)
			if err != nil || fmt.Sprint(s.State()) != fmt.Sprint(st) || !s.Hot().Same(h) || d.Calls() != calls {
				t.Errorf("%s: %v, %v, want %v", what, err, s.State(), st)
			}
		}
	}
	// Open's errors go up.
	_, d := whole(t, 0, 0, rec(1, 0, 0))
	if s, err := seg.New(self, group+1, d, inc); s != nil || !errors.Is(err, api.ErrShape) {
		t.Errorf("of another group: %v", err)
	}
	d.Arm(1)
	_ = d.Sync()
	if s, err := seg.New(self, group, d, inc); s != nil || err != api.ErrCrash {
		t.Errorf("on a disk that is down: %v", err)
	}
}

// The chapter's example: a Write of epoch 0 to one that was whole at its birth is answered by an Ack.
func TestExample(t *testing.T) {
	s, d := whole(t, 0, 0)
	told(t, "of a record", s, api.Msg{Kind: api.Write, Recs: chain(1, 1, 0)}, api.Msg{Kind: api.Ack, Inc: inc, LSN: 1})
	has(t, "then", s, d, slog.State{Inc: inc, Whole: true}, 1)
}

// P13.2: what is not valid, not to it, or of another group, is answered by nothing, and does nothing.
func TestNotItsOwn(t *testing.T) {
	for kind := api.Write; kind <= api.Floor; kind++ {
		for i, do := range []func(m *api.Msg){
			func(m *api.Msg) { m.To = self + 1 }, func(m *api.Msg) { m.To = 0 },
			func(m *api.Msg) { m.Group = 0 }, func(m *api.Msg) { m.Group = group + 1 },
			func(m *api.Msg) { m.Kind = 0 }, func(m *api.Msg) { m.Kind += 15 }, func(m *api.Msg) { m.Kind -= 15 },
			func(m *api.Msg) { m.From = -1 }, func(m *api.Msg) { m.From = api.MaxNodes },
			func(m *api.Msg) { m.Page = api.MaxPages }, func(m *api.Msg) { m.LSN = -1 }, func(m *api.Msg) { m.At = api.MaxLSN + 1 },
			func(m *api.Msg) { m.Done = -1 }, func(m *api.Msg) { m.Recs = append(m.Recs, api.Redo{}) },
			func(m *api.Msg) { m.Recs = make([]api.Redo, api.MaxRecs+1) },
			func(m *api.Msg) { m.Spans = append(m.Spans, api.Span{}) }, func(m *api.Msg) { m.Body.Next = api.MaxPages },
		} {
			a, da := whole(t, 2, 2, chain(1, 3, 2)...)
			b, db := blank(t)
			for s, d := range map[*seg.Seg]*disk.Disk{a: da, b: db} {
				m := to(s, api.Msg{Kind: kind, Epoch: 2, Inc: inc, Seq: inc, LSN: 1, Recs: chain(4, 5, 2)})
				do(&m)
				was, calls := look(s), d.Calls()
				if l, err := s.Handle(m); len(l) > 0 || err != nil {
					t.Errorf("kind %d, %d: %v, %v", kind, i, l, err)
				}
				if look(s) != was || d.Calls() != calls {
					t.Errorf("kind %d, %d: it did something", kind, i)
				}
			}
		}
	}
}

// P13.2: a Whole that is not to it, or not valid, is not kept either.
func TestNotKept(t *testing.T) {
	s, _ := blank(t)
	listens(t, s, account(0, 1, 0, 0), account(1, 1, 0, 0))
	for _, do := range []func(m *api.Msg){
		func(m *api.Msg) { m.To = self + 1 }, func(m *api.Msg) { m.Group = 0 }, func(m *api.Msg) { m.Done = -1 },
	} {
		m := to(s, account(2, 1, 0, 0))
		do(&m)
		if l, err := s.Handle(m); len(l) > 0 || err != nil {
			t.Error(l, err)
		}
	}
	ticked(t, s, old())
	if s.State().Whole {
		t.Error("it took what was not to it")
	}
	listens(t, s, account(2, 1, 0, 0))
	ticked(t, s, old())
	if !s.State().Whole {
		t.Error("it is not whole")
	}
}

// P13.2: a blank one answers nothing, whatever is asked, and does nothing.
func TestBlank(t *testing.T) {
	s, d := blank(t)
	for kind := api.Write; kind <= api.Floor; kind++ {
		for epoch := range 3 {
			for _, seq := range []int{inc, inc + 1, 0} {
				still(t, msg.Name(kind), s, d, api.Msg{Kind: kind, Epoch: epoch, Inc: inc, Seq: seq, LSN: 1, Recs: chain(1, 3, 0)}, api.Msg{})
			}
		}
	}
	has(t, "then", s, d, slog.State{Inc: inc})
	// So it is for one that has something on its disk, and is not whole.
	d = made(t, 60)
	laid(t, d, func(l *slog.Log) {
		ok(t, l.Born(inc, false), l.Promise(2), l.Install(2, nil, chain(1, 9, 1)))
	})
	s = risen(t, d)
	for kind := api.Write; kind <= api.Floor; kind++ {
		for epoch := 1; epoch <= 3; epoch++ {
			still(t, msg.Name(kind), s, d, api.Msg{Kind: kind, Epoch: epoch, Inc: inc, LSN: 1, Recs: chain(10, 12, 1)}, api.Msg{})
		}
	}
}

// P13.2: a Write goes by its epoch.
func TestWriteEpochs(t *testing.T) {
	for _, x := range []struct {
		promised, installed, epoch int
		want                       int
	}{
		{0, 0, 0, api.Ack}, {0, 0, 1, 0}, {2, 2, 2, api.Ack}, {2, 2, 3, 0}, {2, 2, 1, api.Refuse}, {2, 2, 0, api.Refuse},
		{2, 0, 2, 0}, {2, 0, 0, api.Refuse}, {2, 0, 1, api.Refuse}, {2, 0, 3, 0}, {3, 2, 2, api.Refuse}, {3, 2, 3, 0},
		{api.MaxEpoch, api.MaxEpoch, api.MaxEpoch, api.Ack}, {api.MaxEpoch, 0, api.MaxEpoch, 0}, {api.MaxEpoch, api.MaxEpoch, api.MaxEpoch - 1, api.Refuse},
	} {
		s, d := whole(t, x.promised, x.installed)
		m := api.Msg{Kind: api.Write, Epoch: x.epoch, Seq: 9, Recs: chain(1, 2, x.epoch)}
		what := fmt.Sprint(x)
		switch x.want {
		case api.Ack:
			told(t, what, s, m, api.Msg{Kind: api.Ack, Epoch: x.epoch, Inc: inc, LSN: 2})
			has(t, what, s, d, slog.State{Promise: x.promised, Installed: x.installed, Inc: inc, Whole: true}, 1, 2)
		case api.Refuse:
			still(t, what, s, d, m, api.Msg{Kind: api.Refuse, Epoch: x.promised, Inc: inc})
		default:
			still(t, what, s, d, m, api.Msg{})
		}
	}
	// One that has more installed than it promised, as no copy makes itself.
	d := made(t, 60)
	laid(t, d, func(l *slog.Log) {
		ok(t, l.Born(inc, false), l.Hydrate(slog.State{Promise: 1, Installed: 2}, nil))
	})
	s := risen(t, d)
	still(t, "promised", s, d, api.Msg{Kind: api.Write, Epoch: 1, Recs: chain(1, 1, 1)}, api.Msg{})
	still(t, "installed", s, d, api.Msg{Kind: api.Write, Epoch: 2, Recs: chain(1, 1, 2)}, api.Msg{})
	still(t, "an Install of less", s, d, api.Msg{Kind: api.Install, Epoch: 1, Inc: inc}, api.Msg{Kind: api.Done, Epoch: 1, Inc: inc})
}

// P13.2: which records of a Write count.
func TestWriteRecords(t *testing.T) {
	s, d := whole(t, 2, 2, rec(1, 0, 0), rec(2, 1, 2))
	st := s.State()
	other := with(rec(3, 2, 2), func(r *api.Redo) { r.Group = 0 })
	still(t, "of others", s, d, api.Msg{Kind: api.Write, Epoch: 2, Recs: list(rec(3, 2, 1), rec(3, 2, 3), rec(3, 2, 0), other)}, api.Msg{Kind: api.Ack, Epoch: 2, Inc: inc, LSN: 2})
	still(t, "of none", s, d, api.Msg{Kind: api.Write, Epoch: 2}, api.Msg{Kind: api.Ack, Epoch: 2, Inc: inc, LSN: 2})
	still(t, "of what is there", s, d, api.Msg{Kind: api.Write, Epoch: 2, Recs: list(rec(2, 1, 2))}, api.Msg{Kind: api.Ack, Epoch: 2, Inc: inc, LSN: 2})
	still(t, "of another one", s, d, api.Msg{Kind: api.Write, Epoch: 2, Recs: list(rec(2, 0, 2), rec(1, 0, 2))}, api.Msg{Kind: api.Ack, Epoch: 2, Inc: inc, LSN: 2})
	// Those that count are taken beside them; of two of one LSN the first; behind a gap, too.
	told(t, "of all kinds", s, api.Msg{Kind: api.Write, Epoch: 2, Recs: list(
		other, rec(4, 3, 1), rec(6, 5, 2), rec(2, 0, 2), rec(3, 2, 2), rec(3, 1, 2), rec(3, 2, 2), rec(7, 6, 3),
	)}, api.Msg{Kind: api.Ack, Epoch: 2, Inc: inc, LSN: 3})
	has(t, "then", s, d, st, 1, 2, 3, 6)
	if r, _ := s.Hot().Get(3); r.Back != 2 {
		t.Error(r)
	}
	told(t, "the gap", s, api.Msg{Kind: api.Write, Epoch: 2, Recs: chain(4, 5, 2)}, api.Msg{Kind: api.Ack, Epoch: 2, Inc: inc, LSN: 6})
	// What is dead is not taken: a span of a greater epoch may be installed.
	told(t, "promise", s, api.Msg{Kind: api.Prepare, Epoch: 3}, api.Msg{Kind: api.Promise, Epoch: 3, Inc: inc, At: 2, Recs: slices.Collect(s.Hot().All())})
	told(t, "install", s, api.Msg{Kind: api.Install, Epoch: 3, Inc: inc, Spans: cut(4, 4, 9)}, api.Msg{Kind: api.Done, Epoch: 3, Inc: inc, LSN: 4})
	still(t, "of what is dead", s, d, api.Msg{Kind: api.Write, Epoch: 3, Recs: chain(5, 9, 3)}, api.Msg{Kind: api.Ack, Epoch: 3, Inc: inc, LSN: 4})
	told(t, "behind it", s, api.Msg{Kind: api.Write, Epoch: 3, Recs: list(rec(10, 4, 3), rec(9, 4, 3))}, api.Msg{Kind: api.Ack, Epoch: 3, Inc: inc, LSN: 10})
	has(t, "at last", s, d, slog.State{Promise: 3, Installed: 3, Inc: inc, Whole: true, Spans: cut(4, 4, 9)}, 1, 2, 3, 4, 10)
}

// full is a copy that has MaxRecs records.
func full(t *testing.T) (*seg.Seg, *disk.Disk) {
	t.Helper()
	d := made(t, api.MaxBlocks)
	laid(t, d, func(l *slog.Log) {
		ok(t, l.Born(inc, true))
		_, err := l.Records(small(1, api.MaxRecs)...)
		ok(t, err)
	})
	return risen(t, d), d
}

// small are the records of epoch 0 from one LSN to another one, of few bytes each.
func small(from, to int64) []api.Redo {
	out := chain(from, to, 0)
	for i := range out {
		out[i].Key, out[i].Value = nil, nil
	}
	return out
}

// fails asks that m is answered by this error, and by nothing, and that nothing changes.
func fails(t *testing.T, what string, s *seg.Seg, m api.Msg, want error) {
	t.Helper()
	was, spans := look(s), s.Hot()
	if l, err := s.Handle(to(s, m)); err != want || l != nil {
		t.Errorf("%s: %v, %v, want %v", what, l, err, want)
	}
	if look(s) != was || !s.Hot().Same(spans) {
		t.Errorf("%s: it changed what is there", what)
	}
}

// P13.2: MaxRecs records: a Write and an Install of one more tell ErrFull, a Fill leaves it out.
func TestFull(t *testing.T) {
	s, d := full(t)
	ack := api.Msg{Kind: api.Ack, Inc: inc, LSN: api.MaxRecs}
	more := small(api.MaxRecs, api.MaxRecs+1)
	still(t, "a Write of those there", s, d, api.Msg{Kind: api.Write, Recs: small(1, api.MaxRecs)}, ack)
	still(t, "a Write of another one", s, d, api.Msg{Kind: api.Write, Recs: list(rec(7, 2, 0))}, ack)
	fails(t, "a Write", s, api.Msg{Kind: api.Write, Recs: more}, api.ErrFull)
	fails(t, "an Install of what is installed", s, api.Msg{Kind: api.Install, Inc: inc, Recs: more}, api.ErrFull)
	still(t, "a Fill", s, d, api.Msg{Kind: api.Fill, Recs: more}, api.Msg{})
	if x := answer(t, s, api.Msg{Kind: api.Hydrate}); len(x.Recs) != api.MaxRecs {
		t.Error("Whole has", len(x.Recs))
	}
	if x := answer(t, s, api.Msg{Kind: api.Prepare, Epoch: 1}); len(x.Recs) != api.MaxRecs {
		t.Error("Promise has", len(x.Recs))
	}
	fails(t, "an Install", s, api.Msg{Kind: api.Install, Epoch: 1, Inc: inc, Recs: more}, api.ErrFull)
	// Where a cut makes room, an Install takes as many.
	told(t, "an Install that cuts", s, api.Msg{Kind: api.Install, Epoch: 1, Inc: inc, Spans: cut(1, api.MaxRecs-2, api.MaxRecs), Recs: list(
		rec(api.MaxRecs+1, api.MaxRecs-2, 1), rec(api.MaxRecs+2, api.MaxRecs+1, 1))},
		api.Msg{Kind: api.Done, Epoch: 1, Inc: inc, LSN: api.MaxRecs + 2})

	// A Fill takes as many as there is room for.
	d = made(t, api.MaxBlocks)
	laid(t, d, func(l *slog.Log) {
		ok(t, l.Born(inc, true))
		_, err := l.Records(small(1, api.MaxRecs-2)...)
		ok(t, err)
	})
	s = risen(t, d)
	fails(t, "a Write of one too many", s, api.Msg{Kind: api.Write, Recs: small(api.MaxRecs-1, api.MaxRecs+1)}, api.ErrFull)
	told(t, "a Fill of one too many", s, api.Msg{Kind: api.Fill, Recs: small(api.MaxRecs-2, api.MaxRecs+1)}, api.Msg{})
	if h := s.Hot(); h.Len() != api.MaxRecs || h.SCL() != api.MaxRecs {
		t.Error(h.Len(), h.SCL())
	}
	kept(t, "full", s, d)
}

// P13.2: a Prepare is a promise, and tells all that is there.
func TestPrepare(t *testing.T) {
	recs := list(rec(1, 0, 0), rec(2, 1, 2), rec(9, 8, 2))
	s, d := whole(t, 2, 2)
	told(t, "write", s, api.Msg{Kind: api.Install, Epoch: 2, Inc: inc, Recs: recs}, api.Msg{Kind: api.Done, Epoch: 2, Inc: inc, LSN: 2})
	told(t, "floor", s, api.Msg{Kind: api.Floor, Epoch: 2, LSN: 1}, api.Msg{})
	st := s.State()
	still(t, "the same epoch", s, d, api.Msg{Kind: api.Prepare, Epoch: 2, Seq: 8}, api.Msg{Kind: api.Promise, Epoch: 2, Inc: inc, At: 2, LSN: 1, Recs: recs})
	still(t, "a lesser one", s, d, api.Msg{Kind: api.Prepare, Epoch: 1, Seq: 8}, api.Msg{Kind: api.Refuse, Epoch: 2, Inc: inc})
	// What a Prepare has beside its epoch doesn't count.
	told(t, "a greater one", s, api.Msg{Kind: api.Prepare, Epoch: 4, Inc: 77, LSN: 9, At: 3, Recs: chain(3, 5, 4), Spans: cut(4, 0, 9)},
		api.Msg{Kind: api.Promise, Epoch: 4, Inc: inc, At: 2, LSN: 1, Recs: recs})
	st.Promise = 4
	has(t, "then", s, d, st, 1, 2, 9)
	still(t, "below it", s, d, api.Msg{Kind: api.Prepare, Epoch: 3}, api.Msg{Kind: api.Refuse, Epoch: 4, Inc: inc})
	told(t, "an install", s, api.Msg{Kind: api.Install, Epoch: 4, Inc: inc, Spans: cut(4, 2, 90)}, api.Msg{Kind: api.Done, Epoch: 4, Inc: inc, LSN: 2})
	told(t, "the greatest", s, api.Msg{Kind: api.Prepare, Epoch: api.MaxEpoch},
		api.Msg{Kind: api.Promise, Epoch: api.MaxEpoch, Inc: inc, At: 4, LSN: 1, Spans: cut(4, 2, 90), Recs: recs[:2]})
	still(t, "beyond", s, d, api.Msg{Kind: api.Prepare, Epoch: api.MaxEpoch + 1}, api.Msg{})
	has(t, "at last", s, d, slog.State{Promise: api.MaxEpoch, Installed: 4, Inc: inc, Whole: true, Floor: 1, Spans: cut(4, 2, 90)}, 1, 2)
	s, d = whole(t, 0, 0)
	still(t, "of epoch 0", s, d, api.Msg{Kind: api.Prepare}, api.Msg{Kind: api.Promise, Inc: inc})
}

// P13.2: an Install goes by its Inc, then by its epoch.
func TestInstallEpochs(t *testing.T) {
	for _, x := range []struct {
		promised, installed, epoch, inc int
		want                            int
	}{
		{2, 0, 2, inc, api.Done}, {2, 1, 2, inc, api.Done}, {2, 2, 2, inc, api.Done}, {0, 0, 0, inc, api.Done},
		{2, 0, 2, inc - 1, 0}, {2, 0, 2, inc + 1, 0}, {2, 0, 2, 0, 0}, {2, 0, 1, inc + 1, 0}, {0, 0, 0, 0, 0},
		{2, 0, 1, inc, api.Refuse}, {2, 1, 1, inc, api.Refuse}, {2, 1, 0, inc, api.Refuse},
		{2, 0, 3, inc, 0}, {0, 0, 1, inc, 0}, {api.MaxEpoch, 0, api.MaxEpoch, inc, api.Done},
	} {
		s, d := whole(t, x.promised, x.installed, chain(1, 2, 0)...)
		m := api.Msg{Kind: api.Install, Epoch: x.epoch, Inc: x.inc, Spans: cut(api.MaxEpoch, 1, 2), Recs: list(rec(3, 1, 0))}
		st := s.State()
		what := fmt.Sprint(x)
		switch {
		case x.want == api.Refuse:
			still(t, what, s, d, m, api.Msg{Kind: api.Refuse, Epoch: x.promised, Inc: inc})
		case x.want == 0:
			still(t, what, s, d, m, api.Msg{})
		case x.epoch == x.installed:
			// Its spans are not taken once more.
			told(t, what, s, m, api.Msg{Kind: api.Done, Epoch: x.epoch, Inc: inc, LSN: 2})
			has(t, what, s, d, st, 1, 2, 3)
		default:
			told(t, what, s, m, api.Msg{Kind: api.Done, Epoch: x.epoch, Inc: inc, LSN: 3})
			st.Installed, st.Spans = x.epoch, m.Spans
			has(t, what, s, d, st, 1, 3)
		}
	}
}

// P13.2: which records of an Install count, the first time, and once it is installed.
func TestInstallRecords(t *testing.T) {
	other := with(rec(2, 1, 2), func(r *api.Redo) { r.Group = 0 })
	for _, installed := range []int{1, 2} {
		s, d := whole(t, 2, installed, rec(1, 0, 0), rec(5, 4, 1))
		st := s.State()
		st.Installed = 2
		m := api.Msg{Kind: api.Install, Epoch: 2, Inc: inc, Recs: list(
			other, rec(2, 1, 3), rec(1, 0, 1), rec(3, 2, 2), rec(3, 1, 2), rec(4, 3, 1), rec(5, 3, 2), rec(6, 5, 0), rec(6, 5, 0),
		)}
		told(t, "Install", s, m, api.Msg{Kind: api.Done, Epoch: 2, Inc: inc, LSN: 1})
		has(t, "Install", s, d, st, 1, 3, 4, 5, 6)
		if r, _ := s.Hot().Get(3); r.Back != 2 {
			t.Error(r)
		}
		if r, _ := s.Hot().Get(5); r.Epoch != 1 {
			t.Error(r)
		}
		still(t, "once more", s, d, m, api.Msg{Kind: api.Done, Epoch: 2, Inc: inc, LSN: 1})
		still(t, "of others", s, d, api.Msg{Kind: api.Install, Epoch: 2, Inc: inc, Recs: list(other, rec(2, 1, 3))}, api.Msg{Kind: api.Done, Epoch: 2, Inc: inc, LSN: 1})
		told(t, "the gap", s, api.Msg{Kind: api.Install, Epoch: 2, Inc: inc, Recs: list(rec(2, 1, 0))}, api.Msg{Kind: api.Done, Epoch: 2, Inc: inc, LSN: 6})
	}
	// What the spans have dead is gone, and is not taken: neither then, nor later.
	s, d := whole(t, 2, 0, chain(1, 4, 0)...)
	m := api.Msg{Kind: api.Install, Epoch: 2, Inc: inc, Spans: cut(2, 2, 50), Recs: list(rec(3, 2, 1), rec(4, 2, 2), rec(51, 4, 2))}
	told(t, "of a cut", s, m, api.Msg{Kind: api.Done, Epoch: 2, Inc: inc, LSN: 51})
	still(t, "of the dead", s, d, api.Msg{Kind: api.Install, Epoch: 2, Inc: inc, Recs: list(rec(3, 2, 1), rec(50, 2, 0))}, api.Msg{Kind: api.Done, Epoch: 2, Inc: inc, LSN: 51})
	has(t, "then", s, d, slog.State{Promise: 2, Installed: 2, Inc: inc, Whole: true, Spans: cut(2, 2, 50)}, 1, 2, 4, 51)
	// A next one's spans come in place of these.
	told(t, "promise", s, api.Msg{Kind: api.Prepare, Epoch: 3}, api.Msg{Kind: api.Promise, Epoch: 3, Inc: inc, At: 2, Spans: cut(2, 2, 50), Recs: list(rec(1, 0, 0), rec(2, 1, 0), rec(4, 2, 2), rec(51, 4, 2))})
	told(t, "other spans", s, api.Msg{Kind: api.Install, Epoch: 3, Inc: inc, Spans: cut(3, 4, 99), Recs: list(rec(3, 2, 1))}, api.Msg{Kind: api.Done, Epoch: 3, Inc: inc, LSN: 4})
	has(t, "at last", s, d, slog.State{Promise: 3, Installed: 3, Inc: inc, Whole: true, Spans: cut(3, 4, 99)}, 1, 2, 3, 4)
}

// P13.2: a Read is of what is installed, of what it has, and not ahead of its Floor.
func TestRead(t *testing.T) {
	recs := chain(1, 5, 2)
	recs[3].Page = 7
	s, d := whole(t, 2, 2, recs...)
	told(t, "floor", s, api.Msg{Kind: api.Floor, Epoch: 2, LSN: 2}, api.Msg{})
	body := func(id int, l ...api.Redo) api.Page { return page.All(page.New(id), l...) }
	for _, x := range []struct {
		what    string
		m, want api.Msg
	}{
		{"below", api.Msg{Epoch: 1, Page: 1, At: 5}, api.Msg{Kind: api.Refuse, Epoch: 2, Inc: inc}},
		{"below, and more wrong", api.Msg{Epoch: 0, Page: 1, At: 1, LSN: 6}, api.Msg{Kind: api.Refuse, Epoch: 2, Inc: inc}},
		{"above", api.Msg{Epoch: 3, Page: 1, At: 5}, api.Msg{Kind: api.Behind, Epoch: 3, Page: 1, At: 5}},
		{"all of it", api.Msg{Epoch: 2, Page: 1, At: 5, LSN: 5}, api.Msg{Kind: api.Give, Epoch: 2, Page: 1, At: 5, Body: body(1, recs...)}},
		{"as it was", api.Msg{Epoch: 2, Page: 1, At: 3}, api.Msg{Kind: api.Give, Epoch: 2, Page: 1, At: 3, Body: body(1, recs[:3]...)}},
		{"at the floor", api.Msg{Epoch: 2, Page: 1, At: 2, LSN: 5}, api.Msg{Kind: api.Give, Epoch: 2, Page: 1, At: 2, Body: body(1, recs[:2]...)}},
		{"ahead of it", api.Msg{Epoch: 2, Page: 1, At: 1}, api.Msg{Kind: api.Behind, Epoch: 2, Page: 1, At: 1}},
		{"beyond what it has", api.Msg{Epoch: 2, Page: 1, At: 5, LSN: 6}, api.Msg{Kind: api.Behind, Epoch: 2, Page: 1, At: 5}},
		{"later than all", api.Msg{Epoch: 2, Page: 7, At: api.MaxLSN}, api.Msg{Kind: api.Give, Epoch: 2, Page: 7, At: api.MaxLSN, Body: body(7, recs...)}},
		{"nothing yet", api.Msg{Epoch: 2, Page: 7, At: 3}, api.Msg{Kind: api.Give, Epoch: 2, Page: 7, At: 3, Body: page.New(7)}},
		{"never anything", api.Msg{Epoch: 2, Page: api.MaxPages - 1, At: 3}, api.Msg{Kind: api.Give, Epoch: 2, Page: api.MaxPages - 1, At: 3, Body: page.New(api.MaxPages - 1)}},
	} {
		x.m.Kind, x.m.Seq = api.Read, 1<<30
		still(t, x.what, s, d, x.m, x.want)
	}
	told(t, "promise", s, api.Msg{Kind: api.Prepare, Epoch: 4}, api.Msg{Kind: api.Promise, Epoch: 4, Inc: inc, At: 2, LSN: 2, Recs: recs})
	still(t, "not installed", s, d, api.Msg{Kind: api.Read, Epoch: 4, Page: 1, At: 5}, api.Msg{Kind: api.Behind, Epoch: 4, Page: 1, At: 5})
	still(t, "installed, below", s, d, api.Msg{Kind: api.Read, Epoch: 2, Page: 1, At: 5}, api.Msg{Kind: api.Refuse, Epoch: 4, Inc: inc})
	// Of the records behind a gap LSN counts none, At those up to it.
	s, d = whole(t, 0, 0, rec(1, 0, 0), rec(3, 2, 0))
	still(t, "a gap", s, d, api.Msg{Kind: api.Read, Page: 1, At: 3, LSN: 3}, api.Msg{Kind: api.Behind, Page: 1, At: 3})
	still(t, "ahead of a gap", s, d, api.Msg{Kind: api.Read, Page: 1, At: 3, LSN: 1}, api.Msg{Kind: api.Give, Page: 1, At: 3, Body: body(1, rec(1, 0, 0), rec(3, 2, 0))})
	still(t, "at 0", s, d, api.Msg{Kind: api.Read, Page: 0}, api.Msg{Kind: api.Give, Body: page.New(0)})
}

// P13.2: an Ask of what is installed has the first eight behind its LSN.
func TestAsk(t *testing.T) {
	recs := append(chain(1, 10, 2), rec(20, 19, 1))
	s, d := whole(t, 2, 2, recs...)
	for lsn, want := range map[int64][]api.Redo{
		0: recs[:8], 1: recs[1:9], 2: recs[2:10], 3: recs[3:], 9: recs[9:], 10: recs[10:], 15: recs[10:], 19: recs[10:], 20: nil, api.MaxLSN: nil,
	} {
		var m api.Msg
		if want != nil {
			m = api.Msg{Kind: api.Fill, Epoch: 2, Recs: want}
		}
		still(t, fmt.Sprint("behind ", lsn), s, d, api.Msg{Kind: api.Ask, From: 3, Epoch: 2, LSN: lsn, Seq: 4}, m)
	}
	still(t, "below", s, d, api.Msg{Kind: api.Ask, Epoch: 1}, api.Msg{})
	still(t, "above", s, d, api.Msg{Kind: api.Ask, Epoch: 3}, api.Msg{})
	// It is what is installed that counts, not what is promised.
	s, d = whole(t, 3, 2, recs...)
	still(t, "installed", s, d, api.Msg{Kind: api.Ask, Epoch: 2, LSN: 9}, api.Msg{Kind: api.Fill, Epoch: 2, Recs: recs[9:]})
	still(t, "promised", s, d, api.Msg{Kind: api.Ask, Epoch: 3, LSN: 9}, api.Msg{})
}

// P13.2: a Fill of what is installed brings what can be taken, of elder epochs too.
func TestFill(t *testing.T) {
	for _, promised := range []int{2, 3} {
		s, d := whole(t, promised, 2, rec(1, 0, 0), rec(5, 4, 1))
		st := s.State()
		other := with(rec(2, 1, 2), func(r *api.Redo) { r.Group = 0 })
		m := api.Msg{Kind: api.Fill, From: 4, Epoch: 2, Recs: list(
			other, rec(2, 1, 3), rec(1, 0, 1), rec(3, 2, 2), rec(3, 1, 2), rec(4, 3, 1), rec(5, 3, 2), rec(6, 5, 0), rec(6, 5, 0),
		)}
		for _, epoch := range []int{0, 1, 3, 4} {
			m.Epoch = epoch
			still(t, "of another epoch", s, d, m, api.Msg{})
		}
		m.Epoch = 2
		told(t, "Fill", s, m, api.Msg{})
		has(t, "Fill", s, d, st, 1, 3, 4, 5, 6)
		if r, _ := s.Hot().Get(3); r.Back != 2 {
			t.Error(r)
		}
		still(t, "once more", s, d, m, api.Msg{})
		still(t, "of others", s, d, api.Msg{Kind: api.Fill, Epoch: 2, Recs: list(other, rec(2, 1, 3))}, api.Msg{})
		still(t, "of none", s, d, api.Msg{Kind: api.Fill, Epoch: 2}, api.Msg{})
		// Spans of a Fill are nothing to it.
		told(t, "the gap", s, api.Msg{Kind: api.Fill, Epoch: 2, Spans: cut(2, 0, 9), Recs: list(rec(2, 1, 0))}, api.Msg{})
		has(t, "then", s, d, st, 1, 2, 3, 4, 5, 6)
	}
	s, d := whole(t, 2, 0, rec(1, 0, 0))
	told(t, "install", s, api.Msg{Kind: api.Install, Epoch: 2, Inc: inc, Spans: cut(2, 1, 9)}, api.Msg{Kind: api.Done, Epoch: 2, Inc: inc, LSN: 1})
	still(t, "of the dead", s, d, api.Msg{Kind: api.Fill, Epoch: 2, Recs: chain(2, 9, 1)}, api.Msg{})
}

// P13.2: a Hydrate is told all that is there, whatever its epoch.
func TestHydrate(t *testing.T) {
	recs := list(rec(1, 0, 0), rec(2, 1, 2), rec(9, 8, 3))
	d := made(t, 60)
	laid(t, d, func(l *slog.Log) {
		ok(t, l.Born(inc, false), l.Hydrate(slog.State{Promise: 5, Installed: 3, Floor: 4, Spans: cut(3, 2, 8)}, recs))
	})
	s := risen(t, d)
	for _, m := range []api.Msg{{}, {Epoch: 9, Inc: 3, LSN: 8}, {Seq: 1 << 30}, {Epoch: 5, Recs: chain(3, 4, 5), Spans: cut(1, 1, 2)}} {
		m.Kind, m.From = api.Hydrate, 2
		still(t, "Hydrate", s, d, m, api.Msg{Kind: api.Whole, Epoch: 5, At: 3, LSN: 4, Spans: cut(3, 2, 8), Recs: recs})
	}
	s, d = whole(t, 0, 0)
	still(t, "of nothing", s, d, api.Msg{Kind: api.Hydrate}, api.Msg{Kind: api.Whole})
}

// P13.2: a Floor of what is installed rises, up to its SCL at most.
func TestFloor(t *testing.T) {
	s, d := whole(t, 3, 2, append(chain(1, 5, 2), rec(9, 8, 2))...)
	st := s.State()
	for _, x := range []struct {
		epoch      int
		lsn, floor int64
	}{{1, 3, 0}, {3, 3, 0}, {0, 3, 0}, {2, 0, 0}, {2, 2, 2}, {2, 1, 2}, {2, 2, 2}, {3, 4, 2}, {2, 4, 4}, {2, 7, 5}, {2, 9, 5}, {2, api.MaxLSN, 5}} {
		m := api.Msg{Kind: api.Floor, Epoch: x.epoch, LSN: x.lsn}
		if st.Floor == x.floor {
			still(t, fmt.Sprint(x), s, d, m, api.Msg{})
			continue
		}
		told(t, fmt.Sprint(x), s, m, api.Msg{})
		st.Floor = x.floor
		has(t, fmt.Sprint(x), s, d, st, 1, 2, 3, 4, 5, 9)
	}
}

// P13.2: the other kinds are nothing to a whole one, whatever they have.
func TestOthers(t *testing.T) {
	for _, kind := range []int{api.Ack, api.Refuse, api.Give, api.Behind, api.Promise, api.Done, api.Whole} {
		for epoch := range 4 {
			s, d := whole(t, 2, 2, chain(1, 3, 2)...)
			still(t, msg.Name(kind), s, d, api.Msg{Kind: kind, Epoch: epoch, Inc: inc, Seq: inc, LSN: 2, Recs: chain(4, 5, 0)}, api.Msg{})
			for _, from := range []int{1, 2, 3} {
				still(t, msg.Name(kind), s, d, api.Msg{Kind: kind, From: from, Epoch: 3, At: 3, Inc: inc, Seq: inc, LSN: 2, Recs: chain(4, 5, 0)}, api.Msg{})
			}
			was := look(s)
			asks(t, "Tick", s, ticked(t, s, old()), api.Msg{Kind: api.Ask, Epoch: 2, LSN: 3}, 0, 1, 2, 3, 4, 5)
			if look(s) != was {
				t.Error("it is another one")
			}
		}
	}
}

// writes are messages that let a whole copy write, one behind the other.
func writes() []api.Msg {
	wide := with(rec(9, 8, 4), func(r *api.Redo) {
		r.Key, r.Value = bytes.Repeat([]byte("k"), api.MaxKey), bytes.Repeat([]byte("v"), api.MaxValue)
	})
	return []api.Msg{
		{Kind: api.Write, Recs: chain(1, 4, 0)},
		{Kind: api.Floor, LSN: 2},
		{Kind: api.Fill, Recs: chain(6, 7, 0)},
		{Kind: api.Prepare, Epoch: 4},
		{Kind: api.Install, Epoch: 4, Inc: inc, Spans: cut(4, 3, 6), Recs: list(rec(7, 3, 4), rec(8, 3, 4))},
		{Kind: api.Install, Epoch: 4, Inc: inc, Recs: list(rec(5, 3, 4), wide)},
		{Kind: api.Write, Epoch: 4, Recs: append(chain(10, 30, 4), rec(3, 1, 4))},
		{Kind: api.Floor, Epoch: 4, LSN: api.MaxLSN},
	}
}

// P13.2, P13.4: an error of the disk goes up, with no answer; what was answered outlives each crash.
func TestDiskFails(t *testing.T) {
	for k, m := range writes() {
		for n := 1; ; n++ {
			s, d := whole(t, 0, 0)
			for _, ahead := range writes()[:k] {
				answer(t, s, ahead)
			}
			was := look(s)
			d.Arm(n)
			l, err := s.Handle(to(s, m))
			if err == nil {
				d.Arm(0)
				if n == 1 {
					t.Fatalf("%d: nothing was written", k)
				}
				kept(t, "done", s, d)
				break
			}
			if err != api.ErrCrash || l != nil || look(s) != was {
				t.Fatalf("%d, armed %d: %v, %v, %s", k, n, l, err, look(s))
			}
			fails(t, "still down", s, m, api.ErrCrash)
			d.Crash()
			kept(t, "behind the crash", s, d)
			// It may go on, too.
			answer(t, s, m)
			kept(t, "anew", s, d)
		}
	}
}

// P13.2: a disk that has no room left: ErrFull goes up, of a Fill, too.
func TestDiskFull(t *testing.T) {
	d := made(t, 1)
	laid(t, d, func(l *slog.Log) { ok(t, l.Born(inc, true)) })
	s := risen(t, d)
	for _, m := range []api.Msg{
		{Kind: api.Write, Recs: chain(1, 1, 0)}, {Kind: api.Fill, Recs: chain(1, 1, 0)},
		{Kind: api.Prepare, Epoch: 1}, {Kind: api.Install, Inc: inc, Recs: chain(1, 1, 0)},
	} {
		fails(t, msg.Name(m.Kind), s, m, api.ErrFull)
	}
	still(t, "nothing to write", s, d, api.Msg{Kind: api.Write}, api.Msg{Kind: api.Ack, Inc: inc})
	still(t, "no floor above nothing", s, d, api.Msg{Kind: api.Floor, LSN: 1}, api.Msg{})
	// A blank one stays blank.
	d = made(t, 1)
	s = risen(t, d)
	listens(t, s, account(0, 0, 0, 0), account(1, 0, 0, 0), account(2, 0, 0, 0))
	if l, err := s.Tick(old()); l != nil || err != api.ErrFull || s.State().Whole {
		t.Error(l, err)
	}
}

// P13.3: conf.Valid's errors come ahead of all.
func TestTickWrong(t *testing.T) {
	for _, c := range []api.Config{
		{}, {Epoch: -1, Old: old().Old}, {Epoch: api.MaxEpoch + 1, Old: old().Old}, {Old: []int{0, 1, 2, 3, 4}}, {Old: []int{0, 1, 2, 3, 4, 4}},
		{Old: []int{0, 1, 2, 3, 4, api.MaxNodes}}, {Old: []int{0, 1, 2, 3, 4, -1}}, {Old: old().Old, New: old().Old}, {Old: old().Old, New: []int{0, 1, 2, 3, 6, 7}},
	} {
		a, da := whole(t, 2, 2, chain(1, 3, 2)...)
		b, db := blank(t)
		listens(t, b, account(0, 0, 0, 0), account(1, 0, 0, 0), account(2, 0, 0, 0))
		for s, d := range map[*seg.Seg]*disk.Disk{a: da, b: db} {
			was, calls := look(s), d.Calls()
			if l, err := s.Tick(c); l != nil || err == nil || err != conf.Valid(c) || look(s) != was || d.Calls() != calls {
				t.Errorf("Tick(%v): %v, %v", c, l, err)
			}
		}
	}
}

// P13.3: whom a Tick asks, and for what.
func TestTickAsks(t *testing.T) {
	mixed := api.Config{Epoch: api.MaxEpoch, Old: []int{63, self, 2, 40, 0, 9}, New: []int{1, 40, 0, self, 63, 2}}
	for what, x := range map[string]struct {
		c     api.Config
		nodes []int
	}{
		"no member":      {old(), []int{0, 1, 2, 3, 4, 5}},
		"a new member":   {next(), []int{0, 1, 2, 3, 4, 5}},
		"an old member":  {api.Config{Old: []int{5, 6, 7, 8, 9, 10}}, []int{5, 7, 8, 9, 10}},
		"one of both":    {mixed, []int{0, 1, 2, 9, 40, 63}},
		"the last nodes": {api.Config{Old: []int{63, 62, 61, 60, 59, 58}}, []int{58, 59, 60, 61, 62, 63}},
	} {
		s, d := blank(t)
		calls := d.Calls()
		for range 2 {
			asks(t, what+", blank", s, ticked(t, s, x.c), api.Msg{Kind: api.Hydrate, Seq: inc}, x.nodes...)
		}
		if d.Calls() != calls {
			t.Errorf("%s: a blank one writes", what)
		}
		s, d = whole(t, 3, 2, append(chain(1, 5, 2), rec(9, 8, 2))...)
		calls = d.Calls()
		for range 2 {
			asks(t, what+", whole", s, ticked(t, s, x.c), api.Msg{Kind: api.Ask, Epoch: 2, LSN: 5}, x.nodes...)
		}
		if d.Calls() != calls {
			t.Errorf("%s: a whole one writes", what)
		}
		s, _ = whole(t, 0, 0)
		asks(t, what+", of nothing", s, ticked(t, s, x.c), api.Msg{Kind: api.Ask}, x.nodes...)
	}
}

// P13.3: how many have to tell, and who.
func TestEnough(t *testing.T) {
	for _, x := range []struct {
		c     api.Config
		nodes []int
		want  bool
	}{
		{old(), nil, false}, {old(), []int{0, 1}, false}, {old(), []int{0, 1, 2}, true}, {old(), []int{5, 3, 1}, true}, {old(), []int{0, 0, 0}, false},
		{old(), []int{0, 1, 2, 3, 4, 5}, true}, {old(), []int{0, 1, 7}, false}, {old(), []int{63, 1, 5, 9, 10, 11}, false}, {old(), []int{7, 8, 9, 10}, false},
		{old(), []int{63, 5, 4, 3}, true}, {next(), []int{0, 1, 5}, true}, {next(), []int{0, 1, self}, false}, {next(), []int{0, 1, self, 2}, true},
		{api.Config{Old: []int{9, 8, 7, 12, 11, 10}}, []int{8, 12, 10}, true}, {api.Config{Old: []int{9, 8, 7, 12, 11, 10}}, []int{13, 6, 9, 8}, false},
		{api.Config{Old: []int{9, 8, 7, self, 11, 10}}, []int{9, self, 8}, true}, // what it were told by itself would be kept, too
	} {
		s, d := blank(t)
		for _, node := range x.nodes {
			listens(t, s, account(node, 3, 2, 0, rec(1, 0, 1)))
		}
		l := ticked(t, s, x.c)
		var others []int
		for _, node := range conf.Members(x.c) {
			if node != self {
				others = append(others, node)
			}
		}
		if s.State().Whole != x.want {
			t.Errorf("%v: whole is %v", x, !x.want)
		}
		if x.want {
			asks(t, "whole", s, l, api.Msg{Kind: api.Ask, Epoch: 2, LSN: 1}, others...)
			has(t, "whole", s, d, slog.State{Promise: 3, Installed: 2, Inc: inc, Whole: true}, 1)
		} else {
			asks(t, "blank", s, l, api.Msg{Kind: api.Hydrate, Seq: inc}, others...)
			has(t, "blank", s, d, slog.State{Inc: inc})
		}
	}
}

// P13.3: it is by the Config that a Tick is handed that an account counts, and by the last of its node.
func TestEnoughLater(t *testing.T) {
	s, d := blank(t)
	for _, node := range []int{9, 0, 30, 1, 20} {
		listens(t, s, account(node, node, 0, 0, rec(int64(node)+1, 0, 0)))
	}
	asks(t, "two of six", s, ticked(t, s, old()), api.Msg{Kind: api.Hydrate, Seq: inc}, 0, 1, 2, 3, 4, 5)
	listens(t, s, account(30, 11, 11, 4, rec(99, 0, 3)))
	ticked(t, s, api.Config{Old: []int{50, 30, 9, 40, 20, 41}})
	has(t, "three of others", s, d, slog.State{Promise: 20, Installed: 11, Inc: inc, Whole: true, Floor: 4}, 10, 21, 99)
}

// P13.2, P13.3: which Wholes are kept.
func TestKept(t *testing.T) {
	for what, do := range map[string]func(m *api.Msg){
		"another life":            func(m *api.Msg) { m.Seq = inc - 1 },
		"a later life":            func(m *api.Msg) { m.Seq = inc + 1 },
		"no life":                 func(m *api.Msg) { m.Seq = 0 },
		"more than it promised":   func(m *api.Msg) { m.At = 4 },
		"far more":                func(m *api.Msg) { m.At = api.MaxLSN },
		"more than it promised 0": func(m *api.Msg) { m.Epoch, m.At = 0, 1 },
	} {
		s, d := blank(t)
		listens(t, s, account(0, 1, 1, 0), account(1, 1, 1, 0), account(2, 3, 1, 0, rec(1, 0, 0)))
		m := account(2, 3, 3, 0, rec(2, 1, 3))
		do(&m)
		listens(t, s, m)
		// In place of what was told ahead there is nothing, and nothing is added to it.
		m.From = 3
		listens(t, s, m)
		ticked(t, s, old())
		has(t, what, s, d, slog.State{Promise: 3, Installed: 1, Inc: inc, Whole: true}, 1)
	}
	// As much as it promised, and the greatest, are right.
	s, d := blank(t)
	listens(t, s, account(0, 3, 3, 0), account(1, 1, 0, 0), account(2, api.MaxEpoch, api.MaxEpoch, api.MaxLSN))
	ticked(t, s, old())
	has(t, "all right", s, d, slog.State{Promise: api.MaxEpoch, Installed: api.MaxEpoch, Inc: inc, Whole: true, Floor: api.MaxLSN})
	// Records of another group, or of an epoch above the message's, are left out; Inc, Page and Done are nothing to it.
	s, d = blank(t)
	m := account(0, 3, 3, 0, with(rec(1, 0, 0), func(r *api.Redo) { r.Group = 0 }), rec(2, 0, 4), rec(3, 0, 3), rec(4, 3, 0))
	m.Inc, m.Page, m.Done = 9, 9, 9
	listens(t, s, m, account(1, 5, 1, 0), account(2, 0, 0, 0, rec(5, 4, 1), rec(6, 5, 0)))
	ticked(t, s, old())
	has(t, "some", s, d, slog.State{Promise: 5, Installed: 3, Inc: inc, Whole: true}, 3, 4, 6)
}

// P13.3: of what is kept it takes the greatest of each, the spans of the least node, and all records.
func TestTogether(t *testing.T) {
	s, d := blank(t)
	spans := func(m api.Msg, l []api.Span) api.Msg {
		m.Spans = l
		return m
	}
	listens(t, s,
		spans(account(5, 4, 4, 9, rec(1, 0, 1), rec(2, 1, 1), rec(61, 2, 4)), cut(4, 3, 60)), // of a greater node, but told first
		spans(account(2, 7, 3, 2, rec(1, 0, 2), rec(3, 2, 3), rec(7, 3, 3), rec(62, 61, 0)), cut(3, 0, 90)),
		spans(account(3, 4, 4, 8, rec(2, 0, 1), rec(62, 61, 4), rec(3, 2, 2), rec(60, 2, 3)), cut(4, 2, 60)),
		spans(account(self+1, 9, 9, 10, rec(100, 0, 9)), cut(9, 0, 99)), // no member
		account(0, 6, 1, 0, rec(1, 0, 2), rec(2, 1, 0), rec(60, 1, 4), rec(63, 62, 6), rec(63, 61, 6)),
	)
	l := ticked(t, s, old())
	has(t, "then", s, d, slog.State{Promise: 7, Installed: 4, Inc: inc, Whole: true, Floor: 9, Spans: cut(4, 2, 60)}, 1, 2, 60, 61, 62, 63)
	for _, want := range list(rec(1, 0, 2), rec(2, 0, 1), rec(60, 1, 4), rec(61, 2, 4), rec(62, 61, 4), rec(63, 62, 6)) {
		if r, _ := s.Hot().Get(want.LSN); !redo.Same(r, want) {
			t.Errorf("it took %v, want %v", r, want)
		}
	}
	asks(t, "then", s, l, api.Msg{Kind: api.Ask, Epoch: 4, LSN: 60}, 0, 1, 2, 3, 4, 5)
	// Once it is whole, it answers, and takes no more accounts.
	still(t, "a Whole", s, d, account(1, 9, 9, 9, rec(64, 63, 9)), api.Msg{})
	told(t, "Hydrate", s, api.Msg{Kind: api.Hydrate}, api.Msg{Kind: api.Whole, Epoch: 7, At: 4, LSN: 9, Spans: cut(4, 2, 60), Recs: slices.Collect(s.Hot().All())})
	was := look(s)
	ticked(t, s, old())
	if look(s) != was {
		t.Error("a second Tick changes it")
	}
	// Where nothing is installed by anybody, the spans are those of the least node, too.
	s, d = blank(t)
	listens(t, s, spans(account(2, 0, 0, 0), cut(2, 1, 2)), spans(account(1, 0, 0, 0), cut(1, 1, 2)), spans(account(4, 0, 0, 0), cut(4, 1, 2)))
	ticked(t, s, old())
	has(t, "nothing installed", s, d, slog.State{Inc: inc, Whole: true, Spans: cut(1, 1, 2)})
}

// P13.3: of a member that is not of Old an account counts, though not for its being enough.
func TestNewMember(t *testing.T) {
	s, d := blank(t)
	c := api.Config{Epoch: 1, Old: []int{0, 1, 2, 3, 4, 5}, New: []int{0, 1, 2, 3, 4, 8}}
	listens(t, s, account(8, 6, 6, 7, rec(1, 0, 6)), account(0, 1, 1, 0), account(5, 1, 1, 0))
	asks(t, "two of Old", s, ticked(t, s, c), api.Msg{Kind: api.Hydrate, Seq: inc}, 0, 1, 2, 3, 4, 5, 8)
	listens(t, s, account(3, 2, 0, 0))
	asks(t, "three of Old", s, ticked(t, s, c), api.Msg{Kind: api.Ask, Epoch: 6, LSN: 1}, 0, 1, 2, 3, 4, 5, 8)
	has(t, "three of Old", s, d, slog.State{Promise: 6, Installed: 6, Inc: inc, Whole: true, Floor: 7}, 1)
}

// P13.3: an error of slog.Hydrate goes up; it is blank then, and what it was told stays.
func TestHydrateFails(t *testing.T) {
	for n := 1; ; n++ {
		s, d := blank(t)
		listens(t, s, account(0, 3, 2, 1, chain(1, 20, 0)...), account(1, 1, 1, 0), account(2, 1, 1, 0))
		d.Arm(n)
		l, err := s.Tick(old())
		if err == nil {
			break
		}
		if l != nil || err != api.ErrCrash || s.State().Whole || s.Hot().Len() > 0 {
			t.Fatal(n, l, err, look(s))
		}
		d.Crash()
		has(t, "behind the crash", s, d, slog.State{Inc: inc})
		asks(t, "anew", s, ticked(t, s, old()), api.Msg{Kind: api.Ask, Epoch: 2, LSN: 20}, 0, 1, 2, 3, 4, 5)
		kept(t, "anew", s, d)
	}
	// More records than there may be: ErrFull, till one tells of fewer.
	d := made(t, api.MaxBlocks)
	s := risen(t, d)
	listens(t, s, account(0, 0, 0, 0, small(1, api.MaxRecs)...), account(1, 0, 0, 0, small(2, api.MaxRecs+1)...), account(2, 0, 0, 0))
	if l, err := s.Tick(old()); l != nil || err != api.ErrFull || s.State().Whole {
		t.Error(err)
	}
	listens(t, s, account(1, 0, 0, 0, small(1, api.MaxRecs-1)...))
	asks(t, "as many as may be", s, ticked(t, s, old()), api.Msg{Kind: api.Ask, LSN: api.MaxRecs}, 0, 1, 2, 3, 4, 5)
	// A disk that was never born, but has something.
	d = made(t, 60)
	laid(t, d, func(l *slog.Log) { ok(t, l.Floor(3)) })
	s = risen(t, d)
	asks(t, "never born", s, ticked(t, s, old()), api.Msg{Kind: api.Hydrate}, 0, 1, 2, 3, 4, 5)
	for node := range 3 {
		m := account(node, 0, 0, 0)
		m.Seq = 0
		listens(t, s, m)
	}
	if l, err := s.Tick(old()); l != nil || err != api.ErrState {
		t.Error(l, err)
	}
}

// P13.4: what a disk has promised and installed does not fall when it becomes whole.
func TestHydrateNeverFalls(t *testing.T) {
	d := made(t, 60)
	laid(t, d, func(l *slog.Log) {
		ok(t, l.Born(inc, false), l.Promise(8), l.Install(8, cut(8, 3, 9), nil), l.Promise(9))
	})
	s := risen(t, d)
	m := account(0, 3, 2, 1, chain(1, 5, 2)...)
	m.Spans = cut(2, 1, 2)
	listens(t, s, m, account(1, 1, 1, 0), account(2, 1, 1, 0))
	ticked(t, s, old())
	has(t, "its own is greater", s, d, slog.State{Promise: 9, Installed: 8, Inc: inc, Whole: true, Floor: 1, Spans: cut(8, 3, 9)}, 1, 2, 3)
}

// P0.4: what is handed in is neither changed nor kept, nor is what lies behind its length looked at, or written.
func TestHandedIn(t *testing.T) {
	for _, kind := range []int{api.Write, api.Fill, api.Install, api.Whole} {
		recs := append(chain(1, 6, 2), with(rec(7, 6, 1), func(r *api.Redo) { r.Group = 0 }), rec(3, 2, 2), api.Redo{Key: []byte("spare")})
		spans := append(cut(1, 20, 21), api.Span{Epoch: 2, From: 20, To: 30}, api.Span{})
		s, _ := blank(t)
		listens(t, s, account(1, 1, 1, 0), account(2, 1, 1, 0))
		if kind != api.Whole {
			s, _ = whole(t, 2, 2)
		}
		if kind == api.Install {
			s, _ = whole(t, 2, 0)
		}
		m := to(s, api.Msg{Kind: kind, Epoch: 2, Inc: inc, At: 2, Seq: inc, Recs: recs[:8], Spans: spans[:2]})
		handed := fmt.Sprint(recs, spans)
		_, err := s.Handle(m)
		ok(t, err)
		if fmt.Sprint(recs, spans) != handed {
			t.Errorf("%s: it changed what it was handed", msg.Name(kind))
		}
		was := look(s)
		for i := range recs {
			clear(recs[i].Key)
			clear(recs[i].Value)
			recs[i].LSN = 40
		}
		clear(spans)
		if look(s) != was {
			t.Errorf("%s: it keeps what it was handed", msg.Name(kind))
		}
		if kind == api.Whole {
			ticked(t, s, old())
			st := s.State()
			if len(st.Spans) != 2 || st.Spans[1] != (api.Span{Epoch: 2, From: 20, To: 30}) {
				t.Error(st)
			}
		}
		if got := slices.Collect(s.Hot().All()); !slices.EqualFunc(got, chain(1, 6, 2), redo.Same) {
			t.Errorf("%s: there is %v", msg.Name(kind), got)
		}
	}
	// A configuration.
	nodes := []int{5, 4, 3, 2, 1, 0, 77}
	s, _ := whole(t, 0, 0)
	ticked(t, s, api.Config{Old: nodes[:6]})
	if !slices.Equal(nodes, []int{5, 4, 3, 2, 1, 0, 77}) {
		t.Error("Tick changed", nodes)
	}
}

// P0.4: what is handed out is nobody else's.
func TestHandedOut(t *testing.T) {
	s, _ := whole(t, 2, 0, chain(1, 4, 0)...)
	told(t, "install", s, api.Msg{Kind: api.Install, Epoch: 2, Inc: inc, Spans: cut(2, 3, 9)}, api.Msg{Kind: api.Done, Epoch: 2, Inc: inc, LSN: 3})
	was, spans := look(s), s.Hot()
	for _, m := range []api.Msg{
		{Kind: api.Prepare, Epoch: 2}, {Kind: api.Hydrate}, {Kind: api.Ask, Epoch: 2}, {Kind: api.Read, Epoch: 2, Page: 1, At: 3},
	} {
		first := answer(t, s, m)
		want := msg.Clone(first)
		for i := range first.Recs {
			clear(first.Recs[i].Key)
			clear(first.Recs[i].Value[:cap(first.Recs[i].Value)])
			first.Recs[i].LSN++
		}
		_ = append(first.Recs, api.Redo{})
		clear(first.Spans)
		_ = append(first.Spans, api.Span{})
		for _, e := range first.Body.Entries {
			clear(e.Key)
			clear(e.Value)
		}
		clear(first.Body.Entries)
		told(t, msg.Name(m.Kind), s, m, want)
	}
	st := s.State()
	clear(st.Spans)
	_ = append(s.State().Spans, api.Span{})
	h := s.Hot()
	if n, err := h.Cut(cut(9, 0, api.MaxLSN)...); n != 3 || err != nil {
		t.Error(n, err)
	}
	if is, err := s.Hot().Add(rec(60, 3, 9)); !is || err != nil {
		t.Error(is, err)
	}
	if look(s) != was || !s.Hot().Same(spans) {
		t.Error("State or Hot is its own:", look(s))
	}
	h = s.Hot()
	told(t, "write", s, api.Msg{Kind: api.Write, Epoch: 2, Recs: list(rec(10, 3, 2))}, api.Msg{Kind: api.Ack, Epoch: 2, Inc: inc, LSN: 10})
	if !h.Same(spans) {
		t.Error("Hot goes on with the copy")
	}
}

// P13.4: once something is promised, no Write makes a record of a lesser epoch new; a Fill and an Install bring those that were elsewhere.
func TestFencedWrites(t *testing.T) {
	s, d := whole(t, 0, 0, rec(1, 0, 0))
	told(t, "promise", s, api.Msg{Kind: api.Prepare, Epoch: 3}, api.Msg{Kind: api.Promise, Epoch: 3, Inc: inc, Recs: list(rec(1, 0, 0))})
	write := func() {
		t.Helper()
		for epoch := range 5 {
			m := api.Msg{Kind: api.Write, Epoch: epoch, Recs: list(rec(7, 6, 0), rec(7, 6, 1), rec(7, 6, 2))}
			was := look(s)
			answer(t, s, m)
			if look(s) != was {
				t.Errorf("a Write of epoch %d: %s", epoch, look(s))
			}
		}
	}
	write()
	told(t, "a fill", s, api.Msg{Kind: api.Fill, Recs: list(rec(2, 1, 0))}, api.Msg{})
	write()
	told(t, "install", s, api.Msg{Kind: api.Install, Epoch: 3, Inc: inc, Recs: list(rec(3, 2, 0))}, api.Msg{Kind: api.Done, Epoch: 3, Inc: inc, LSN: 3})
	write()
	told(t, "a later fill", s, api.Msg{Kind: api.Fill, Epoch: 3, Recs: list(rec(4, 3, 1))}, api.Msg{})
	told(t, "an install once more", s, api.Msg{Kind: api.Install, Epoch: 3, Inc: inc, Recs: list(rec(5, 4, 2))}, api.Msg{Kind: api.Done, Epoch: 3, Inc: inc, LSN: 5})
	has(t, "then", s, d, slog.State{Promise: 3, Installed: 3, Inc: inc, Whole: true}, 1, 2, 3, 4, 5)
}

// sends lets each message arrive, and those that answer it, till none is on its way to one of the copies.
func sends(t *testing.T, l map[int]*seg.Seg, m ...api.Msg) {
	t.Helper()
	for len(m) > 0 {
		s, is := l[m[0].To]
		if is {
			out, err := s.Handle(m[0])
			ok(t, err)
			m = append(m, out...)
		}
		m = m[1:]
	}
}

// P13.3: six copies, of which each lacks something, tell one another; and one that has nothing comes to have all.
func TestTogetherTheyHaveAll(t *testing.T) {
	recs := chain(1, 40, 0)
	l := map[int]*seg.Seg{}
	for node := range 6 {
		d := made(t, 500)
		laid(t, d, func(l *slog.Log) { ok(t, l.Born(inc, true)) })
		s, err := seg.New(node, group, d, inc)
		ok(t, err)
		l[node] = s
		var some []api.Redo
		for i, r := range recs {
			if i%6 == node {
				some = append(some, r)
			}
		}
		sends(t, l, to(s, api.Msg{Kind: api.Write, From: head, Recs: some}))
	}
	var d *disk.Disk
	l[self], d = blank(t)
	for range 40 {
		for node := range 6 {
			sends(t, l, ticked(t, l[node], next())...)
		}
	}
	for node := range 6 {
		if h := l[node].Hot(); h.SCL() != 40 || h.Len() != 40 {
			t.Errorf("%d has all up to %d, %d records", node, h.SCL(), h.Len())
		}
	}
	for _, node := range []int{0, 2, 5} {
		delete(l, node)
	}
	sends(t, l, ticked(t, l[self], next())...)
	asks(t, "of three", l[self], ticked(t, l[self], next()), api.Msg{Kind: api.Ask, LSN: 40}, 0, 1, 2, 3, 4, 5)
	kept(t, "of three", l[self], d)
	if h := l[self].Hot(); h.Len() != 40 || !l[self].State().Whole {
		t.Error(look(l[self]))
	}
}
