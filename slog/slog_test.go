package slog_test

import (
	"bytes"
	"errors"
	"fmt"
	"math"
	"math/rand"
	"slices"
	"testing"

	"sextet/api"
	"sextet/disk"
	"sextet/hot"
	"sextet/redo"
	"sextet/slog"
	"sextet/span"
)

// group is the group of the logs here, if nothing else is said.
const group = 1

// rec is a record of which no block has room for three.
func rec(lsn, back int64, epoch int) api.Redo {
	return api.Redo{
		LSN: lsn, Back: back, Epoch: epoch, Group: group, Page: int(lsn & 7), Kind: api.Insert, Slot: 5,
		Key: bytes.Repeat([]byte{'k'}, api.MaxKey), Value: bytes.Repeat([]byte{byte(lsn)}, api.MaxValue), Last: lsn%2 == 0,
	}
}

// chain are the records from one LSN to another one, each the Back of the next.
func chain(from, to int64, epoch int) []api.Redo {
	var out []api.Redo
	for lsn := from; lsn <= to; lsn++ {
		out = append(out, rec(lsn, lsn-1, epoch))
	}
	return out
}

// with is r, changed.
func with(r api.Redo, do func(r *api.Redo)) api.Redo {
	r = redo.Clone(r)
	do(&r)
	return r
}

// cut is a span.
func cut(epoch int, from, to int64) api.Span { return api.Span{Epoch: epoch, From: from, To: to} }

// made is a disk of so many blocks.
func made(t *testing.T, blocks int) *disk.Disk {
	t.Helper()
	d, err := disk.New(blocks)
	if err != nil {
		t.Fatal(err)
	}
	return d
}

// opened is the log of a disk, which must be right.
func opened(t *testing.T, d *disk.Disk) *slog.Log {
	t.Helper()
	l, err := slog.Open(d, group)
	if l == nil || err != nil {
		t.Fatalf("Open: %v", err)
	}
	return l
}

// fresh is a disk of so many blocks, and its log.
func fresh(t *testing.T, blocks int) (*disk.Disk, *slog.Log) {
	t.Helper()
	d := made(t, blocks)
	return d, opened(t, d)
}

// ok asks that calls did well.
func ok(t *testing.T, errs ...error) {
	t.Helper()
	for i, err := range errs {
		if err != nil {
			t.Fatalf("call %d: %v", i, err)
		}
	}
}

// added asks that Records finds n new ones.
func added(t *testing.T, l *slog.Log, n int, recs ...api.Redo) {
	t.Helper()
	if got, err := l.Records(recs...); got != n || err != nil {
		t.Fatalf("Records: %d, %v, want %d", got, err, n)
	}
}

// look is all that a log tells, as text.
func look(l *slog.Log) string {
	return fmt.Sprint(l.State(), slices.Collect(l.Hot().All()), l.Blocks())
}

// same is whether two logs tell the same, and their records are cut by the same spans.
func same(a, b *slog.Log) bool { return look(a) == look(b) && a.Hot().Same(b.Hot()) }

// blocks is what the blocks of a disk have, as text: one of no bytes is as one never written.
func blocks(t *testing.T, d *disk.Disk) []string {
	t.Helper()
	var out []string
	for i := range d.Blocks() {
		b, _, err := d.Read(i)
		if err != nil {
			t.Fatalf("Read(%d): %v", i, err)
		}
		out = append(out, string(b))
	}
	return out
}

// told asks for what State tells, and for the LSNs of the records.
func told(t *testing.T, what string, l *slog.Log, st slog.State, lsns ...int64) {
	t.Helper()
	if got := l.State(); fmt.Sprint(got) != fmt.Sprint(st) {
		t.Errorf("%s: State is %v, want %v", what, got, st)
	}
	var got []int64
	for r := range l.Hot().All() {
		got = append(got, r.LSN)
	}
	if !slices.Equal(got, lsns) {
		t.Errorf("%s: there are %v, want %v", what, got, lsns)
	}
}

// still asks that a call answers this error, changes nothing, and has the disk do nothing.
func still(t *testing.T, what string, d *disk.Disk, l *slog.Log, want error, do func() error) {
	t.Helper()
	was, calls := look(l), d.Calls()
	spans := l.Hot()
	if err := do(); !errors.Is(err, want) || want == nil && err != nil {
		t.Errorf("%s: %v, want %v", what, err, want)
	}
	if look(l) != was || !l.Hot().Same(spans) || d.Calls() != calls || d.Pending() != 0 {
		t.Errorf("%s: it changed what is there: %s, %d calls", what, look(l), d.Calls()-calls)
	}
}

// step is a call that changes a log.
type step struct {
	name string
	do   func(l *slog.Log) error
}

// records is a step that adds these.
func records(l2 ...api.Redo) step {
	return step{fmt.Sprint(len(l2), " records"), func(l *slog.Log) error { _, err := l.Records(l2...); return err }}
}

// born, promise, install, floor and hydrate are steps of these calls.
func born(inc int, whole bool) step {
	return step{"born", func(l *slog.Log) error { return l.Born(inc, whole) }}
}

func promise(epoch int) step {
	return step{"promise", func(l *slog.Log) error { return l.Promise(epoch) }}
}

func floor(lsn int64) step {
	return step{"floor", func(l *slog.Log) error { return l.Floor(lsn) }}
}

func install(epoch int, spans []api.Span, recs ...api.Redo) step {
	return step{"install", func(l *slog.Log) error { return l.Install(epoch, spans, recs) }}
}

func hydrate(s slog.State, recs ...api.Redo) step {
	return step{"hydrate", func(l *slog.Log) error { return l.Hydrate(s, recs) }}
}

// lives are what copies go through: each step changes something, most of them with one block, some with many.
func lives() map[string][]step {
	return map[string][]step{
		"whole": {
			born(7, true), promise(2), install(2, nil), records(chain(1, 5, 2)...), floor(3), records(rec(9, 8, 2)), promise(3),
			install(3, []api.Span{cut(3, 4, 90)}, rec(4, 3, 2), rec(91, 4, 3), rec(6, 5, 2), rec(92, 91, 3), rec(93, 92, 3)),
			records(rec(94, 93, 3)), install(3, nil), floor(90), records(chain(5, 8, 1)...),
		},
		"blank": {
			born(1, false), records(chain(2, 4, 0)...),
			hydrate(slog.State{Promise: 9, Installed: 8, Inc: 3, Floor: 2, Spans: []api.Span{cut(8, 3, 50)}}, rec(1, 0, 0), rec(3, 2, 7), rec(51, 3, 8), rec(4, 3, 1)),
			records(rec(52, 51, 8)), promise(10), install(10, []api.Span{cut(8, 3, 50), cut(10, 51, 99)}, chain(100, 104, 10)...),
		},
	}
}

// lived is a log that has done these steps, on a disk of its own.
func lived(t *testing.T, blocks int, steps ...step) (*disk.Disk, *slog.Log) {
	t.Helper()
	d, l := fresh(t, blocks)
	for _, s := range steps {
		ok(t, s.do(l))
	}
	return d, l
}

// P10.1: a call writes behind what is there, block by block, and then syncs once; it is to be seen then.
func TestWrites(t *testing.T) {
	for name, steps := range lives() {
		d, l := fresh(t, 60)
		many := 0
		for _, s := range steps {
			was, before, end, calls := look(l), blocks(t, d), l.Blocks(), d.Calls()
			ok(t, s.do(l))
			if look(l) == was {
				t.Errorf("%s, %s: it changed nothing", name, s.name)
			}
			now := blocks(t, d)
			took := l.Blocks() - end
			if took < 1 || d.Calls() != calls+took+1 || d.Pending() != 0 {
				t.Errorf("%s, %s: %d blocks, %d calls, %d pending", name, s.name, took, d.Calls()-calls, d.Pending())
			}
			if !slices.Equal(now[:end], before[:end]) || slices.Contains(now[:l.Blocks()], "") || slices.ContainsFunc(now[l.Blocks():], func(b string) bool { return b != "" }) {
				t.Errorf("%s, %s: it isn't behind what is there", name, s.name)
			}
			if took > 1 {
				many++
			}
		}
		if many < 2 {
			t.Errorf("%s: just %d steps took many blocks", name, many)
		}
	}
}

// P10.1: of a call that the disk fails nothing is to be seen, and the log goes on when the disk is up again.
func TestFails(t *testing.T) {
	for name, steps := range lives() {
		for k, s := range steps {
			_, whole := lived(t, 60, steps[:k+1]...)
			for arm := 1; ; arm++ {
				d, l := lived(t, 60, steps[:k]...)
				was, spans := look(l), l.Hot()
				d.Arm(arm)
				if s.do(l) == nil {
					if arm < 3 {
						t.Errorf("%s, %s: just %d calls of the disk", name, s.name, arm-1)
					}
					break
				}
				for range 2 { // and it stays so, as long as the disk is down
					if look(l) != was || !l.Hot().Same(spans) {
						t.Errorf("%s, %s, armed %d: it is to be seen", name, s.name, arm)
					}
					if n, err := l.Records(rec(200, 199, 99)); n != 0 || err != api.ErrCrash {
						t.Errorf("%s, %s: Records of a disk that is down: %d, %v", name, s.name, n, err)
					}
					if err := s.do(l); err != api.ErrCrash {
						t.Errorf("%s, %s, armed %d: %v", name, s.name, arm, err)
					}
				}
				d.Crash(arm, arm>>1, arm+1)
				ok(t, s.do(l))
				if !same(l, whole) || !same(opened(t, d), whole) {
					t.Errorf("%s, %s, armed %d: once more it isn't done", name, s.name, arm)
				}
			}
		}
	}
}

// P10.1: a call counts whole or not at all: without any one of its blocks it does not.
func TestPartsDontCount(t *testing.T) {
	for name, steps := range lives() {
		for k, s := range steps {
			_, ahead := lived(t, 60, steps[:k]...)
			d, l := lived(t, 60, steps[:k+1]...)
			for i := ahead.Blocks(); i < l.Blocks(); i++ {
				hurt := d.Clone()
				ok(t, hurt.Write(i, nil), hurt.Sync())
				if got := opened(t, hurt); !same(got, ahead) {
					t.Errorf("%s, %s, without block %d of %d to %d: %s", name, s.name, i, ahead.Blocks(), l.Blocks(), look(got))
				}
			}
		}
	}
}

// P10.1: ErrFull, if a call needs more blocks than there are; as many as there are are enough.
func TestFull(t *testing.T) {
	for name, steps := range lives() {
		for k, s := range steps {
			_, l := lived(t, 60, steps[:k+1]...)
			need := l.Blocks()
			_, all := lived(t, need, steps[:k+1]...)
			if !same(l, all) {
				t.Errorf("%s, %s: on a disk that is just enough it has another one", name, s.name)
			}
			_, before := lived(t, 60, steps[:k]...)
			for room := max(before.Blocks(), 1); room < need; room++ {
				d, l := lived(t, room, steps[:k]...)
				still(t, s.name, d, l, api.ErrFull, func() error { return s.do(l) })
				d.Arm(1)
				still(t, s.name+", armed", d, l, api.ErrFull, func() error { return s.do(l) })
				if d.Down() {
					t.Errorf("%s, %s: the disk was asked", name, s.name)
				}
				d.Arm(0)
				if !same(l, opened(t, d)) {
					t.Errorf("%s, %s: Open has another one", name, s.name)
				}
				if room == before.Blocks() {
					continue
				}
				// A smaller one has room.
				ok(t, l.Promise(api.MaxEpoch))
				if l.Blocks() != before.Blocks()+1 {
					t.Errorf("%s, %s: %d blocks", name, s.name, l.Blocks())
				}
			}
		}
	}
	d, l := fresh(t, 1)
	still(t, "two blocks of one", d, l, api.ErrFull, func() error { n, err := l.Records(chain(1, 3, 0)...); return zero(t, n, err) })
	ok(t, l.Born(1<<30, true))
	still(t, "none is left", d, l, api.ErrFull, func() error { return l.Floor(1) })
	down(t, d)
	still(t, "down, and none is left", d, l, api.ErrFull, func() error { return l.Floor(1) })
}

// down lets the disk find the power gone.
func down(t *testing.T, d *disk.Disk) {
	t.Helper()
	d.Arm(1)
	if err := d.Sync(); err != api.ErrCrash || !d.Down() {
		t.Fatal("it is up:", err)
	}
}

// zero asks for 0 beside an error.
func zero(t *testing.T, n int, err error) error {
	t.Helper()
	if err != nil && n != 0 {
		t.Errorf("%d beside %v", n, err)
	}
	return err
}

// P10.1: the greatest of what one call may be told fits on a disk.
func TestGreatest(t *testing.T) {
	d, l := fresh(t, api.MaxBlocks)
	var spans []api.Span
	for i := range api.MaxSpans {
		spans = append(spans, cut(api.MaxEpoch-api.MaxSpans+1+i, api.MaxLSN/2, api.MaxLSN-api.MaxSpans+int64(i)+1))
	}
	var recs []api.Redo
	for i := range int64(api.MaxRecs) {
		r := rec(api.MaxLSN-i, api.MaxLSN-i-1, api.MaxEpoch)
		r.Page, r.Kind, r.Slot = api.MaxPages-1, api.Cut, 1<<15
		recs = append(recs, r)
	}
	ok(t, l.Born(1<<30, false))
	ok(t, l.Hydrate(slog.State{Promise: api.MaxEpoch, Installed: api.MaxEpoch, Floor: api.MaxLSN, Spans: spans}, recs))
	st := l.State()
	if l.Hot().Len() != api.MaxRecs || st.Promise != api.MaxEpoch || st.Floor != api.MaxLSN || !span.Same(st.Spans, spans) {
		t.Error(l.Hot().Len(), st)
	}
	if !same(l, opened(t, d)) {
		t.Error("Open has another one")
	}
}

// P10.2: ErrRange, if the group is not right, whatever the disk is.
func TestOpenGroup(t *testing.T) {
	up, gone := made(t, 4), made(t, 4)
	down(t, gone)
	for _, g := range []int{-1, api.MaxGroups, math.MinInt, math.MaxInt} {
		for _, d := range []*disk.Disk{up, gone} {
			if l, err := slog.Open(d, g); l != nil || err != api.ErrRange {
				t.Errorf("Open of group %d: %v, %v", g, l, err)
			}
		}
	}
	for g := range api.MaxGroups {
		d := made(t, 4)
		l, err := slog.Open(d, g)
		ok(t, err)
		r := rec(1, 0, 0)
		r.Group = g
		added(t, l, 1, r)
		if !l.Hot().Same(func() *hot.Log { h := hot.New(g); h.Add(r); return h }()) {
			t.Error("not of group", g)
		}
		if l, err = slog.Open(d, g); err != nil || l.Hot().Len() != 1 {
			t.Error(err)
		}
	}
}

// P10.2, the chapter's example: of an empty disk there is nothing.
func TestOpenEmpty(t *testing.T) {
	for _, n := range []int{1, 100, api.MaxBlocks} {
		d, l := fresh(t, n)
		told(t, "empty", l, slog.State{})
		if l.Blocks() != 0 || d.Calls() != 0 || !l.Hot().Same(hot.New(group)) {
			t.Error(l.Blocks(), d.Calls())
		}
		d, l = lived(t, max(n, 20), lives()["whole"][:4]...)
		d.Erase()
		if l = opened(t, d); l.Blocks() != 0 {
			t.Error(look(l))
		}
		told(t, "erased", l, slog.State{})
	}
}

// P10.2: what calls left is there again, and a disk that has nothing else is not written to.
func TestOpen(t *testing.T) {
	for name, steps := range lives() {
		d, l := fresh(t, 60)
		for i, s := range steps {
			ok(t, s.do(l))
			calls := d.Calls()
			again := opened(t, d)
			if !same(l, again) || d.Calls() != calls || d.Pending() != 0 {
				t.Errorf("%s, %d: %s, want %s; %d calls", name, i, look(again), look(l), d.Calls()-calls)
			}
			if i%2 == 0 {
				l = again // and it goes on with that one
			}
		}
	}
}

// P10.2: it has the calls up to the first that is not whole, and takes away for good what stands behind.
func TestOpenHurt(t *testing.T) {
	for name, steps := range lives() {
		d, l := lived(t, 60, steps...)
		full := l.Blocks()
		was := blocks(t, d)
		for i := range full {
			hurt := d.Clone()
			ok(t, hurt.Write(i, nil), hurt.Sync())
			l := opened(t, hurt)
			k := 0
			for ; k < len(steps); k++ { // so many calls are whole
				if _, next := lived(t, 60, steps[:k+1]...); next.Blocks() > i {
					break
				}
			}
			_, want := lived(t, 60, steps[:k]...)
			if !same(l, want) || hurt.Pending() != 0 {
				t.Fatalf("%s, without block %d: %s, want %s", name, i, look(l), look(want))
			}
			for j, b := range blocks(t, hurt) {
				if (b == "") != (j >= l.Blocks()) {
					t.Errorf("%s, without block %d: block %d has %q", name, i, j, b)
				}
			}
			calls := hurt.Calls()
			if again := opened(t, hurt); !same(again, want) || hurt.Calls() != calls {
				t.Errorf("%s, without block %d: once more it is another one", name, i)
			}
			// The block that was missing comes back: nothing of what stood behind it does.
			ok(t, hurt.Write(i, []byte(was[i])), hurt.Sync())
			back := opened(t, hurt)
			if back.Blocks() > i+1 || back.Blocks() < want.Blocks() {
				t.Errorf("%s, block %d came back: %d blocks", name, i, back.Blocks())
			}
		}
	}
}

// P10.2: what is no call of a log is taken away, wherever it stands, whatever it is.
func TestOpenOthers(t *testing.T) {
	steps := lives()["blank"][:2]
	_, want := lived(t, 30, steps...)
	for _, b := range [][]byte{
		{0}, {1}, []byte("junk"), bytes.Repeat([]byte{0}, api.BlockSize), bytes.Repeat([]byte{2}, api.BlockSize), bytes.Repeat([]byte{255}, api.BlockSize),
	} {
		for at := want.Blocks(); at < 30; at++ {
			for _, synced := range []bool{true, false} {
				d, _ := lived(t, 30, steps...)
				ok(t, d.Write(at, b), d.Write(29, b))
				if synced {
					ok(t, d.Sync())
				}
				l := opened(t, d)
				if !same(l, want) || slices.Contains(blocks(t, d), string(b)) {
					t.Errorf("%v at %d: %s", b, at, look(l))
				}
				d.Crash()
				if slices.Contains(blocks(t, d), string(b)) || !same(opened(t, d), want) {
					t.Errorf("%v at %d: it isn't for good", b, at)
				}
			}
		}
		d := made(t, 3)
		ok(t, d.Write(0, b), d.Write(1, b))
		told(t, "from the first one on", opened(t, d), slog.State{})
	}
}

// Whatever a disk has, Open ends, and what it has then stays.
func TestOpenAny(t *testing.T) {
	random := rand.New(rand.NewSource(5))
	from, l := lived(t, 60, lives()["whole"]...)
	was := blocks(t, from)[:l.Blocks()]
	for range 3000 {
		d := made(t, 12)
		for i := range d.Blocks() {
			b := []byte(was[random.Intn(len(was))]) // others' blocks, in any order, and changed
			for range random.Intn(3) {
				b[random.Intn(min(len(b), 20))] = byte(random.Intn(8))
			}
			ok(t, d.Write(i, b[:len(b)-random.Intn(2)*random.Intn(len(b))]))
		}
		d.Sync()
		calls := d.Calls()
		got, err := slog.Open(d, group)
		if err != nil {
			if got != nil || d.Calls() != calls {
				t.Errorf("%v: %d calls", err, d.Calls()-calls)
			}
			continue
		}
		if !same(got, opened(t, d)) {
			t.Errorf("once more it isn't %s", look(got))
		}
	}
}

// P10.2: the disk's errors; a crash while Open takes away changes nothing of what it has then.
func TestOpenCrash(t *testing.T) {
	steps := lives()["whole"]
	d, l := lived(t, 60, steps...)
	ok(t, d.Write(2, nil), d.Sync())
	_, want := lived(t, 60, steps[:2]...)
	many := 0
	for arm := 1; ; arm++ {
		done := true
		for picks := range 64 {
			d := d.Clone()
			d.Arm(arm)
			got, err := slog.Open(d, group)
			if err == nil {
				break
			}
			done = false
			if got != nil || err != api.ErrCrash {
				t.Fatal(got, err)
			}
			if got, err = slog.Open(d, group); got != nil || err != api.ErrCrash {
				t.Fatal("down:", got, err)
			}
			many = max(many, d.Pending())
			d.Crash(picks, picks>>1, picks>>2, picks>>3, picks>>4, picks>>5, picks, picks>>2, picks>>1)
			if got = opened(t, d); !same(got, want) {
				t.Fatalf("armed %d, picks %b: %s", arm, picks, look(got))
			}
		}
		if done {
			break
		}
	}
	if many < l.Blocks()-3 {
		t.Error("just so many were taken away:", many)
	}
}

// P10.2: what Open tells of stays behind a crash, whoever wrote it.
func TestOpenPending(t *testing.T) {
	from, want := lived(t, 20, lives()["blank"]...)
	d := made(t, 20)
	for i, b := range blocks(t, from)[:want.Blocks()] {
		ok(t, d.Write(i, []byte(b)))
	}
	l := opened(t, d)
	d.Crash()
	if !same(l, want) || !same(opened(t, d), want) {
		t.Error("it is lost")
	}
}

// P10.2: of a disk of another group's records nothing is taken away.
func TestOpenOtherGroup(t *testing.T) {
	d, want := lived(t, 20, lives()["whole"]...)
	calls := d.Calls()
	if l, err := slog.Open(d, group+1); l != nil || err != api.ErrShape {
		t.Error(l, err)
	}
	if d.Calls() != calls || !same(opened(t, d), want) {
		t.Error("it is lost")
	}
}

// P10.2: of two logs of one disk each goes on, as long as the other one writes nothing.
func TestTwo(t *testing.T) {
	for name, steps := range lives() {
		_, want := lived(t, 60, steps...)
		d, a := lived(t, 60, steps[:2]...)
		for range 3 {
			b := opened(t, d)
			still(t, "a second one", d, a, nil, func() error {
				b.Promise(b.State().Promise)
				b.Floor(0)
				b.Records()
				b.Born(0, true)
				b.Promise(-1)
				return nil
			})
		}
		for _, s := range steps[2:] {
			opened(t, d)
			ok(t, s.do(a))
			opened(t, d)
		}
		if !same(a, want) || !same(opened(t, d), want) {
			t.Errorf("%s: %s", name, look(a))
		}
	}
}

// P10.2: the blocks of a call that failed are never taken for a part of a later one, of the same log too,
// or of the other one.
func TestNoMixture(t *testing.T) {
	ahead := []step{born(1, true), promise(4)}
	a, b := records(chain(1, 5, 2)...), records(chain(11, 15, 3)...)
	_, none := lived(t, 30, ahead...)
	_, onlyA := lived(t, 30, append(slices.Clone(ahead), a)...)
	_, onlyB := lived(t, 30, append(slices.Clone(ahead), b)...)
	for _, two := range []bool{false, true} {
		for arm := 1; arm <= 4; arm++ {
			for picks := range 64 {
				d, l := lived(t, 30, ahead...)
				m := l
				if two {
					m = opened(t, d)
				}
				d.Arm(4) // its three blocks are written, and not synced
				if a.do(l) != api.ErrCrash {
					t.Fatal("it did well")
				}
				d.Crash(picks, picks>>1, picks>>2)
				d.Arm(arm)
				if b.do(m) != api.ErrCrash || look(m) != look(none) {
					t.Fatal("it did well")
				}
				d.Crash(picks>>3, picks>>4, picks>>5)
				if got := opened(t, d); !same(got, none) && !same(got, onlyA) && !same(got, onlyB) {
					t.Fatalf("armed %d, picks %b: %s", arm, picks, look(got))
				}
				// And what another one, done well, has behind it is none of it.
				d, l = lived(t, 30, ahead...)
				d.Arm(4)
				a.do(l)
				d.Crash(picks, picks>>1, picks>>2)
				ok(t, l.Floor(9))
				if got := opened(t, d.Clone()); !same(got, l) {
					t.Fatalf("picks %b: %s, want %s", picks, look(got), look(l))
				}
				ok(t, l.Floor(10))
				if got := opened(t, d); !same(got, l) {
					t.Fatalf("picks %b: %s, want %s", picks, look(got), look(l))
				}
			}
		}
	}
}

// sized are n records, the first of which has size bytes as its key and value, the others others bytes as their value.
func sized(n, size, others int) []api.Redo {
	var out []api.Redo
	for i := range int64(n) {
		r := api.Redo{LSN: api.MaxLSN - 9 + i, Back: api.MaxLSN - 10, Epoch: api.MaxEpoch, Group: group, Page: 200, Kind: api.Format, Slot: 1 << 15}
		r.Key, r.Value = make([]byte, api.MaxKey), make([]byte, others)
		if i == 0 {
			r.Key, r.Value = make([]byte, min(size, api.MaxKey)), make([]byte, max(size-api.MaxKey, 0))
		}
		out = append(out, r)
	}
	return out
}

// P10.1, P10.2: so it is of whatever length, where what is left of a call, without one of its blocks, may look like a call.
func TestLengths(t *testing.T) {
	for size := range api.MaxKey + api.MaxValue + 1 {
		for n := 1; n <= 6; n++ {
			for _, others := range []int{30, 62} {
				for _, steps := range [][]step{{}, {born(1, true)}} {
					partsOf(t, sized(n, size, others), steps)
				}
			}
		}
	}
}

// partsOf asks that records that are added behind these steps count whole or not at all.
func partsOf(t *testing.T, recs []api.Redo, steps []step) {
	t.Helper()
	d, l := lived(t, 9, steps...)
	end := l.Blocks()
	added(t, l, len(recs), recs...)
	if !same(l, opened(t, d)) {
		t.Errorf("%v: Open has another one", recs)
	}
	for i := end; i < l.Blocks(); i++ {
		d := d.Clone()
		ok(t, d.Write(i, nil), d.Sync())
		if got := opened(t, d); got.Blocks() != end || got.Hot().Len() != 0 {
			t.Errorf("%v, without block %d: %s", recs, i, look(got))
		}
	}
	need := l.Blocks()
	d, l = lived(t, 9, steps...)
	d.Arm(need - end + 1) // all is written, and not synced
	if _, err := l.Records(recs...); err != api.ErrCrash {
		t.Error(err)
	}
	d.Crash(1, 1, 1, 1, 1, 1)
	ok(t, l.Promise(9))
	if got := opened(t, d); !same(got, l) {
		t.Errorf("%v failed, and then one block was written: %s, want %s", recs, look(got), look(l))
	}
}

// P10.3: Records tells how many were new, and writes just for these.
func TestRecords(t *testing.T) {
	d, l := fresh(t, 60)
	added(t, l, 3, rec(1, 0, 0), rec(3, 2, 0), rec(1, 0, 0), rec(7, 0, api.MaxEpoch), rec(3, 2, 0))
	told(t, "three", l, slog.State{}, 1, 3, 7)
	still(t, "none", d, l, nil, func() error { added(t, l, 0); return nil })
	still(t, "there", d, l, nil, func() error { added(t, l, 0, rec(3, 2, 0), rec(1, 0, 0)); return nil })
	end := l.Blocks()
	added(t, l, 1, rec(3, 2, 0), rec(2, 1, 0), rec(1, 0, 0), rec(7, 0, api.MaxEpoch), rec(2, 1, 0))
	told(t, "one more", l, slog.State{}, 1, 2, 3, 7)
	if l.Blocks() != end+1 {
		t.Error("for one that is new it took", l.Blocks()-end)
	}
	ok(t, l.Promise(5), l.Install(5, []api.Span{cut(5, 2, 9)}, nil))
	still(t, "dead", d, l, nil, func() error { added(t, l, 0, rec(3, 2, 4), rec(9, 2, 0), rec(2, 1, 0)); return nil })
	added(t, l, 2, rec(3, 2, 4), rec(3, 2, 5), rec(10, 2, 0))
	st := slog.State{Promise: 5, Installed: 5, Spans: []api.Span{cut(5, 2, 9)}}
	told(t, "dead, and not", l, st, 1, 2, 3, 7, 10)
	if r, is := l.Hot().Get(3); !is || !redo.Same(r, rec(3, 2, 5)) {
		t.Error(r)
	}
	if !same(l, opened(t, d)) {
		t.Error("Open has another one")
	}
}

// P10.3: hot.Add's errors, of each one in their order, ahead of all.
func TestRecordsWrong(t *testing.T) {
	other := with(rec(8, 7, 0), func(r *api.Redo) { r.Group++ })
	for _, x := range []struct {
		want error
		l2   []api.Redo
	}{
		{api.ErrRange, []api.Redo{{}}},
		{api.ErrRange, []api.Redo{rec(3, 2, 0), rec(4, 3, 0), rec(5, 5, 0), other}},
		{api.ErrKind, []api.Redo{rec(3, 2, 0), with(rec(4, 3, 0), func(r *api.Redo) { r.Kind = 7 }), {}}},
		{api.ErrMany, []api.Redo{with(rec(4, 3, 0), func(r *api.Redo) { r.Value = make([]byte, api.MaxValue+1) })}},
		{api.ErrShape, []api.Redo{rec(3, 2, 0), other, {}}},
		{api.ErrThere, []api.Redo{rec(3, 2, 0), rec(2, 0, 0), other}},
		{api.ErrThere, []api.Redo{rec(3, 2, 0), rec(3, 1, 0)}},
		{api.ErrThere, []api.Redo{rec(1, 0, 1)}},
	} {
		d, l := lived(t, 60, born(1, true), records(chain(1, 2, 0)...))
		for _, up := range []bool{true, false} {
			if !up {
				down(t, d)
			}
			still(t, fmt.Sprint(x.l2), d, l, x.want, func() error { n, err := l.Records(x.l2...); return zero(t, n, err) })
		}
	}
}

// P10.3: ErrFull, if there are MaxRecs: Install and Hydrate tell it too, but of those that they leave out.
func TestMaxRecs(t *testing.T) {
	var recs []api.Redo
	for i := range int64(api.MaxRecs + 1) {
		recs = append(recs, api.Redo{LSN: i + 1, Back: i, Group: group, Kind: api.Format})
	}
	d, l := lived(t, api.MaxBlocks, born(1, false))
	still(t, "one too many", d, l, api.ErrFull, func() error { n, err := l.Records(recs...); return zero(t, n, err) })
	still(t, "Hydrate", d, l, api.ErrFull, func() error { return l.Hydrate(slog.State{}, recs) })
	added(t, l, api.MaxRecs, recs[1:]...)
	still(t, "one more", d, l, api.ErrFull, func() error { n, err := l.Records(recs[0]); return zero(t, n, err) })
	still(t, "those that are there", d, l, nil, func() error { added(t, l, 0, recs[1:]...); return nil })
	still(t, "Install", d, l, api.ErrFull, func() error { return l.Install(0, nil, recs[:1]) })
	other := with(recs[1], func(r *api.Redo) { r.Group++ })
	still(t, "of another group, too", d, l, api.ErrShape, func() error { return l.Install(0, nil, []api.Redo{recs[0], other}) })
	still(t, "of another group, too", d, l, api.ErrShape, func() error { return l.Hydrate(slog.State{}, []api.Redo{recs[0], other}) })
	still(t, "Hydrate", d, l, api.ErrFull, func() error { return l.Hydrate(slog.State{}, recs[:2]) })
	// What the spans cut away, too, makes room.
	ok(t, l.Install(0, []api.Span{cut(1, 4, 7)}, append(recs[1:9:9], recs[0])))
	if l.Hot().Len() != api.MaxRecs-2 {
		t.Error(l.Hot().Len())
	}
	ok(t, l.Hydrate(slog.State{Installed: 1}, recs[5:6]))
	still(t, "all of them", d, l, api.ErrFull, func() error { n, err := l.Records(recs...); return zero(t, n, err) })
	added(t, l, 1, recs[4])
	if !same(l, opened(t, d)) {
		t.Error("Open has another one")
	}
}

// P10.3: Promise rises.
func TestPromise(t *testing.T) {
	d, l := fresh(t, 60)
	for _, epoch := range []int{-1, math.MinInt, api.MaxEpoch + 1, math.MaxInt} {
		still(t, fmt.Sprint(epoch), d, l, api.ErrRange, func() error { return l.Promise(epoch) })
	}
	still(t, "0", d, l, nil, func() error { return l.Promise(0) })
	for _, epoch := range []int{1, 5, 6, api.MaxEpoch} {
		ok(t, l.Promise(epoch))
		told(t, "Promise", l, slog.State{Promise: epoch})
		still(t, "the same", d, l, nil, func() error { return l.Promise(epoch) })
		still(t, "one below", d, l, api.ErrState, func() error { return l.Promise(epoch - 1) })
		still(t, "0", d, l, api.ErrState, func() error { return l.Promise(0) })
		still(t, "-1", d, l, api.ErrRange, func() error { return l.Promise(-1) })
		still(t, "too great", d, l, api.ErrRange, func() error { return l.Promise(api.MaxEpoch + 1) })
	}
	if !same(l, opened(t, d)) || l.Blocks() != 4 {
		t.Error("Open has another one")
	}
}

// wrongs are records that a call must not take, with the error that must be told of them together.
func wrongs() map[error][][]api.Redo {
	other := with(rec(8, 7, 0), func(r *api.Redo) { r.Group-- })
	kind := with(rec(8, 7, 0), func(r *api.Redo) { r.Kind = 0 })
	long := with(rec(8, 7, 0), func(r *api.Redo) { r.Key = make([]byte, api.MaxKey+1) })
	return map[error][][]api.Redo{
		api.ErrRange: {{{}}, {rec(3, 2, 0), rec(4, 4, 0), kind, long, other}, {rec(api.MaxLSN+1, 0, 0)}, {rec(4, 3, -1)}, {other, rec(4, -1, 0)}},
		api.ErrKind:  {{kind}, {rec(3, 2, 0), kind, {}}, {rec(3, 2, 0), other, kind}},
		api.ErrMany:  {{long}, {other, long, kind}},
		api.ErrShape: {{other}, {rec(3, 2, 0), other, rec(4, 3, 0)}, {rec(1, 0, 5), other}},
	}
}

// P10.3: Install asks for what is promised; its errors come in their order.
func TestInstallWrong(t *testing.T) {
	d, l := lived(t, 60, born(1, true), records(chain(1, 2, 0)...), promise(4), install(4, []api.Span{cut(2, 5, 6)}))
	spans := map[error][]api.Span{
		api.ErrRange: {{}},
		api.ErrShape: {cut(3, 1, 9), cut(3, 1, 10)},
		api.ErrMany:  make([]api.Span, api.MaxSpans+1),
	}
	for _, epoch := range []int{-1, math.MinInt, api.MaxEpoch + 1} {
		still(t, "an epoch", d, l, api.ErrRange, func() error { return l.Install(epoch, spans[api.ErrMany], []api.Redo{{}}) })
	}
	for _, epoch := range []int{0, 3, 5, api.MaxEpoch} {
		still(t, "not promised", d, l, api.ErrState, func() error { return l.Install(epoch, spans[api.ErrMany], []api.Redo{{}}) })
		still(t, "not promised", d, l, api.ErrState, func() error { return l.Install(epoch, nil, nil) })
	}
	for want, l2 := range spans {
		still(t, "spans", d, l, want, func() error {
			err := l.Install(4, l2, []api.Redo{with(rec(3, 2, 0), func(r *api.Redo) { r.Kind = 0 })})
			if fmt.Sprint(err) != fmt.Sprint(span.Valid(l2...)) {
				t.Error("not span.Valid's:", err)
			}
			return err
		})
	}
	for want, all := range wrongs() {
		for _, recs := range all {
			still(t, "Install", d, l, want, func() error { return l.Install(4, []api.Span{cut(4, 0, 9)}, recs) })
		}
	}
	if !same(l, opened(t, d)) {
		t.Error("Open has another one")
	}
}

// P10.3: Install cuts, then adds what can be; State has its epoch and its spans.
func TestInstall(t *testing.T) {
	d, l := lived(t, 60, born(3, true), floor(2), records(chain(1, 9, 1)...), promise(4))
	spans := []api.Span{cut(2, 5, 6), cut(4, 7, 20)}
	ok(t, l.Install(4, spans, []api.Redo{
		rec(3, 2, 1), rec(2, 0, 1), rec(8, 7, 3), rec(8, 6, 4), rec(8, 7, 4), rec(6, 5, 1), rec(6, 5, 2), rec(30, 7, 0), rec(30, 7, 0),
	}))
	st := slog.State{Promise: 4, Installed: 4, Inc: 3, Whole: true, Floor: 2, Spans: spans}
	told(t, "Install", l, st, 1, 2, 3, 4, 5, 6, 7, 8, 30)
	for _, r := range []api.Redo{rec(2, 1, 1), rec(3, 2, 1), rec(6, 5, 2), rec(8, 6, 4), rec(30, 7, 0)} {
		if got, is := l.Hot().Get(r.LSN); !is || !redo.Same(got, r) {
			t.Errorf("%v instead of %v", got, r)
		}
	}
	if !same(l, opened(t, d)) {
		t.Error("Open has another one")
	}
	// The same epoch, other spans: these count in place of those.
	ok(t, l.Install(4, []api.Span{cut(1, 8, 9)}, []api.Redo{rec(9, 8, 1), rec(10, 9, 0)}))
	st.Spans = []api.Span{cut(1, 8, 9)}
	told(t, "other spans", l, st, 1, 2, 3, 4, 5, 6, 7, 8, 9, 10, 30)
	ok(t, l.Install(4, nil, nil))
	st.Spans = nil
	told(t, "no spans", l, st, 1, 2, 3, 4, 5, 6, 7, 8, 9, 10, 30)
	if !same(l, opened(t, d)) {
		t.Error("Open has another one")
	}
	ok(t, l.Promise(api.MaxEpoch), l.Install(api.MaxEpoch, nil, nil))
	st.Promise, st.Installed = api.MaxEpoch, api.MaxEpoch
	told(t, "the greatest", opened(t, d), st, 1, 2, 3, 4, 5, 6, 7, 8, 9, 10, 30)
}

// P10.3: of a log to which nothing was told epoch 0 can be installed.
func TestInstallFirst(t *testing.T) {
	d, l := fresh(t, 60)
	still(t, "not promised", d, l, api.ErrState, func() error { return l.Install(1, nil, nil) })
	ok(t, l.Install(0, nil, []api.Redo{rec(1, 0, 3)}))
	told(t, "Install", opened(t, d), slog.State{}, 1)
}

// P10.3: Floor rises.
func TestFloor(t *testing.T) {
	d, l := lived(t, 60, born(2, false), promise(3))
	st := slog.State{Promise: 3, Inc: 2}
	for _, lsn := range []int64{-1, math.MinInt64, api.MaxLSN + 1, math.MaxInt64} {
		still(t, fmt.Sprint(lsn), d, l, api.ErrRange, func() error { return l.Floor(lsn) })
	}
	still(t, "0", d, l, nil, func() error { return l.Floor(0) })
	for _, lsn := range []int64{1, 7, 8, api.MaxLSN} {
		ok(t, l.Floor(lsn))
		st.Floor = lsn
		told(t, "Floor", l, st)
		still(t, "the same", d, l, nil, func() error { return l.Floor(lsn) })
		still(t, "one below", d, l, nil, func() error { return l.Floor(lsn - 1) })
		still(t, "0", d, l, nil, func() error { return l.Floor(0) })
		still(t, "-1", d, l, api.ErrRange, func() error { return l.Floor(-1) })
		still(t, "too great", d, l, api.ErrRange, func() error { return l.Floor(api.MaxLSN + 1) })
	}
	if !same(l, opened(t, d)) {
		t.Error("Open has another one")
	}
}

// P10.3: Born is for what is as of an empty disk.
func TestBorn(t *testing.T) {
	for _, whole := range []bool{false, true} {
		d, l := fresh(t, 9)
		for _, inc := range []int{0, -1, math.MinInt, 1<<30 + 1, math.MaxInt} {
			still(t, fmt.Sprint(inc), d, l, api.ErrRange, func() error { return l.Born(inc, whole) })
		}
		for _, inc := range []int{1, 1 << 30} {
			d, l := fresh(t, 9)
			ok(t, l.Born(inc, whole))
			told(t, "Born", l, slog.State{Inc: inc, Whole: whole})
			told(t, "Born, and opened", opened(t, d), slog.State{Inc: inc, Whole: whole})
			for _, again := range []int{inc, 2, 0, -1} {
				still(t, "again", d, l, api.ErrState, func() error { return l.Born(again, !whole) })
			}
		}
	}
	for _, s := range []step{promise(1), floor(1), records(rec(1, 0, 0)), install(0, []api.Span{cut(1, 0, 1)})} {
		d, l := lived(t, 9, s)
		for _, inc := range []int{1, 0} {
			still(t, s.name, d, l, api.ErrState, func() error { return l.Born(inc, true) })
			m := opened(t, d)
			still(t, s.name+", opened", d, m, api.ErrState, func() error { return m.Born(inc, true) })
		}
	}
	// What tells nothing changes neither State nor Hot.
	_, l := lived(t, 9, install(0, nil), promise(0), floor(0), records())
	ok(t, l.Born(4, false))
	// Nor is anything left of spans that others came in place of.
	_, l = lived(t, 9, install(0, []api.Span{cut(1, 0, 1)}), install(0, nil))
	ok(t, l.Born(4, false))
}

// P10.3: Hydrate is for what was born, and is not whole; its errors come in their order.
func TestHydrateWrong(t *testing.T) {
	bad := slog.State{Promise: -1, Spans: []api.Span{{}}}
	for what, steps := range map[string][]step{
		"not born":         nil,
		"not born, though": {promise(1), floor(3), records(rec(1, 0, 0))},
		"born whole":       {born(1, true)},
		"whole since":      {born(1, false), hydrate(slog.State{})},
	} {
		d, l := lived(t, 9, steps...)
		still(t, what, d, l, api.ErrState, func() error { return l.Hydrate(bad, []api.Redo{{}}) })
		still(t, what, d, l, api.ErrState, func() error { return l.Hydrate(slog.State{Promise: 1, Inc: 4}, nil) })
		m := opened(t, d)
		still(t, what+", opened", d, m, api.ErrState, func() error { return m.Hydrate(slog.State{}, nil) })
	}
	d, l := lived(t, 60, born(1, false), records(chain(1, 2, 0)...))
	many := make([]api.Span, api.MaxSpans+1)
	for _, s := range []slog.State{
		{Promise: -1, Spans: many}, {Promise: api.MaxEpoch + 1, Spans: many}, {Promise: math.MinInt}, {Installed: -1, Spans: many},
		{Installed: api.MaxEpoch + 1, Spans: many}, {Floor: -1, Spans: many}, {Floor: api.MaxLSN + 1, Spans: many}, {Floor: math.MaxInt64},
	} {
		still(t, fmt.Sprint(s), d, l, api.ErrRange, func() error {
			err := l.Hydrate(s, []api.Redo{with(rec(1, 0, 0), func(r *api.Redo) { r.Kind = 0 })})
			if err != api.ErrRange {
				t.Error(err)
			}
			return err
		})
	}
	for want, spans := range map[error][]api.Span{api.ErrMany: many, api.ErrRange: {{}}, api.ErrShape: {cut(3, 1, 9), cut(4, 1, 9)}} {
		still(t, "spans", d, l, want, func() error {
			err := l.Hydrate(slog.State{Spans: spans}, []api.Redo{with(rec(3, 2, 0), func(r *api.Redo) { r.Kind = 0 })})
			if fmt.Sprint(err) != fmt.Sprint(span.Valid(spans...)) {
				t.Error("not span.Valid's:", err)
			}
			return err
		})
	}
	for want, all := range wrongs() {
		for _, recs := range all {
			still(t, "Hydrate", d, l, want, func() error { return l.Hydrate(slog.State{Spans: []api.Span{cut(4, 0, 9)}}, recs) })
		}
	}
}

// P10.3: Hydrate takes all of the State but Inc and Whole, and what can be added of the records.
func TestHydrate(t *testing.T) {
	spans := []api.Span{cut(8, 3, 50)}
	for _, s := range []slog.State{
		{Promise: 9, Installed: 8, Inc: 77, Whole: false, Floor: 2, Spans: spans},
		{Promise: 1, Installed: 8, Inc: -5, Whole: true, Floor: 1, Spans: spans},
		{Spans: spans},
		{Promise: api.MaxEpoch, Installed: api.MaxEpoch, Floor: api.MaxLSN, Spans: spans},
	} {
		d, l := lived(t, 60, born(6, false), promise(4), floor(5), install(4, []api.Span{cut(1, 1, 2)}), records(chain(3, 5, 4)...))
		ok(t, l.Hydrate(s, []api.Redo{rec(1, 0, 0), rec(2, 1, 0), rec(3, 1, 9), rec(4, 3, 7), rec(5, 4, 8), rec(60, 3, 0), rec(60, 4, 0)}))
		st := s
		st.Inc, st.Whole = 6, true
		told(t, "Hydrate", l, st, 1, 2, 3, 5, 60)
		if r, _ := l.Hot().Get(3); !redo.Same(r, rec(3, 2, 4)) {
			t.Error(r)
		}
		if r, _ := l.Hot().Get(60); !redo.Same(r, rec(60, 3, 0)) {
			t.Error(r)
		}
		if !same(l, opened(t, d)) {
			t.Error("Open has another one")
		}
	}
	d, l := lived(t, 60, born(6, false))
	ok(t, l.Hydrate(slog.State{}, nil))
	told(t, "of nothing", l, slog.State{Inc: 6, Whole: true})
	if !same(l, opened(t, d)) {
		t.Error("Open has another one")
	}
}

// What is handed in is neither changed nor kept, nor is what lies behind its length looked at.
func TestHandedIn(t *testing.T) {
	spans := []api.Span{cut(1, 20, 21), cut(2, 20, 30), {}}
	recs := append(chain(1, 4, 2), api.Redo{})
	for name, do := range map[string]func(l *slog.Log) error{
		"Records": func(l *slog.Log) error { _, err := l.Records(recs[:4]...); return err },
		"Install": func(l *slog.Log) error { return l.Install(2, spans[:2], recs[:4]) },
		"Hydrate": func(l *slog.Log) error { return l.Hydrate(slog.State{Spans: spans[:2]}, recs[:4]) },
	} {
		spans[0] = cut(1, 20, 21)
		copy(recs, chain(1, 4, 2))
		_, l := lived(t, 60, born(1, false), promise(2))
		handed := fmt.Sprint(spans, recs)
		ok(t, do(l))
		if fmt.Sprint(spans, recs) != handed {
			t.Errorf("%s changed what it was handed", name)
		}
		was := look(l)
		spans[0] = cut(1, 0, 1)
		for i := range recs {
			clear(recs[i].Key)
			clear(recs[i].Value)
			recs[i].Epoch = 9
		}
		if look(l) != was {
			t.Errorf("%s keeps what it was handed", name)
		}
	}
}

// What is handed out is not the log's own, and stays as it is.
func TestHandedOut(t *testing.T) {
	d, l := lived(t, 60, lives()["blank"]...)
	for _, l := range []*slog.Log{l, opened(t, d)} {
		was, spans := look(l), l.Hot()
		st := l.State()
		st.Spans[0] = cut(7, 7, 8)
		_ = append(l.State().Spans, cut(8, 8, 9))
		h := l.Hot()
		if n, err := h.Cut(cut(99, 0, api.MaxLSN)); n == 0 || err != nil {
			t.Error(n, err)
		}
		for r := range l.Hot().All() {
			clear(r.Key)
		}
		if is, err := l.Hot().Add(rec(500, 499, 20)); !is || err != nil || look(l) != was || !l.Hot().Same(spans) {
			t.Error("State or Hot is the log's own:", err)
		}
	}
	st, h := l.State(), l.Hot()
	told := fmt.Sprint(st, h.Len())
	ok(t, l.Promise(20), l.Install(20, nil, []api.Redo{rec(501, 500, 20)}))
	if fmt.Sprint(st, h.Len()) != told {
		t.Error("State or Hot goes on with the log")
	}
}

// P10.4: behind a crash at any call of the disk, with any picks, Open has what was there ahead of the call, or behind it.
func TestCrash(t *testing.T) {
	for name, steps := range lives() {
		for k, s := range steps {
			_, ahead := lived(t, 60, steps[:k]...)
			_, behind := lived(t, 60, steps[:k+1]...)
			took := behind.Blocks() - ahead.Blocks()
			for arm := 1; arm <= took+1; arm++ {
				for picks := range 1 << min(arm-1, took) {
					d, l := lived(t, 60, steps[:k]...)
					d.Arm(arm)
					if err := s.do(l); err != api.ErrCrash {
						t.Fatal(name, s.name, err)
					}
					var odd []int
					for i := range arm - 1 {
						odd = append(odd, picks>>i)
					}
					d.Crash(odd...)
					want := ahead
					if arm == took+1 && picks == 1<<took-1 {
						want = behind // just if all of its blocks were kept
					}
					got := opened(t, d)
					if !same(got, want) {
						t.Fatalf("%s, %s, armed %d, picks %b: %s", name, s.name, arm, picks, look(got))
					}
					goesOn(t, d, got, steps[k:], want == behind)
				}
			}
		}
	}
}

// goesOn asks that a log that was opened behind a crash does what is left, as one that never fell does.
func goesOn(t *testing.T, d *disk.Disk, l *slog.Log, left []step, done bool) {
	t.Helper()
	if done {
		left = left[1:]
	}
	for i, s := range left {
		if i > 2 {
			break
		}
		ok(t, s.do(l))
		if !same(l, opened(t, d)) {
			t.Fatalf("%s: Open has another one", s.name)
		}
	}
}

// P10.4: so it is from crash to crash, on one disk.
func TestCrashes(t *testing.T) {
	for seed := range int64(300) {
		random := rand.New(rand.NewSource(seed))
		for name, steps := range lives() {
			d := made(t, 40)
			l := opened(t, d)
			for k := 0; k < len(steps); {
				d.Arm(random.Intn(7))
				err := steps[k].do(l)
				if err == nil {
					k++
					continue
				}
				var picks []int
				for range 9 {
					picks = append(picks, random.Intn(4)-1)
				}
				d.Crash(picks...)
				if random.Intn(3) == 0 {
					continue // the same log goes on
				}
				d.Arm(random.Intn(5))
				if l, err = slog.Open(d, group); err != nil {
					d.Crash(picks[3:]...)
					l = opened(t, d)
				}
				d.Arm(0)
				_, ahead := lived(t, 40, steps[:k]...)
				_, behind := lived(t, 40, steps[:k+1]...)
				switch {
				case same(l, behind):
					k++
				case !same(l, ahead):
					t.Fatalf("%s, seed %d, %s: %s", name, seed, steps[k].name, look(l))
				}
			}
			if _, want := lived(t, 40, steps...); !same(l, want) {
				t.Fatalf("%s, seed %d: %s", name, seed, look(l))
			}
		}
	}
}

// plain is a log as the chapter's words have it, without a disk.
type plain struct {
	st   slog.State
	recs map[int64]api.Redo
}

// add is what hot.Add answers, but ErrFull.
func (p *plain) add(r api.Redo) (bool, error) {
	if err := redo.Valid(r); err != nil {
		return false, err
	}
	was, there := p.recs[r.LSN]
	switch {
	case r.Group != group:
		return false, api.ErrShape
	case span.Dead(p.st.Spans, r.LSN, r.Epoch) || there && redo.Same(was, r):
		return false, nil
	case there:
		return false, api.ErrThere
	}
	p.recs[r.LSN] = r
	return true, nil
}

// records, promise, install, floor, born and hydrate are the calls: what they answer, and whether they write.
func (p *plain) records(l2 []api.Redo) (int, error, bool) {
	try := plain{p.st, map[int64]api.Redo{}}
	for lsn, r := range p.recs {
		try.recs[lsn] = r
	}
	n := 0
	for _, r := range l2 {
		is, err := try.add(r)
		if err != nil {
			return 0, err, false
		}
		if is {
			n++
		}
	}
	p.recs = try.recs
	return n, nil, n > 0
}

func (p *plain) promise(epoch int) (error, bool) {
	switch {
	case epoch < 0 || epoch > api.MaxEpoch:
		return api.ErrRange, false
	case epoch < p.st.Promise:
		return api.ErrState, false
	case epoch == p.st.Promise:
		return nil, false
	}
	p.st.Promise = epoch
	return nil, true
}

func (p *plain) install(epoch int, spans []api.Span, recs []api.Redo) (error, bool) {
	if epoch < 0 || epoch > api.MaxEpoch {
		return api.ErrRange, false
	}
	if epoch != p.st.Promise {
		return api.ErrState, false
	}
	st := p.st
	st.Installed, st.Spans = epoch, spans
	return p.settle(st, recs)
}

func (p *plain) hydrate(s slog.State, recs []api.Redo) (error, bool) {
	if p.st.Whole || p.st.Inc == 0 {
		return api.ErrState, false
	}
	if s.Promise < 0 || s.Promise > api.MaxEpoch || s.Installed < 0 || s.Installed > api.MaxEpoch || s.Floor < 0 || s.Floor > api.MaxLSN {
		return api.ErrRange, false
	}
	s.Inc, s.Whole = p.st.Inc, true
	return p.settle(s, recs)
}

func (p *plain) settle(st slog.State, recs []api.Redo) (error, bool) {
	if err := span.Valid(st.Spans...); err != nil {
		return err, false
	}
	for _, r := range recs {
		if err := redo.Valid(r); err != nil {
			return err, false
		}
	}
	for _, r := range recs {
		if r.Group != group {
			return api.ErrShape, false
		}
	}
	p.st = st
	for lsn, r := range p.recs {
		if span.Dead(st.Spans, lsn, r.Epoch) {
			delete(p.recs, lsn)
		}
	}
	for _, r := range recs {
		p.add(r)
	}
	return nil, true
}

func (p *plain) floor(lsn int64) (error, bool) {
	if lsn < 0 || lsn > api.MaxLSN {
		return api.ErrRange, false
	}
	rises := lsn > p.st.Floor
	p.st.Floor = max(lsn, p.st.Floor)
	return nil, rises
}

func (p *plain) born(inc int, whole bool) (error, bool) {
	switch {
	case fmt.Sprint(p.st) != fmt.Sprint(slog.State{}) || len(p.recs) > 0:
		return api.ErrState, false
	case inc < 1 || inc > 1<<30:
		return api.ErrRange, false
	}
	p.st.Inc, p.st.Whole = inc, whole
	return nil, true
}

// look is what a log tells that has the same, but Blocks.
func (p *plain) look() string {
	var recs []api.Redo
	for _, r := range p.recs {
		recs = append(recs, r)
	}
	return fmt.Sprint(p.st, redo.Sort(recs...))
}

// some are few records, small ones, so that many have an LSN in common; some of them are not right.
func some(random *rand.Rand) []api.Redo {
	var out []api.Redo
	for range random.Intn(5) {
		lsn := random.Int63n(12) + 1
		r := api.Redo{LSN: lsn, Back: lsn - 1, Epoch: random.Intn(4), Group: group, Kind: api.Format}
		switch random.Intn(40) {
		case 0:
			r.LSN = 0
		case 1:
			r.Group = 0
		case 2:
			r.Kind = 9
		case 3:
			r.Key = make([]byte, 40)
		}
		out = append(out, r)
	}
	return out
}

// cuts are few spans, most of them right.
func cuts(random *rand.Rand) []api.Span {
	var out []api.Span
	epoch, to := 0, int64(0)
	for range random.Intn(4) {
		epoch, to = epoch+random.Intn(8)/2, to+random.Int63n(6)
		out = append(out, cut(epoch, to/2, to))
	}
	return out
}

// P10.1, P10.3: a log answers as the words have it, whatever comes, and so does it when it is opened anew.
func TestAsTheWords(t *testing.T) {
	for seed := range int64(300) {
		random := rand.New(rand.NewSource(seed))
		d, l := fresh(t, 200)
		p := &plain{recs: map[int64]api.Redo{}}
		for i := range 60 {
			var got, want error
			n, m := 0, 0
			writes := false
			end, calls := l.Blocks(), d.Calls()
			recs, spans, epoch := some(random), cuts(random), p.st.Promise+random.Intn(3)-1
			switch random.Intn(7) {
			case 0, 1:
				n, got = l.Records(recs...)
				m, want, writes = p.records(recs)
			case 2:
				got = l.Promise(epoch)
				want, writes = p.promise(epoch)
			case 3:
				got = l.Install(epoch, spans, recs)
				want, writes = p.install(epoch, spans, recs)
			case 4:
				lsn := p.st.Floor + random.Int63n(4) - 2
				got = l.Floor(lsn)
				want, writes = p.floor(lsn)
			case 5:
				inc := random.Intn(3)
				got = l.Born(inc, i > 9)
				want, writes = p.born(inc, i > 9)
			case 6:
				s := slog.State{Promise: epoch, Installed: random.Intn(9) - 1, Inc: 9, Floor: random.Int63n(9) - 1, Spans: spans}
				got = l.Hydrate(s, recs)
				want, writes = p.hydrate(s, recs)
			}
			if n != m || fmt.Sprint(got) != fmt.Sprint(want) {
				t.Fatalf("seed %d, call %d: %d, %v, want %d, %v", seed, i, n, got, m, want)
			}
			if look(l) != p.look()+fmt.Sprint(" ", l.Blocks()) {
				t.Fatalf("seed %d, call %d: %s, want %s", seed, i, look(l), p.look())
			}
			if took := l.Blocks() - end; writes && (took < 1 || d.Calls() != calls+took+1) || !writes && (took != 0 || d.Calls() != calls) || d.Pending() != 0 {
				t.Fatalf("seed %d, call %d: %d blocks, %d calls", seed, i, took, d.Calls()-calls)
			}
			again := opened(t, d)
			if !same(l, again) {
				t.Fatalf("seed %d, call %d: Open has %s, want %s", seed, i, look(again), look(l))
			}
			if random.Intn(4) == 0 {
				l = again
			}
		}
	}
}
