package vers_test

import (
	"bytes"
	"fmt"
	"math"
	"math/rand"
	"slices"
	"testing"

	"sextet/api"
	"sextet/hot"
	"sextet/page"
	"sextet/redo"
	"sextet/vers"
)

// group is the group of the logs here.
const group = 1

// rec is a record of epoch 1 that puts its own key at the end of a page.
func rec(lsn, back int64, id int) api.Redo {
	return api.Redo{
		LSN: lsn, Back: back, Epoch: 1, Group: group, Page: id, Kind: api.Insert, Slot: api.MaxEntries,
		Key: fmt.Appendf(nil, "%d", lsn), Value: fmt.Appendf(nil, "value of %d", lsn),
	}
}

// of is r as one of another kind and slot.
func of(r api.Redo, kind, slot int) api.Redo {
	r.Kind, r.Slot = kind, slot
	return r
}

// at is r as one of another epoch.
func at(r api.Redo, epoch int) api.Redo {
	r.Epoch = epoch
	return r
}

// cut is a span.
func cut(epoch int, from, to int64) api.Span { return api.Span{Epoch: epoch, From: from, To: to} }

// add hands records to a log, which has to take them.
func add(t *testing.T, l *hot.Log, recs ...api.Redo) {
	t.Helper()
	for _, r := range recs {
		if is, err := l.Add(r); !is || err != nil {
			t.Fatalf("Add(%v): %v, %v", r, is, err)
		}
	}
}

// made is a log that has these records.
func made(t *testing.T, recs ...api.Redo) *hot.Log {
	t.Helper()
	l := hot.New(group)
	add(t, l, recs...)
	return l
}

// cutBy asks that a Cut by these spans does away with n records.
func cutBy(t *testing.T, l *hot.Log, n int, spans ...api.Span) {
	t.Helper()
	if got, err := l.Cut(spans...); got != n || err != nil {
		t.Fatalf("Cut(%v): %d, %v, want %d", spans, got, err, n)
	}
}

// some are nine records, in a chain from 10 to 90, of the pages 5, 0, 5, 255, 0, 5, 7, 5, 0.
func some() []api.Redo {
	var out []api.Redo
	for i, id := range []int{5, 0, 5, 255, 0, 5, 7, 5, 0} {
		out = append(out, rec(int64(10*i+10), int64(10*i), id))
	}
	return out
}

// text is a page as text: its number, LSN, level, next one and keys.
func text(p api.Page) string {
	keys := ""
	for _, e := range p.Entries {
		keys += " " + string(e.Key)
	}
	return fmt.Sprintf("%d@%d %d>%d%s", p.ID, p.LSN, p.Level, p.Next, keys)
}

// asker is At of a log, or of a base and a log.
type asker func(id int, lsn int64) (api.Page, error)

// ofLog is vers.At of l.
func ofLog(l *hot.Log) asker {
	return func(id int, lsn int64) (api.Page, error) { return vers.At(l, id, lsn) }
}

// ofBase is b.At of l.
func ofBase(b *vers.Base, l *hot.Log) asker {
	return func(id int, lsn int64) (api.Page, error) { return b.At(l, id, lsn) }
}

// tells asks that ask answers that page, as text.
func tells(t *testing.T, ask asker, id int, lsn int64, want string) {
	t.Helper()
	if p, err := ask(id, lsn); text(p) != want || err != nil {
		t.Errorf("At(%d, %d): %s, %v, want %s", id, lsn, text(p), err, want)
	}
}

// refuses asks that ask answers that error, and the zero page.
func refuses(t *testing.T, ask asker, id int, lsn int64, want error) {
	t.Helper()
	if p, err := ask(id, lsn); !page.Same(p, api.Page{}) || err != want {
		t.Errorf("At(%d, %d): %v, %v, want %v", id, lsn, p, err, want)
	}
}

// raises asks what Raise answers, and what Floor and Len tell then.
func raises(t *testing.T, b *vers.Base, l *hot.Log, to, floor int64, keeps int) {
	t.Helper()
	if n := b.Raise(l, to); n != keeps {
		t.Errorf("Raise(%d): %d, want %d", to, n, keeps)
	}
	stands(t, b, floor, keeps)
}

// stands asks what Floor and Len tell.
func stands(t *testing.T, b *vers.Base, floor int64, keeps int) {
	t.Helper()
	if b.Floor() != floor || b.Len() != keeps {
		t.Errorf("Floor %d, Len %d, want %d, %d", b.Floor(), b.Len(), floor, keeps)
	}
}

// wrong are pages and LSNs that aren't right, one of them or both.
func wrong() []struct {
	id  int
	lsn int64
} {
	return []struct {
		id  int
		lsn int64
	}{
		{-1, 50}, {api.MaxPages, 50}, {math.MinInt, 50}, {math.MaxInt, 50}, {api.MaxPages + 5, 50}, {-251, 50},
		{5, -1}, {5, api.MaxLSN + 1}, {5, math.MinInt64}, {5, math.MaxInt64},
		{-1, 0}, {-1, -1}, {api.MaxPages, api.MaxLSN + 1}, {9, -1}, {9, api.MaxLSN + 1},
	}
}

// pageAt is the page that recs make by the words of the chapter, and whether there is one.
func pageAt(recs []api.Redo, id int, lsn int64) (api.Page, bool) {
	p, is := page.New(id), false
	for _, r := range recs {
		if r.Page == id && r.LSN <= lsn {
			p, is = page.Apply(p, r), true
		}
	}
	return p, is
}

// asPlain holds what ask tells of that page and LSN against what recs (rising) make.
func asPlain(t *testing.T, what string, ask asker, recs []api.Redo, id int, lsn int64) {
	t.Helper()
	p, err := ask(id, lsn)
	want, is := pageAt(recs, id, lsn)
	switch {
	case is && (err != nil || !page.Same(p, want)):
		t.Errorf("%s: At(%d, %d): %s, %v, want %s", what, id, lsn, text(p), err, text(want))
	case !is && (err != api.ErrNone || !page.Same(p, api.Page{})):
		t.Errorf("%s: At(%d, %d): %s, %v, want none", what, id, lsn, text(p), err)
	}
}

// P11.1: the page as l's records up to an LSN made it, on both sides of each of them.
func TestAt(t *testing.T) {
	l := made(t, some()...)
	for _, x := range []struct {
		id   int
		lsn  int64
		want string
	}{
		{5, 10, "5@10 0>-1 10"}, {5, 11, "5@10 0>-1 10"}, {5, 29, "5@10 0>-1 10"}, {5, 30, "5@30 0>-1 10 30"},
		{5, 59, "5@30 0>-1 10 30"}, {5, 60, "5@60 0>-1 10 30 60"}, {5, 79, "5@60 0>-1 10 30 60"}, {5, 80, "5@80 0>-1 10 30 60 80"},
		{5, 90, "5@80 0>-1 10 30 60 80"}, {5, 1000, "5@80 0>-1 10 30 60 80"}, {5, api.MaxLSN, "5@80 0>-1 10 30 60 80"},
		{0, 20, "0@20 0>-1 20"}, {0, 50, "0@50 0>-1 20 50"}, {0, 89, "0@50 0>-1 20 50"}, {0, 90, "0@90 0>-1 20 50 90"},
		{255, 40, "255@40 0>-1 40"}, {255, 41, "255@40 0>-1 40"}, {7, 70, "7@70 0>-1 70"},
	} {
		tells(t, ofLog(l), x.id, x.lsn, x.want)
	}
}

// P11.1: ErrNone, if there is no record of that page up to there.
func TestAtNone(t *testing.T) {
	l := made(t, some()...)
	for _, x := range []struct {
		id  int
		lsn int64
	}{{5, 0}, {5, 9}, {0, 0}, {0, 10}, {0, 19}, {255, 39}, {7, 69}, {1, 90}, {6, 90}, {254, api.MaxLSN}, {1, 0}} {
		refuses(t, ofLog(l), x.id, x.lsn, api.ErrNone)
	}
	for _, lsn := range []int64{0, 1, api.MaxLSN} {
		refuses(t, ofLog(hot.New(group)), 0, lsn, api.ErrNone)
		refuses(t, ofLog(hot.New(group)), api.MaxPages-1, lsn, api.ErrNone)
	}
}

// P11.1: ErrRange, ahead of ErrNone, whatever the log has.
func TestAtWrong(t *testing.T) {
	for _, x := range wrong() {
		refuses(t, ofLog(made(t, some()...)), x.id, x.lsn, api.ErrRange)
		refuses(t, ofLog(hot.New(group)), x.id, x.lsn, api.ErrRange)
	}
}

// P11.1: a record of LSN MaxLSN, and one of 1, count at their LSN.
func TestAtLimits(t *testing.T) {
	l := made(t, rec(1, 0, 0), rec(api.MaxLSN, 1, 0), rec(api.MaxLSN-1, 1, 255))
	refuses(t, ofLog(l), 0, 0, api.ErrNone)
	tells(t, ofLog(l), 0, 1, "0@1 0>-1 1")
	tells(t, ofLog(l), 0, api.MaxLSN-1, "0@1 0>-1 1")
	tells(t, ofLog(l), 0, api.MaxLSN, "0@1099511627776 0>-1 1 1099511627776")
	refuses(t, ofLog(l), 255, api.MaxLSN-2, api.ErrNone)
	tells(t, ofLog(l), 255, api.MaxLSN-1, "255@1099511627775 0>-1 1099511627775")
	b := vers.NewBase()
	raises(t, b, l, math.MaxInt64, api.MaxLSN-1, 2)
	tells(t, ofBase(b, l), 0, api.MaxLSN-1, "0@1 0>-1 1")
	tells(t, ofBase(b, l), 0, api.MaxLSN, "0@1099511627776 0>-1 1 1099511627776")
}

// kinds are records of one page, one of each kind, and again, that do what can be told.
func kinds() []api.Redo {
	var out []api.Redo
	for i, x := range []struct{ kind, slot int }{
		{api.Format, 3}, {api.Insert, 0}, {api.Insert, 0}, {api.Insert, 9}, {api.Link, 17}, {api.Change, 1}, {api.Remove, 0},
		{api.Link, api.MaxPages}, {api.Cut, 1}, {api.Insert, 1}, {api.Change, 7}, {api.Format, 99}, {api.Insert, 5}, {api.Link, 0},
	} {
		out = append(out, of(rec(int64(2*i+2), int64(2*i), 5), x.kind, x.slot))
	}
	return out
}

// P11.1, P11.2: records of each kind, whatever LSN is asked for, with a floor at any place.
func TestKinds(t *testing.T) {
	recs := kinds()
	l := made(t, recs...)
	tells(t, ofLog(l), 5, 10, "5@10 3>17 6 4 8")
	tells(t, ofLog(l), 5, 20, "5@20 3>-1 4 20")
	tells(t, ofLog(l), 5, 24, "5@24 16>-1")
	tells(t, ofLog(l), 5, 28, "5@28 16>0 26")
	for floor := range int64(31) {
		b := vers.NewBase()
		b.Raise(l, floor)
		for lsn := range int64(31) {
			asPlain(t, "all", ofLog(l), recs, 5, lsn)
			if lsn >= b.Floor() {
				asPlain(t, "from a floor", ofBase(b, l), recs, 5, lsn)
			}
		}
	}
}

// P11.1: more records than the page has room for: those that find none still give it their LSN.
func TestMany(t *testing.T) {
	l, b := hot.New(group), vers.NewBase()
	var recs []api.Redo
	for i := range int64(300) {
		recs = append(recs, rec(i+1, i, 5))
	}
	add(t, l, recs...)
	tells(t, ofLog(l), 5, 300, "5@300 0>-1 1 2 3 4 5 6 7 8")
	raises(t, b, l, 150, 150, 1)
	tells(t, ofBase(b, l), 5, 300, "5@300 0>-1 1 2 3 4 5 6 7 8")
	tells(t, ofBase(b, l), 5, 150, "5@150 0>-1 1 2 3 4 5 6 7 8")
}

// P11.1: each record of l counts, whether SCL is reached or not, in whatever order they came.
func TestAtBeyondSCL(t *testing.T) {
	recs := []api.Redo{rec(1, 0, 5), rec(4, 3, 5), at(rec(6, 1, 5), 0), at(rec(9, 8, 6), 7)}
	l := made(t, recs[3], recs[1], recs[2], recs[0])
	tells(t, ofLog(l), 5, 9, "5@6 0>-1 1 4 6")
	tells(t, ofLog(l), 6, 9, "6@9 0>-1 9")
	if got := fmt.Sprint(vers.Ids(l, 9)); got != "[5 6]" {
		t.Error(got)
	}
	b := vers.NewBase()
	raises(t, b, l, 9, 6, 1)
	tells(t, ofBase(b, l), 5, 6, "5@6 0>-1 1 4 6")
	tells(t, ofBase(b, l), 6, 9, "6@9 0>-1 9")
}

// P11.1: Ids are the pages that have a record up to an LSN, rising, each once.
func TestIds(t *testing.T) {
	l := made(t, some()...)
	for _, x := range []struct {
		lsn  int64
		want string
	}{
		{math.MinInt64, "[]"}, {-1, "[]"}, {0, "[]"}, {9, "[]"}, {10, "[5]"}, {19, "[5]"}, {20, "[0 5]"}, {30, "[0 5]"}, {39, "[0 5]"},
		{40, "[0 5 255]"}, {69, "[0 5 255]"}, {70, "[0 5 7 255]"}, {90, "[0 5 7 255]"},
		{api.MaxLSN, "[0 5 7 255]"}, {api.MaxLSN + 1, "[0 5 7 255]"}, {math.MaxInt64, "[0 5 7 255]"},
	} {
		if got := fmt.Sprint(vers.Ids(l, x.lsn)); got != x.want {
			t.Errorf("Ids(%d): %s, want %s", x.lsn, got, x.want)
		}
		if got := vers.Ids(hot.New(group), x.lsn); len(got) > 0 {
			t.Errorf("Ids(%d) of none: %v", x.lsn, got)
		}
	}
}

// P11.1: Ids of all pages, which came falling.
func TestIdsAll(t *testing.T) {
	l := hot.New(group)
	for i := range api.MaxPages {
		add(t, l, rec(int64(i+1), int64(i), api.MaxPages-1-i))
	}
	for lsn := range api.MaxPages + 1 {
		got := vers.Ids(l, int64(lsn))
		if len(got) != lsn || !slices.IsSorted(got) || lsn > 0 && got[0] != api.MaxPages-lsn {
			t.Error(lsn, got)
		}
	}
	raises(t, vers.NewBase(), l, 9999, api.MaxPages, api.MaxPages)
}

// P11.1: what a Cut took away counts no more, and what comes in its place does.
func TestAtCut(t *testing.T) {
	l := made(t, some()...)
	cutBy(t, l, 4, cut(2, 20, 60))
	tells(t, ofLog(l), 5, 90, "5@80 0>-1 10 80")
	refuses(t, ofLog(l), 255, 90, api.ErrNone)
	add(t, l, at(of(rec(40, 20, 5), api.Format, 2), 2))
	tells(t, ofLog(l), 5, 90, "5@80 2>-1 80")
	if got := fmt.Sprint(vers.Ids(l, 69)); got != "[0 5]" {
		t.Error(got)
	}
}

// P11.2: the chapter's example, of several logs.
func TestExample(t *testing.T) {
	for _, l := range []*hot.Log{hot.New(group), made(t, some()...)} {
		b := vers.NewBase()
		stands(t, b, 0, 0)
		raises(t, b, l, 0, 0, 0)
	}
}

// P11.2: to a floor that is greater, else nothing; it tells how many pages are kept then.
func TestRaise(t *testing.T) {
	l, b := made(t, some()...), vers.NewBase()
	for _, x := range []struct {
		to, floor int64
		keeps     int
	}{
		{-1, 0, 0}, {math.MinInt64, 0, 0}, {0, 0, 0}, {1, 1, 0}, {9, 9, 0}, {10, 10, 1}, {9, 10, 1}, {0, 10, 1}, {-5, 10, 1}, {10, 10, 1},
		{19, 19, 1}, {20, 20, 2}, {39, 39, 2}, {45, 45, 3}, {44, 45, 3}, {69, 69, 3}, {math.MinInt64, 69, 3}, {70, 70, 4}, {89, 89, 4}, {90, 90, 4}, {90, 90, 4},
		{91, 90, 4}, {api.MaxLSN, 90, 4}, {math.MaxInt64, 90, 4}, {0, 90, 4},
	} {
		raises(t, b, l, x.to, x.floor, x.keeps)
	}
}

// P11.2: up to the SCL at most, as it is at the time.
func TestRaiseToSCL(t *testing.T) {
	l, b := made(t, some()[1:]...), vers.NewBase()
	raises(t, b, l, 50, 0, 0)
	raises(t, b, hot.New(group), 50, 0, 0)
	add(t, l, some()[0])
	raises(t, b, l, math.MaxInt64, 90, 4)
	add(t, l, rec(120, 110, 9), rec(105, 90, 5))
	raises(t, b, l, 119, 105, 4)
	raises(t, b, l, 104, 105, 4)
	tells(t, ofBase(b, l), 9, 120, "9@120 0>-1 120")
	refuses(t, ofBase(b, l), 9, 119, api.ErrNone)
	add(t, l, rec(110, 105, 5))
	raises(t, b, l, 119, 119, 4)
	raises(t, b, l, 121, 120, 5)
	m := made(t, some()...)
	raises(t, b, m, math.MaxInt64, 90, 4)
}

// P11.2: from the floor on a base tells what At tells, ahead of it ErrNone.
func TestBaseAt(t *testing.T) {
	recs := some()
	l := made(t, recs...)
	for floor := range int64(101) {
		b := vers.NewBase()
		b.Raise(l, floor)
		floor = min(floor, 90)
		for _, id := range []int{0, 1, 5, 7, 255} {
			for _, lsn := range []int64{0, floor - 10, floor - 1, floor, floor + 1, floor + 10, 89, 90, 91, api.MaxLSN} {
				switch {
				case lsn < 0:
					refuses(t, ofBase(b, l), id, lsn, api.ErrRange)
				case lsn < floor:
					refuses(t, ofBase(b, l), id, lsn, api.ErrNone)
				default:
					asPlain(t, fmt.Sprint("floor ", floor), ofBase(b, l), recs, id, lsn)
				}
			}
		}
		stands(t, b, floor, len(vers.Ids(l, floor)))
	}
}

// P11.2: ErrRange, ahead of what the floor says; all stays as it is then.
func TestBaseAtWrong(t *testing.T) {
	l := made(t, some()...)
	for _, floor := range []int64{0, 55, 90} {
		b := vers.NewBase()
		b.Raise(l, floor)
		keeps := b.Len()
		for _, x := range wrong() {
			refuses(t, ofBase(b, l), x.id, x.lsn, api.ErrRange)
			refuses(t, ofBase(b, hot.New(group)), x.id, x.lsn, api.ErrRange)
			stands(t, b, floor, keeps)
		}
	}
}

// P11.2: what At asks for changes nothing, whatever it answers.
func TestBaseAtKeeps(t *testing.T) {
	l, b := made(t, some()...), vers.NewBase()
	b.Raise(l, 45)
	was := l.Clone()
	for range 2 {
		tells(t, ofBase(b, l), 5, 90, "5@80 0>-1 10 30 60 80")
		tells(t, ofBase(b, l), 5, 45, "5@30 0>-1 10 30")
		tells(t, ofBase(b, l), 7, 70, "7@70 0>-1 70")
		refuses(t, ofBase(b, l), 7, 45, api.ErrNone)
		refuses(t, ofBase(b, l), 5, 44, api.ErrNone)
		refuses(t, ofBase(b, l), 9, 90, api.ErrNone)
		stands(t, b, 45, 3)
	}
	if !l.Same(was) {
		t.Error("the log is another one")
	}
}

// P11.2: while l grows by records above the floor, the base tells what At tells.
func TestGrows(t *testing.T) {
	l, b := made(t, some()[:4]...), vers.NewBase()
	raises(t, b, l, 35, 35, 2)
	tells(t, ofBase(b, l), 5, 90, "5@30 0>-1 10 30")
	add(t, l, some()[5:]...)
	tells(t, ofBase(b, l), 5, 90, "5@80 0>-1 10 30 60 80")
	tells(t, ofBase(b, l), 0, 90, "0@90 0>-1 20 90")
	add(t, l, some()[4], rec(36, 30, 2))
	tells(t, ofBase(b, l), 0, 90, "0@90 0>-1 20 50 90")
	tells(t, ofBase(b, l), 2, 36, "2@36 0>-1 36")
	refuses(t, ofBase(b, l), 2, 35, api.ErrNone)
	stands(t, b, 35, 2)
	raises(t, b, l, 90, 36, 3)
	raises(t, b, l, 90, 36, 3)
	tells(t, ofBase(b, l), 5, 90, "5@80 0>-1 10 30 60 80")
}

// P11.2: by steps a base comes to what it comes to at once.
func TestSteps(t *testing.T) {
	recs := kinds()
	l := made(t, recs...)
	once := vers.NewBase()
	once.Raise(l, 26)
	for step := int64(1); step < 9; step++ {
		b := vers.NewBase()
		for floor := int64(0); floor < 26; floor += step {
			b.Raise(l, floor)
		}
		raises(t, b, l, 26, 26, 1)
		for lsn := int64(26); lsn < 30; lsn++ {
			asPlain(t, fmt.Sprint("steps of ", step), ofBase(b, l), recs, 5, lsn)
			asPlain(t, "at once", ofBase(once, l), recs, 5, lsn)
		}
	}
}

// P11.2: behind a Cut a base begins anew, and tells so at once.
func TestCut(t *testing.T) {
	for _, next := range []string{"Floor", "Len", "At", "Raise"} {
		l, b := made(t, some()...), vers.NewBase()
		raises(t, b, l, 70, 70, 4)
		cutBy(t, l, 5, cut(2, 40, 90))
		add(t, l, at(rec(50, 40, 5), 2), at(rec(60, 50, 9), 2))
		switch next {
		case "Floor":
			if b.Floor() != 0 {
				t.Error(b.Floor())
			}
		case "Len":
			if b.Len() != 0 {
				t.Error(b.Len())
			}
		case "At":
			tells(t, ofBase(b, l), 5, 10, "5@10 0>-1 10")
		case "Raise":
			raises(t, b, l, 55, 55, 3)
			raises(t, b, l, 54, 55, 3)
			tells(t, ofBase(b, l), 5, 55, "5@50 0>-1 10 30 50")
			tells(t, ofBase(b, l), 9, 60, "9@60 0>-1 60")
			refuses(t, ofBase(b, l), 7, 90, api.ErrNone)
			refuses(t, ofBase(b, l), 5, 54, api.ErrNone)
			continue
		}
		stands(t, b, 0, 0)
		tells(t, ofBase(b, l), 5, 90, "5@50 0>-1 10 30 50")
		refuses(t, ofBase(b, l), 7, 90, api.ErrNone)
		refuses(t, ofBase(b, l), 5, 9, api.ErrNone)
		stands(t, b, 0, 0)
		raises(t, b, l, 9999, 60, 4)
	}
}

// P11.2: so it is behind any Cut, even one that took nothing away, or what was there already came again.
func TestCutOfNothing(t *testing.T) {
	l, b := made(t, some()...), vers.NewBase()
	for i, do := range []func(){
		func() { cutBy(t, l, 0) },
		func() { cutBy(t, l, 0) },
		func() { cutBy(t, l, 0, cut(1, 0, 90)) },
		func() { cutBy(t, l, 0, cut(1, 0, 90)) },
		func() { cutBy(t, l, 0, cut(9, 90, 100)) },
		func() { cutBy(t, l, 1, cut(9, 89, 100)); cutBy(t, l, 0); add(t, l, some()[8]) },
		func() { cutBy(t, l, 9, cut(9, 0, 100)); cutBy(t, l, 0); add(t, l, some()...) },
	} {
		raises(t, b, l, 60, 60, 3)
		do()
		stands(t, b, 0, 0)
		tells(t, ofBase(b, l), 5, 40, "5@30 0>-1 10 30")
		stands(t, b, 0, 0)
		raises(t, b, l, 50, 50, 3)
		do()
		raises(t, b, l, 20, 20, 2)
		do()
		raises(t, b, l, 0, 0, 0)
		if t.Failed() {
			t.Fatal(i)
		}
	}
}

// P11.2: a Cut that is refused is none.
func TestCutRefused(t *testing.T) {
	l, b := made(t, some()...), vers.NewBase()
	raises(t, b, l, 50, 50, 3)
	for _, s := range []api.Span{{}, cut(0, 0, 90), cut(9, 90, 90), cut(9, 0, api.MaxLSN+1)} {
		if _, err := l.Cut(s); err == nil {
			t.Error(s)
		}
		stands(t, b, 50, 3)
		refuses(t, ofBase(b, l), 5, 49, api.ErrNone)
		raises(t, b, l, 49, 50, 3)
	}
}

// P11.2: what is added, or refused, is no Cut.
func TestAddIsNoCut(t *testing.T) {
	l, b := made(t, some()...), vers.NewBase()
	raises(t, b, l, 50, 50, 3)
	l.Add(some()[2])
	l.Add(at(some()[2], 2))
	l.Add(api.Redo{})
	add(t, l, rec(100, 90, 5))
	stands(t, b, 50, 3)
	raises(t, b, l, 40, 50, 3)
	refuses(t, ofBase(b, l), 5, 49, api.ErrNone)
}

// A clone that has only grown is what it was made of; one that was cut is another one.
func TestClones(t *testing.T) {
	l, b := made(t, some()...), vers.NewBase()
	raises(t, b, l, 50, 50, 3)
	grown := l.Clone()
	add(t, grown, rec(95, 90, 5))
	refuses(t, ofBase(b, grown), 5, 49, api.ErrNone)
	tells(t, ofBase(b, grown), 5, 99, "5@95 0>-1 10 30 60 80 95")
	raises(t, b, grown.Clone(), 30, 50, 3)
	raises(t, b, grown.Clone(), 92, 92, 4)

	less := grown.Clone()
	cutBy(t, less, 6, cut(2, 40, 99))
	stands(t, b, 92, 4)
	tells(t, ofBase(b, less), 5, 9999, "5@30 0>-1 10 30")
	stands(t, b, 0, 0)
	raises(t, b, less, 99, 40, 3)
	raises(t, b, less.Clone(), 20, 40, 3)

	cutBy(t, grown, 7, cut(2, 30, 99))
	stands(t, b, 40, 3)
	cutBy(t, less, 0)
	stands(t, b, 40, 3) // a clone of it was the last one
	raises(t, b, grown, 20, 20, 2)
}

// What Floor told of a Cut stays so, though a clone comes that was made ahead of it.
func TestCloneAheadOfCut(t *testing.T) {
	l, b := made(t, some()...), vers.NewBase()
	c := l.Clone()
	raises(t, b, l, 50, 50, 3)
	cutBy(t, l, 0)
	stands(t, b, 0, 0)
	tells(t, ofBase(b, c), 5, 49, "5@30 0>-1 10 30")
	stands(t, b, 0, 0)
	raises(t, b, c, 70, 70, 4)
	stands(t, b, 70, 4)
}

// Of another log nothing is told that the one ahead left.
func TestOtherLog(t *testing.T) {
	l, m, b := made(t, some()...), made(t, rec(10, 0, 9), rec(60, 10, 5)), vers.NewBase()
	raises(t, b, l, 50, 50, 3)
	tells(t, ofBase(b, m), 5, 60, "5@60 0>-1 60")
	tells(t, ofBase(b, m), 9, 10, "9@10 0>-1 10")
	refuses(t, ofBase(b, m), 0, 90, api.ErrNone)
	raises(t, b, m, 9999, 60, 2)
	raises(t, b, l, 20, 20, 2)
	tells(t, ofBase(b, l), 5, 60, "5@60 0>-1 10 30 60")
}

// Bases of one log go their own ways.
func TestTwoBases(t *testing.T) {
	l, a, b := made(t, some()...), vers.NewBase(), vers.NewBase()
	raises(t, a, l, 50, 50, 3)
	stands(t, b, 0, 0)
	raises(t, b, l, 20, 20, 2)
	stands(t, a, 50, 3)
	refuses(t, ofBase(a, l), 5, 20, api.ErrNone)
	tells(t, ofBase(b, l), 5, 20, "5@10 0>-1 10")
	cutBy(t, l, 0)
	raises(t, a, l, 30, 30, 2)
	stands(t, b, 0, 0)
}

// scribble writes over a page's lists and their spare room.
func scribble(p api.Page) {
	for i, e := range p.Entries {
		for _, b := range [][]byte{e.Key[:cap(e.Key)], e.Value[:cap(e.Value)]} {
			copy(b, bytes.Repeat([]byte{'X'}, len(b)))
		}
		p.Entries[i] = api.Entry{}
	}
	l := p.Entries[:cap(p.Entries)]
	for i := range l {
		l[i].Key = []byte("spare")
	}
}

// P0.4: each list handed out is new memory.
func TestHandedOut(t *testing.T) {
	recs := some()
	l, b := made(t, recs...), vers.NewBase()
	b.Raise(l, 45)
	was := l.Clone()
	for _, ask := range []asker{ofLog(l), ofBase(b, l)} {
		for _, lsn := range []int64{45, 60, 90, 45, 60, 90} {
			p, err := ask(5, lsn)
			q, bad := ask(5, lsn)
			if err != nil || bad != nil {
				t.Error(err, bad)
			}
			scribble(p)
			if want, _ := pageAt(recs, 5, lsn); !page.Same(q, want) {
				t.Error("shared:", text(q))
			}
			asPlain(t, "kept", ask, recs, 5, lsn)
		}
	}
	ids := vers.Ids(l, 90)
	clear(ids[:cap(ids)])
	if got := fmt.Sprint(vers.Ids(l, 90)); got != "[0 5 7 255]" {
		t.Error(got)
	}
	b.Raise(l, 90)
	asPlain(t, "raised", ofBase(b, l), recs, 5, 90)
	if !l.Same(was) {
		t.Error("the log is another one")
	}
}

// P0.4: no entries of one answer share memory: an append to one shows in none.
func TestAppend(t *testing.T) {
	l, b := made(t, some()...), vers.NewBase()
	b.Raise(l, 60)
	for _, ask := range []asker{ofLog(l), ofBase(b, l)} {
		p, _ := ask(5, 90)
		for _, e := range p.Entries {
			_ = append(e.Key, "more"...)
			_ = append(e.Value, "more"...)
		}
		if text(p) != "5@80 0>-1 10 30 60 80" || string(p.Entries[0].Value) != "value of 10" || string(p.Entries[1].Value) != "value of 30" {
			t.Error(text(p))
		}
	}
}

// plain is a log and a base by the words of the chapters: records, rising, and a floor.
type plain struct {
	recs  []api.Redo
	floor int64
}

// one is a record by chance, of a few pages.
func one(r *rand.Rand, lsn, back int64, epoch int) api.Redo {
	out := of(rec(lsn, back, r.Intn(4)*85), 1+r.Intn(6), r.Intn(5))
	return at(out, epoch)
}

// raise is how many pages p keeps behind a Raise.
func (p *plain) raise(scl, floor int64) int {
	p.floor = max(p.floor, min(floor, scl))
	return p.keeps()
}

// keeps is how many pages have a record up to the floor.
func (p *plain) keeps() int {
	seen := map[int]int{}
	for _, r := range p.recs {
		if r.LSN <= p.floor {
			seen[r.Page]++
		}
	}
	return len(seen)
}

// P11.1, P11.2: long scripts by chance, held against a plain base.
func TestAsPlain(t *testing.T) {
	for seed := range int64(60) {
		script(t, rand.New(rand.NewSource(seed)))
		if t.Failed() {
			t.Fatal("seed", seed)
		}
	}
}

// script is one of them: a log grows behind its end, is cut, cloned, and a base is raised and asked.
func script(t *testing.T, r *rand.Rand) {
	l, b, p := hot.New(group), vers.NewBase(), &plain{}
	epoch := 1
	for range 150 {
		top := l.Top()
		switch r.Intn(10) {
		case 0, 1, 2, 3:
			x := one(r, top+1+r.Int63n(4), top, epoch)
			add(t, l, x)
			p.recs = append(p.recs, x)
		case 4, 5:
			floor := r.Int63n(top+8) - 2
			if n, want := b.Raise(l, floor), p.raise(l.SCL(), floor); n != want {
				t.Errorf("Raise(%d): %d, want %d", floor, n, want)
			}
		case 6:
			l = l.Clone()
		case 7:
			if r.Intn(5) > 0 {
				break
			}
			epoch++
			from := max(0, top-r.Int63n(6))
			if _, err := l.Cut(cut(epoch, from, top+1)); err != nil {
				t.Fatal(err)
			}
			p.recs, p.floor = slices.Collect(l.All()), 0
			b.At(l, 0, 0)
		default:
			asked(t, r, l, b, p)
		}
		stands(t, b, p.floor, p.keeps())
	}
}

// asked holds some answers against what the words make them.
func asked(t *testing.T, r *rand.Rand, l *hot.Log, b *vers.Base, p *plain) {
	t.Helper()
	id, lsn := r.Intn(5)*85%256, r.Int63n(l.Top()+5)
	asPlain(t, "the log", ofLog(l), p.recs, id, lsn)
	if lsn < p.floor {
		refuses(t, ofBase(b, l), id, lsn, api.ErrNone)
	} else {
		asPlain(t, "the base", ofBase(b, l), p.recs, id, lsn)
	}
	var want []int
	for id := range api.MaxPages {
		if slices.ContainsFunc(p.recs, func(x api.Redo) bool { return x.Page == id && x.LSN <= lsn }) {
			want = append(want, id)
		}
	}
	if got := vers.Ids(l, lsn); !slices.Equal(got, want) {
		t.Errorf("Ids(%d): %v, want %v", lsn, got, want)
	}
}

// P11.1, P11.2: the most records that a log has.
func TestMaxRecs(t *testing.T) {
	l, b := hot.New(group), vers.NewBase()
	for i := range int64(api.MaxRecs) {
		add(t, l, rec(i+1, i, int(i)%api.MaxPages))
	}
	raises(t, b, l, api.MaxRecs-1, api.MaxRecs-1, api.MaxPages)
	p, err := vers.At(l, 255, api.MaxRecs)
	q, bad := b.At(l, 255, api.MaxRecs)
	if err != nil || bad != nil || !page.Same(p, q) || text(p) != "255@16384 0>-1 256 512 768 1024 1280 1536 1792 2048" {
		t.Error(text(p), err, text(q), bad)
	}
	if got := vers.Ids(l, api.MaxRecs); len(got) != api.MaxPages {
		t.Error(got)
	}
	if r, is := l.Get(api.MaxRecs); !is || !redo.Same(r, rec(api.MaxRecs, api.MaxRecs-1, 255)) {
		t.Error(r, is)
	}
}
