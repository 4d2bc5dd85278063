package page_test

import (
	"bytes"
	"encoding/binary"
	"errors"
	"fmt"
	"math"
	"slices"
	"strings"
	"testing"

	"sextet/api"
	"sextet/page"
	"sextet/redo"
	"sextet/wire"
)

// The numbers that the chapter names and package api doesn't.
const (
	maxLevel = 16
	maxSlot  = 1 << 15
)

// entries are entries of texts as `a=1`.
func entries(l ...string) []api.Entry {
	var out []api.Entry
	for _, s := range l {
		k, v, _ := strings.Cut(s, "=")
		out = append(out, api.Entry{Key: []byte(k), Value: []byte(v)})
	}
	return out
}

// some is a page that is right, each field another one than 0.
func some() api.Page {
	return api.Page{ID: 3, LSN: 5, Level: 2, Next: 7, Entries: entries("b=1", "d=22", "f=")}
}

// full is some with as many entries as a page may have.
func full() api.Page {
	p := some()
	p.Entries = entries("a=1", "b=2", "c=3", "d=4", "e=5", "f=6", "g=7", "h=8")
	return p
}

// longEntries are n entries as long as may be.
func longEntries(n int) []api.Entry {
	var out []api.Entry
	for range n {
		out = append(out, api.Entry{Key: bytes.Repeat([]byte{255}, api.MaxKey), Value: bytes.Repeat([]byte{128}, api.MaxValue)})
	}
	return out
}

// greatest is the page that takes the most bytes.
func greatest() api.Page {
	return api.Page{ID: api.MaxPages - 1, LSN: api.MaxLSN, Level: maxLevel, Next: api.MaxPages - 1, Entries: longEntries(api.MaxEntries)}
}

// text tells all that is in p, byte by byte.
func text(p api.Page) string {
	s := fmt.Sprintf("%d@%d %d>%d", p.ID, p.LSN, p.Level, p.Next)
	for _, e := range p.Entries {
		s += fmt.Sprintf(" %q=%q", e.Key, e.Value)
	}
	return s
}

// edit is what makes another page of some, and what Valid tells of it.
type edit struct {
	name string
	do   func(p *api.Page)
	want error
}

// numbers are both sides of each end of each number, and the outermost ones.
func numbers() []edit {
	return []edit{
		{"ID -1", func(p *api.Page) { p.ID = -1 }, api.ErrRange},
		{"ID least of all", func(p *api.Page) { p.ID = math.MinInt }, api.ErrRange},
		{"ID 0", func(p *api.Page) { p.ID = 0 }, nil},
		{"ID MaxPages - 1", func(p *api.Page) { p.ID = api.MaxPages - 1 }, nil},
		{"ID MaxPages", func(p *api.Page) { p.ID = api.MaxPages }, api.ErrRange},
		{"ID 2^32", func(p *api.Page) { p.ID = 1 << 32 }, api.ErrRange},
		{"LSN -1", func(p *api.Page) { p.LSN = -1 }, api.ErrRange},
		{"LSN least of all", func(p *api.Page) { p.LSN = math.MinInt64 }, api.ErrRange},
		{"LSN 0", func(p *api.Page) { p.LSN = 0 }, nil},
		{"LSN MaxLSN", func(p *api.Page) { p.LSN = api.MaxLSN }, nil},
		{"LSN MaxLSN + 1", func(p *api.Page) { p.LSN = api.MaxLSN + 1 }, api.ErrRange},
		{"LSN greatest of all", func(p *api.Page) { p.LSN = math.MaxInt64 }, api.ErrRange},
		{"Level -1", func(p *api.Page) { p.Level = -1 }, api.ErrRange},
		{"Level 0", func(p *api.Page) { p.Level = 0 }, nil},
		{"Level 16", func(p *api.Page) { p.Level = maxLevel }, nil},
		{"Level 17", func(p *api.Page) { p.Level = maxLevel + 1 }, api.ErrRange},
		{"Level greatest of all", func(p *api.Page) { p.Level = math.MaxInt }, api.ErrRange},
		{"Next -2", func(p *api.Page) { p.Next = -2 }, api.ErrRange},
		{"Next least of all", func(p *api.Page) { p.Next = math.MinInt }, api.ErrRange},
		{"Next -1", func(p *api.Page) { p.Next = -1 }, nil},
		{"Next 0", func(p *api.Page) { p.Next = 0 }, nil},
		{"Next itself", func(p *api.Page) { p.Next = p.ID }, nil},
		{"Next MaxPages - 1", func(p *api.Page) { p.Next = api.MaxPages - 1 }, nil},
		{"Next MaxPages", func(p *api.Page) { p.Next = api.MaxPages }, api.ErrRange},
		{"Next greatest of all", func(p *api.Page) { p.Next = math.MaxInt }, api.ErrRange},
	}
}

// lists are numbers of entries, and lengths of what they have.
func lists() []edit {
	return []edit{
		{"as it is", func(p *api.Page) {}, nil},
		{"of zeros", func(p *api.Page) { *p = api.Page{} }, nil},
		{"the greatest", func(p *api.Page) { *p = greatest() }, nil},
		{"no entries", func(p *api.Page) { p.Entries = nil }, nil},
		{"an empty list", func(p *api.Page) { p.Entries = []api.Entry{} }, nil},
		{"one empty entry", func(p *api.Page) { p.Entries = make([]api.Entry, 1) }, nil},
		{"MaxEntries", func(p *api.Page) { *p = full() }, nil},
		{"MaxEntries empty ones", func(p *api.Page) { p.Entries = make([]api.Entry, api.MaxEntries) }, nil},
		{"MaxEntries + 1", func(p *api.Page) { p.Entries = make([]api.Entry, api.MaxEntries+1) }, api.ErrMany},
		{"many entries", func(p *api.Page) { p.Entries = make([]api.Entry, 200) }, api.ErrMany},
		{"keys that fall and come twice", func(p *api.Page) { p.Entries = entries("z=1", "a=2", "a=3") }, nil},
		{"a key of MaxKey", func(p *api.Page) { p.Entries[1].Key = make([]byte, api.MaxKey) }, nil},
		{"the first key MaxKey + 1", func(p *api.Page) { p.Entries[0].Key = make([]byte, api.MaxKey+1) }, api.ErrMany},
		{"the last key MaxKey + 1", func(p *api.Page) { p.Entries[2].Key = make([]byte, api.MaxKey+1) }, api.ErrMany},
		{"a key of MaxValue", func(p *api.Page) { p.Entries[1].Key = make([]byte, api.MaxValue) }, api.ErrMany},
		{"a value of MaxKey + 1", func(p *api.Page) { p.Entries[1].Value = make([]byte, api.MaxKey+1) }, nil},
		{"a value of MaxValue", func(p *api.Page) { p.Entries[1].Value = make([]byte, api.MaxValue) }, nil},
		{"the first value MaxValue + 1", func(p *api.Page) { p.Entries[0].Value = make([]byte, api.MaxValue+1) }, api.ErrMany},
		{"the last value MaxValue + 1", func(p *api.Page) { p.Entries[2].Value = make([]byte, api.MaxValue+1) }, api.ErrMany},
	}
}

// edits are all of them.
func edits() []edit { return append(numbers(), lists()...) }

// edited is some with that edit.
func edited(c edit) api.Page {
	p := some()
	c.do(&p)
	return p
}

// right are the pages among them that are right.
func right() []api.Page {
	var out []api.Page
	for _, c := range edits() {
		if c.want == nil {
			out = append(out, edited(c))
		}
	}
	return out
}

// parts are what the chapter says of p's bytes, part by part, by the library.
func parts(p api.Page) [][]byte {
	var out [][]byte
	for _, n := range []int64{int64(p.ID), p.LSN, int64(p.Level), int64(p.Next), int64(len(p.Entries))} {
		out = append(out, binary.AppendVarint(nil, n))
	}
	for _, e := range p.Entries {
		for _, x := range [][]byte{e.Key, e.Value} {
			out = append(out, append(binary.AppendVarint(nil, int64(len(x))), x...))
		}
	}
	return out
}

// joined are parts as one.
func joined(l [][]byte) []byte { return bytes.Join(l, nil) }

// startOf is the place at which part i begins.
func startOf(l [][]byte, i int) int { return len(joined(l[:i])) }

// scribble writes over b and over its spare room.
func scribble(b []byte) {
	b = b[:cap(b)]
	for i := range b {
		b[i] ^= 0xff
	}
}

// scribbleAll writes over all lists of p and over their spare room.
func scribbleAll(p api.Page) {
	for _, e := range p.Entries {
		scribble(e.Key)
		scribble(e.Value)
	}
	l := p.Entries[:cap(p.Entries)]
	for i := range l {
		l[i] = api.Entry{Key: []byte("over"), Value: []byte("it")}
	}
}

// roomy is b with room behind its length that holds 0x5a.
func roomy(b []byte) []byte {
	return append(bytes.Clone(b), bytes.Repeat([]byte{0x5a}, 16)...)[:len(b)]
}

// withRoom is p, each of its lists with room behind its length that holds something.
func withRoom(p api.Page) api.Page {
	var l []api.Entry
	for _, e := range p.Entries {
		l = append(l, api.Entry{Key: roomy(e.Key), Value: roomy(e.Value)})
	}
	p.Entries = append(l, entries("spare=room", "of=it")...)[:len(l)]
	return p
}

// whole tells all that is in p and in the spare room of its lists.
func whole(p api.Page) string {
	p.Entries = slices.Clone(p.Entries[:cap(p.Entries)])
	for i, e := range p.Entries {
		p.Entries[i] = api.Entry{Key: e.Key[:cap(e.Key)], Value: e.Value[:cap(e.Value)]}
	}
	return text(p)
}

// checkOwn asks that what is written into a list of p, or into its spare room, shows in no other one.
func checkOwn(t *testing.T, name string, p api.Page) {
	t.Helper()
	for i := range p.Entries {
		e := &p.Entries[i]
		for _, list := range []*[]byte{&e.Key, &e.Value} {
			one := *list
			*list = nil
			others := text(p)
			scribble(one)
			if text(p) != others {
				t.Errorf("%s: a list of entry %d is shared", name, i)
			}
			scribble(one)
			*list = one
		}
	}
}

// P4.1: of level 0, no next, nothing in it, LSN 0; of any number, that isn't right too.
func TestNew(t *testing.T) {
	for _, id := range []int{0, 1, 3, api.MaxPages - 1, api.MaxPages, -1, math.MinInt, math.MaxInt} {
		p := page.New(id)
		if p.ID != id || p.LSN != 0 || p.Level != 0 || p.Next != -1 || len(p.Entries) != 0 {
			t.Errorf("New(%d): %s", id, text(p))
		}
		want := error(nil)
		if id < 0 || id >= api.MaxPages {
			want = api.ErrRange
		}
		if err := page.Valid(p); err != want {
			t.Errorf("New(%d): %v, want %v", id, err, want)
		}
	}
}

// P4.1: each edge of each field.
func TestValid(t *testing.T) {
	for _, c := range edits() {
		if err := page.Valid(edited(c)); err != c.want {
			t.Errorf("%s: %v, want %v", c.name, err, c.want)
		}
	}
}

// P4.1, P0.2: a number out of its range is ahead of what is too many or too long.
func TestValidInOrder(t *testing.T) {
	for _, c := range numbers() {
		want := c.want
		if want == nil {
			want = api.ErrMany
		}
		for _, l := range [][]api.Entry{make([]api.Entry, 9), {{Key: make([]byte, 33)}}, {{Value: make([]byte, 65)}}} {
			p := edited(c)
			p.Entries = l
			if err := page.Valid(p); err != want {
				t.Errorf("%s, and %d entries that are wrong: %v, want %v", c.name, len(l), err, want)
			}
		}
	}
}

// P4.1: a page is the same as itself and as its like; else as all that is in it tells.
func TestSame(t *testing.T) {
	for _, c := range edits() {
		a, b := edited(c), edited(c)
		if !page.Same(a, a) || !page.Same(a, b) {
			t.Errorf("%s: not the same as itself", c.name)
		}
		if want := text(a) == text(some()); page.Same(a, some()) != want || page.Same(some(), a) != want {
			t.Errorf("%s: the same as without it, want %v", c.name, want)
		}
	}
	for i, do := range []func(p *api.Page){
		func(p *api.Page) { p.ID++ },
		func(p *api.Page) { p.ID += 1 << 32 },
		func(p *api.Page) { p.LSN++ },
		func(p *api.Page) { p.LSN += 1 << 32 },
		func(p *api.Page) { p.Level++ },
		func(p *api.Page) { p.Next++ },
		func(p *api.Page) { p.Level, p.Next = p.Next, p.Level },
		func(p *api.Page) { p.Entries = p.Entries[:2] },
		func(p *api.Page) { p.Entries = p.Entries[1:] },
		func(p *api.Page) { p.Entries = append(p.Entries, api.Entry{}) },
		func(p *api.Page) { p.Entries[0], p.Entries[1] = p.Entries[1], p.Entries[0] },
		func(p *api.Page) { p.Entries[0].Key = []byte("B") },
		func(p *api.Page) { p.Entries[2].Key = []byte("ff") },
		func(p *api.Page) { p.Entries[2].Key = nil },
		func(p *api.Page) { p.Entries[0].Value = []byte("2") },
		func(p *api.Page) { p.Entries[1].Value = []byte("2") },
		func(p *api.Page) { p.Entries[2].Value = []byte{0} },
		func(p *api.Page) { p.Entries[0].Key, p.Entries[0].Value = p.Entries[0].Value, p.Entries[0].Key },
		func(p *api.Page) { p.Entries[1].Key, p.Entries[1].Value = []byte("d2"), []byte("2") },
	} {
		p := some()
		do(&p)
		if page.Same(p, some()) || page.Same(some(), p) {
			t.Errorf("edit %d doesn't tell", i)
		}
	}
}

// P4.1, P0.4: no list is the same as an empty one; what lies behind a list doesn't count.
func TestSameLists(t *testing.T) {
	a, b := some(), some()
	a.Entries, b.Entries = nil, []api.Entry{}
	if !page.Same(a, b) || !page.Same(b, a) {
		t.Error("no entries are others than an empty list")
	}
	a.Entries, b.Entries = []api.Entry{{Value: []byte{}}}, []api.Entry{{Key: []byte{}}}
	if !page.Same(a, b) || !page.Same(b, a) {
		t.Error("no key or value is another one than an empty one")
	}
	if p := withRoom(some()); !page.Same(p, some()) || !page.Same(some(), p) {
		t.Error("the spare room counts")
	}
}

// P4.1, P0.4: a clone is the same, of a page that isn't right too, and shares nothing with it.
func TestClone(t *testing.T) {
	for _, c := range edits() {
		p := withRoom(edited(c))
		want, all := text(edited(c)), whole(p)
		one, two := page.Clone(p), page.Clone(p)
		if text(one) != want || !page.Same(one, p) {
			t.Errorf("%s: the clone is %s, want %s", c.name, text(one), want)
		}
		if len(one.Entries) <= api.MaxEntries {
			checkOwn(t, c.name, one)
		}
		scribbleAll(one)
		if text(two) != want || whole(p) != all {
			t.Errorf("%s: what is written into a clone shows", c.name)
		}
		scribbleAll(p)
		if text(two) != want {
			t.Errorf("%s: what is written into the page shows in its clone", c.name)
		}
	}
}

// P4.1, P0.4: entries that come with one memory go with several.
func TestCloneOfOneMemory(t *testing.T) {
	all := []byte("abcdef")
	p := some()
	p.Entries = []api.Entry{{Key: all[:3], Value: all[1:4]}, {Key: all[:3], Value: all}}
	c := page.Clone(p)
	checkOwn(t, "of one memory", c)
	if text(c) != text(p) || string(all) != "abcdef" {
		t.Errorf("%s, want %s", text(c), text(p))
	}
}

// record is a record that is right for page 3, with an LSN above some's.
func record(kind, slot int) api.Redo {
	return api.Redo{LSN: 9, Page: 3, Kind: kind, Slot: slot, Key: []byte("k"), Value: []byte("v")}
}

// P4.2: each kind, at each edge of its slot, of a page with some entries, of a full and of an empty one.
func TestApply(t *testing.T) {
	empty := page.New(3)
	for _, c := range []struct {
		p          api.Page
		kind, slot int
		want       string
	}{
		{empty, api.Insert, 5, `3@9 0>-1 "k"="v"`},
		{empty, api.Insert, 0, `3@9 0>-1 "k"="v"`},
		{empty, api.Insert, maxSlot, `3@9 0>-1 "k"="v"`},
		{some(), api.Insert, 0, `3@9 2>7 "k"="v" "b"="1" "d"="22" "f"=""`},
		{some(), api.Insert, 1, `3@9 2>7 "b"="1" "k"="v" "d"="22" "f"=""`},
		{some(), api.Insert, 2, `3@9 2>7 "b"="1" "d"="22" "k"="v" "f"=""`},
		{some(), api.Insert, 3, `3@9 2>7 "b"="1" "d"="22" "f"="" "k"="v"`},
		{some(), api.Insert, 4, `3@9 2>7 "b"="1" "d"="22" "f"="" "k"="v"`},
		{some(), api.Insert, maxSlot, `3@9 2>7 "b"="1" "d"="22" "f"="" "k"="v"`},
		{full(), api.Insert, 0, `3@9 2>7 "a"="1" "b"="2" "c"="3" "d"="4" "e"="5" "f"="6" "g"="7" "h"="8"`},
		{full(), api.Insert, 8, `3@9 2>7 "a"="1" "b"="2" "c"="3" "d"="4" "e"="5" "f"="6" "g"="7" "h"="8"`},
		{full(), api.Insert, maxSlot, `3@9 2>7 "a"="1" "b"="2" "c"="3" "d"="4" "e"="5" "f"="6" "g"="7" "h"="8"`},
		{empty, api.Remove, 0, `3@9 0>-1`},
		{some(), api.Remove, 0, `3@9 2>7 "d"="22" "f"=""`},
		{some(), api.Remove, 1, `3@9 2>7 "b"="1" "f"=""`},
		{some(), api.Remove, 2, `3@9 2>7 "b"="1" "d"="22"`},
		{some(), api.Remove, 3, `3@9 2>7 "b"="1" "d"="22" "f"=""`},
		{some(), api.Remove, maxSlot, `3@9 2>7 "b"="1" "d"="22" "f"=""`},
		{full(), api.Remove, 7, `3@9 2>7 "a"="1" "b"="2" "c"="3" "d"="4" "e"="5" "f"="6" "g"="7"`},
		{empty, api.Change, 0, `3@9 0>-1`},
		{some(), api.Change, 0, `3@9 2>7 "b"="v" "d"="22" "f"=""`},
		{some(), api.Change, 2, `3@9 2>7 "b"="1" "d"="22" "f"="v"`},
		{some(), api.Change, 3, `3@9 2>7 "b"="1" "d"="22" "f"=""`},
		{some(), api.Change, maxSlot, `3@9 2>7 "b"="1" "d"="22" "f"=""`},
		{full(), api.Change, 7, `3@9 2>7 "a"="1" "b"="2" "c"="3" "d"="4" "e"="5" "f"="6" "g"="7" "h"="v"`},
		{some(), api.Link, 0, `3@9 2>0 "b"="1" "d"="22" "f"=""`},
		{some(), api.Link, 3, `3@9 2>3 "b"="1" "d"="22" "f"=""`},
		{some(), api.Link, 255, `3@9 2>255 "b"="1" "d"="22" "f"=""`},
		{some(), api.Link, 256, `3@9 2>-1 "b"="1" "d"="22" "f"=""`},
		{some(), api.Link, maxSlot, `3@9 2>-1 "b"="1" "d"="22" "f"=""`},
		{empty, api.Link, 1, `3@9 0>1`},
		{some(), api.Cut, 0, `3@9 2>7`},
		{some(), api.Cut, 1, `3@9 2>7 "b"="1"`},
		{some(), api.Cut, 2, `3@9 2>7 "b"="1" "d"="22"`},
		{some(), api.Cut, 3, `3@9 2>7 "b"="1" "d"="22" "f"=""`},
		{some(), api.Cut, 4, `3@9 2>7 "b"="1" "d"="22" "f"=""`},
		{some(), api.Cut, maxSlot, `3@9 2>7 "b"="1" "d"="22" "f"=""`},
		{empty, api.Cut, 0, `3@9 0>-1`},
		{full(), api.Cut, 4, `3@9 2>7 "a"="1" "b"="2" "c"="3" "d"="4"`},
		{some(), api.Format, 0, `3@9 0>-1`},
		{some(), api.Format, 1, `3@9 1>-1`},
		{full(), api.Format, 16, `3@9 16>-1`},
		{some(), api.Format, 17, `3@9 16>-1`},
		{empty, api.Format, maxSlot, `3@9 16>-1`},
	} {
		q := page.Apply(c.p, record(c.kind, c.slot))
		if text(q) != c.want {
			t.Errorf("kind %d at %d of %s: %s, want %s", c.kind, c.slot, text(c.p), text(q), c.want)
		}
		if err := page.Valid(q); err != nil {
			t.Errorf("kind %d at %d of %s: %v", c.kind, c.slot, text(c.p), err)
		}
	}
}

// P4.2: keys and values as long as may be, and empty ones; a Change has no need of a key.
func TestApplyLists(t *testing.T) {
	r := record(api.Insert, 0)
	r.Key, r.Value = nil, nil
	if q := page.Apply(page.New(3), r); text(q) != `3@9 0>-1 ""=""` {
		t.Errorf("an empty entry: %s", text(q))
	}
	r.Key, r.Value = make([]byte, api.MaxKey), make([]byte, api.MaxValue)
	q := page.Apply(page.New(3), r)
	if len(q.Entries) != 1 || !bytes.Equal(q.Entries[0].Key, r.Key) || !bytes.Equal(q.Entries[0].Value, r.Value) {
		t.Errorf("a long entry: %s", text(q))
	}
	r = record(api.Change, 1)
	r.Key, r.Value = nil, nil
	if q := page.Apply(some(), r); text(q) != `3@9 2>7 "b"="1" "d"="" "f"=""` {
		t.Errorf("changed to nothing: %s", text(q))
	}
	r = record(api.Insert, 0)
	r.Key = []byte("b")
	if q := page.Apply(some(), r); text(q) != `3@9 2>7 "b"="v" "b"="1" "d"="22" "f"=""` {
		t.Errorf("a key that is there: %s", text(q))
	}
}

// P4.2: p as it is, if r is of another page, or its LSN is not above p's; what else r has doesn't count.
func TestApplyOrNot(t *testing.T) {
	for kind := api.Format; kind <= api.Cut; kind++ {
		for _, c := range []struct {
			page    int
			lsn     int64
			applied bool
		}{{3, 6, true}, {3, 5, false}, {3, 4, false}, {3, 1, false}, {3, api.MaxLSN, true}, {2, 6, false}, {4, 6, false}, {0, 6, false}, {255, api.MaxLSN, false}, {4, 5, false}} {
			r := record(kind, 1)
			r.Page, r.LSN = c.page, c.lsn
			q := page.Apply(some(), r)
			if applied := text(q) != text(some()); applied != c.applied || q.ID != 3 {
				t.Errorf("kind %d of page %d, LSN %d: %s", kind, c.page, c.lsn, text(q))
			}
			if c.applied && q.LSN != c.lsn {
				t.Errorf("kind %d: LSN %d, want %d", kind, q.LSN, c.lsn)
			}
			r.Back, r.Epoch, r.Group, r.Last = c.lsn-1, api.MaxEpoch, 3, true
			if more := page.Apply(some(), r); text(more) != text(q) {
				t.Errorf("kind %d: what else the record has counts: %s, %s", kind, text(more), text(q))
			}
		}
		r := record(kind, 0)
		r.LSN = 1
		if q := page.Apply(page.New(3), r); q.LSN != 1 {
			t.Errorf("kind %d: LSN 1 isn't above 0: %s", kind, text(q))
		}
		p := some()
		p.LSN = api.MaxLSN
		r.LSN = api.MaxLSN
		if q := page.Apply(p, r); text(q) != text(p) {
			t.Errorf("kind %d: the greatest LSN is above itself: %s", kind, text(q))
		}
	}
}

// wrongRecords are records of page 3 that aren't right.
func wrongRecords() []api.Redo {
	var out []api.Redo
	for kind := api.Format; kind <= api.Cut; kind++ {
		for _, do := range []func(r *api.Redo){
			func(r *api.Redo) { r.LSN = 0 },
			func(r *api.Redo) { r.LSN = api.MaxLSN + 1 },
			func(r *api.Redo) { r.LSN = math.MaxInt64 },
			func(r *api.Redo) { r.Back = -1 },
			func(r *api.Redo) { r.Back = r.LSN },
			func(r *api.Redo) { r.Epoch = -1 },
			func(r *api.Redo) { r.Group = api.MaxGroups },
			func(r *api.Redo) { r.Slot = -1 },
			func(r *api.Redo) { r.Slot = math.MinInt },
			func(r *api.Redo) { r.Slot = maxSlot + 1 },
			func(r *api.Redo) { r.Slot = math.MaxInt },
			func(r *api.Redo) { r.Kind = 0 },
			func(r *api.Redo) { r.Kind = -kind },
			func(r *api.Redo) { r.Kind = 7 },
			func(r *api.Redo) { r.Key = make([]byte, api.MaxKey+1) },
			func(r *api.Redo) { r.Value = make([]byte, api.MaxValue+1) },
		} {
			r := record(kind, 1)
			do(&r)
			out = append(out, r)
		}
	}
	return out
}

// P4.2, P0.1: a record that isn't right does nothing to any page, nor among others.
func TestApplyWrongRecord(t *testing.T) {
	for _, r := range wrongRecords() {
		for _, p := range []api.Page{page.New(3), some(), full()} {
			if q := page.Apply(p, r); text(q) != text(p) {
				t.Errorf("%v: %s, was %s", r, text(q), text(p))
			}
			if q := page.All(p, r); text(q) != text(p) {
				t.Errorf("%v by All: %s, was %s", r, text(q), text(p))
			}
		}
		q := page.All(page.New(3), record(api.Insert, 0), r)
		if text(q) != `3@9 0>-1 "k"="v"` {
			t.Errorf("%v among others: %s", r, text(q))
		}
	}
}

// P4.2, P0.1: nothing is done to a page that isn't right.
func TestApplyWrongPage(t *testing.T) {
	for _, c := range edits() {
		if c.want == nil {
			continue
		}
		for kind := api.Format; kind <= api.Cut; kind++ {
			p := edited(c)
			r := record(kind, 1)
			r.Page = p.ID
			if q := page.Apply(p, r); text(q) != text(p) {
				t.Errorf("%s, kind %d: %s", c.name, kind, text(q))
			}
			if q := page.All(p, r, r); text(q) != text(p) {
				t.Errorf("%s, kind %d by All: %s", c.name, kind, text(q))
			}
		}
	}
}

// P4.2, P0.4: nothing that is handed in is written to or kept, and no two answers share memory.
func TestApplySharesNothing(t *testing.T) {
	for _, start := range []api.Page{page.New(3), some(), full()} {
		for kind := api.Format; kind <= api.Cut; kind++ {
			for _, slot := range []int{0, 1, 2, 3, 8, maxSlot} {
				for _, lsn := range []int64{9, 1} {
					p, r := withRoom(start), record(kind, slot)
					r.LSN, r.Key, r.Value = lsn, roomy(r.Key), roomy(r.Value)
					all := whole(p)
					one, two := page.Apply(p, r), page.Apply(p, r)
					three, four := page.All(p, r), page.All(p, r)
					want := text(one)
					checkOwn(t, fmt.Sprintf("kind %d at %d of %s", kind, slot, text(start)), one)
					checkOwn(t, fmt.Sprintf("kind %d at %d of %s by All", kind, slot, text(start)), three)
					scribbleAll(one)
					scribbleAll(three)
					if text(two) != want || text(four) != want {
						t.Errorf("kind %d at %d of %s: answers share memory", kind, slot, text(start))
					}
					if whole(p) != all || string(r.Key[:17]) != "k"+strings.Repeat("\x5a", 16) || string(r.Value[:17]) != "v"+strings.Repeat("\x5a", 16) {
						t.Errorf("kind %d at %d of %s: what was handed in is another one", kind, slot, text(start))
					}
					scribbleAll(p)
					scribble(r.Key)
					scribble(r.Value)
					if text(two) != want || text(four) != want {
						t.Errorf("kind %d at %d of %s: what was handed in is kept", kind, slot, text(start))
					}
				}
			}
		}
	}
}

// insert is a record that puts key in at slot.
func insert(lsn int64, epoch, slot int, key string) api.Redo {
	return api.Redo{LSN: lsn, Epoch: epoch, Page: 3, Kind: api.Insert, Slot: slot, Key: []byte(key)}
}

// P4.2: by LSN, then epoch, then as they came; of one LSN the first one alone.
func TestAll(t *testing.T) {
	other := insert(2, 0, 0, "other")
	other.Page = 4
	for _, c := range []struct {
		p    api.Page
		l    []api.Redo
		want string
	}{
		{page.New(3), nil, `3@0 0>-1`},
		{some(), []api.Redo{}, text(some())},
		{page.New(3), []api.Redo{insert(1, 0, 0, "a")}, `3@1 0>-1 "a"=""`},
		{page.New(3), []api.Redo{insert(2, 0, 0, "a"), insert(1, 0, 0, "b"), insert(3, 0, 9, "c")}, `3@3 0>-1 "a"="" "b"="" "c"=""`},
		{page.New(3), []api.Redo{insert(3, 0, 0, "a"), insert(2, 0, 0, "b"), insert(1, 0, 0, "c")}, `3@3 0>-1 "a"="" "b"="" "c"=""`},
		{page.New(3), []api.Redo{insert(1, 2, 0, "a"), insert(1, 1, 0, "b"), insert(1, 3, 0, "c")}, `3@1 0>-1 "b"=""`},
		{page.New(3), []api.Redo{insert(1, 1, 0, "a"), insert(1, 1, 0, "b")}, `3@1 0>-1 "a"=""`},
		{page.New(3), []api.Redo{insert(1, 9, 0, "a"), insert(2, 0, 0, "b")}, `3@2 0>-1 "b"="" "a"=""`},
		{page.New(3), []api.Redo{insert(3, 0, 0, "a"), other, insert(1, 0, 0, "b")}, `3@3 0>-1 "a"="" "b"=""`},
		{page.New(3), []api.Redo{other}, `3@0 0>-1`},
		{some(), []api.Redo{insert(5, 0, 0, "a"), insert(6, 0, 0, "x"), insert(4, 0, 0, "b")}, `3@6 2>7 "x"="" "b"="1" "d"="22" "f"=""`},
		{full(), []api.Redo{insert(7, 0, 0, "a"), {LSN: 6, Page: 3, Kind: api.Cut, Slot: 1}}, `3@7 2>7 "a"="" "a"="1"`},
		{full(), []api.Redo{insert(6, 0, 0, "a"), {LSN: 7, Page: 3, Kind: api.Cut, Slot: 1}}, `3@7 2>7 "a"="1"`},
		{full(), []api.Redo{{LSN: 8, Page: 3, Kind: api.Link, Slot: 9}, {LSN: 7, Page: 3, Kind: api.Format, Slot: 1}}, `3@8 1>9`},
	} {
		before := fmt.Sprint(c.l)
		if q := page.All(c.p, c.l...); text(q) != c.want {
			t.Errorf("%v: %s, want %s", c.l, text(q), c.want)
		}
		if fmt.Sprint(c.l) != before {
			t.Errorf("%v were %s", c.l, before)
		}
	}
}

// P4.2: entries that came of one record's memory are each their own.
func TestAllOfOneMemory(t *testing.T) {
	r := record(api.Insert, 0)
	l := []api.Redo{r, r, r}
	l[1].LSN, l[2].LSN = 10, 11
	q := page.All(page.New(3), l...)
	if text(q) != `3@11 0>-1 "k"="v" "k"="v" "k"="v"` {
		t.Errorf("%s", text(q))
	}
	checkOwn(t, "of one memory", q)
}

// model does what the chapter says of r to p by a way of its own: entry by entry, into new lists.
func model(p api.Page, r api.Redo) api.Page {
	if r.Page != p.ID || r.LSN <= p.LSN {
		return p
	}
	was := p.Entries
	p.LSN, p.Entries = r.LSN, nil
	put := api.Entry{Key: r.Key, Value: r.Value}
	for i, e := range was {
		if r.Kind == api.Insert && len(was) < 8 && i == r.Slot {
			p.Entries = append(p.Entries, put)
		}
		if r.Kind == api.Change && i == r.Slot {
			e.Value = r.Value
		}
		if r.Kind == api.Format || r.Kind == api.Remove && i == r.Slot || r.Kind == api.Cut && i >= r.Slot {
			continue
		}
		p.Entries = append(p.Entries, e)
	}
	if r.Kind == api.Insert && len(was) < 8 && r.Slot >= len(was) {
		p.Entries = append(p.Entries, put)
	}
	if r.Kind == api.Format {
		p.Level, p.Next = r.Slot, -1
		if p.Level > 16 {
			p.Level = 16
		}
	}
	if r.Kind == api.Link {
		p.Next = r.Slot
		if p.Next > 255 {
			p.Next = -1
		}
	}
	return p
}

// P4.2: long runs of records, one by one and all at once, in any order.
func TestManyRecords(t *testing.T) {
	x := uint32(7)
	next := func(n int) int {
		x = x*1664525 + 1013904223
		return int(x>>8) % n
	}
	for range 200 {
		one, want := page.New(3), page.New(3)
		var l []api.Redo
		for i := range 100 {
			r := record([]int{1, 2, 2, 2, 2, 2, 3, 3, 4, 5, 6}[next(11)], []int{next(10), next(10), next(40), next(600)}[next(4)])
			r.LSN, r.Page = int64(i+1+next(2)*next(3)), 3+next(20)/19
			r.Key, r.Value = []byte{byte(i)}, bytes.Repeat([]byte{byte(i)}, next(65))
			one, want = page.Apply(one, r), model(want, r)
			l = append(l, r)
			if text(one) != text(want) || page.Valid(one) != nil {
				t.Fatalf("record %d, %v: %s, want %s", i, r, text(one), text(want))
			}
		}
		slices.Reverse(l)
		sorted := page.New(3)
		for _, r := range redo.Sort(l...) {
			sorted = model(sorted, r)
		}
		if got := page.All(page.New(3), l...); text(got) != text(sorted) {
			t.Fatalf("All: %s, want %s", text(got), text(sorted))
		}
	}
}

// P4.3: the place of the first entry that is not ahead of key, and whether that is key.
func TestFind(t *testing.T) {
	for _, c := range []struct {
		keys string // one key a word
		key  string
		at   int
		is   bool
	}{
		{"", "a", 0, false},
		{"", "", 0, false},
		{"b d f", "", 0, false},
		{"b d f", "a", 0, false},
		{"b d f", "b", 0, true},
		{"b d f", "ba", 1, false},
		{"b d f", "c", 1, false},
		{"b d f", "d", 1, true},
		{"b d f", "d\x00", 2, false},
		{"b d f", "e", 2, false},
		{"b d f", "f", 2, true},
		{"b d f", "ff", 3, false},
		{"b d f", "g", 3, false},
		{"b d f", "\xff", 3, false},
		{"b bb bbb", "bb", 1, true},
		{"b bb bbb", "bbbb", 3, false},
		{"a b c d e f g h", "h", 7, true},
		{"a b c d e f g h", "e", 4, true},
		{"a b c d e f g h", "i", 8, false},
		{"\x7f \x80 \xff", "\x80", 1, true},
		{"\x7f \x80 \xff", "\xfe", 2, false},
		{"b b c", "b", 0, true},
		{"a b b b c", "b", 1, true},
		{"f d b", "d", 0, false},
		{"f d b", "f", 0, true},
		{"a f d b", "d", 1, false},
		{"c b a d", "d", 3, true},
		{"m a z a", "n", 2, false},
	} {
		p := page.New(3)
		p.Entries = entries(strings.Fields(c.keys)...)
		if at, is := page.Find(withRoom(p), roomy([]byte(c.key))); at != c.at || is != c.is {
			t.Errorf("%q among %q: %d, %v, want %d, %v", c.key, c.keys, at, is, c.at, c.is)
		}
	}
}

// P4.3: an empty key is one too; no key is the empty one; keys and pages that aren't right.
func TestFindEdges(t *testing.T) {
	p := some()
	p.Entries = entries("=1", "a=2")
	for _, key := range [][]byte{nil, {}} {
		if at, is := page.Find(p, key); at != 0 || !is {
			t.Errorf("the empty key: %d, %v", at, is)
		}
		if at, is := page.Find(api.Page{Entries: make([]api.Entry, 2)}, key); at != 0 || !is {
			t.Errorf("the empty key of an empty entry: %d, %v", at, is)
		}
	}
	if at, is := page.Find(p, make([]byte, 5000)); at != 1 || is {
		t.Errorf("a long key: %d, %v", at, is)
	}
	p.Entries = make([]api.Entry, 5000)
	p.Entries[4000].Key = []byte("m")
	if at, is := page.Find(p, []byte("m")); at != 4000 || !is {
		t.Errorf("many entries: %d, %v", at, is)
	}
	if at, is := page.Find(p, []byte("n")); at != 5000 || is {
		t.Errorf("behind many entries: %d, %v", at, is)
	}
	if at, is := page.Find(api.Page{ID: -1, Next: -9}, []byte("m")); at != 0 || is {
		t.Errorf("of a page that isn't right: %d, %v", at, is)
	}
}

// P4.3, P0.4: nothing is written to.
func TestFindLeavesWhatItIsGiven(t *testing.T) {
	p, key := withRoom(some()), roomy([]byte("d"))
	all := whole(p)
	page.Find(p, key)
	if whole(p) != all || string(key[:17]) != "d"+strings.Repeat("\x5a", 16) {
		t.Error("written to")
	}
}

// P4.4: known bytes.
func TestBytesKnown(t *testing.T) {
	long := "\x40" + strings.Repeat("\xff", 32) + "\x80\x01" + strings.Repeat("\x80", 64)
	for _, c := range []struct {
		p    api.Page
		want string
	}{
		{page.New(3), "\x06\x00\x00\x01\x00"},
		{api.Page{}, "\x00\x00\x00\x00\x00"},
		{some(), "\x06\x0a\x04\x0e\x06\x02b\x021\x02d\x0422\x02f\x00"},
		{api.Page{ID: 64, LSN: 63, Level: 1, Next: -1, Entries: make([]api.Entry, 2)}, "\x80\x01\x7e\x02\x01\x04\x00\x00\x00\x00"},
		{greatest(), "\xfe\x03" + "\x80\x80\x80\x80\x80\x40" + "\x20" + "\xfe\x03" + "\x10" + strings.Repeat(long, 8)},
	} {
		if b, err := page.Bytes(c.p); string(b) != c.want || err != nil {
			t.Errorf("%s: %q, %v, want %q", text(c.p), b, err, c.want)
		}
	}
}

// P4.4: Valid's errors, with no bytes beside them; else what the chapter says.
func TestBytes(t *testing.T) {
	for _, c := range edits() {
		p := withRoom(edited(c))
		all := whole(p)
		b, err := page.Bytes(p)
		if err != c.want {
			t.Errorf("%s: %v, want %v", c.name, err, c.want)
		}
		if err != nil && len(b) > 0 {
			t.Errorf("%s: %q beside an error", c.name, b)
		}
		if err == nil && !bytes.Equal(b, joined(parts(p))) {
			t.Errorf("%s: %q", c.name, b)
		}
		if whole(p) != all {
			t.Errorf("%s: written to", c.name)
		}
	}
	p := edited(edit{do: func(p *api.Page) { p.ID, p.Entries = -1, make([]api.Entry, 9) }})
	if b, err := page.Bytes(p); len(b) > 0 || err != api.ErrRange {
		t.Errorf("both errors: %q, %v", b, err)
	}
}

// P4.4, P0.4: Bytes hands out new memory.
func TestBytesAreNewMemory(t *testing.T) {
	for _, p := range right() {
		one, _ := page.Bytes(p)
		two, _ := page.Bytes(p)
		was, want := text(p), joined(parts(p))
		scribble(one)
		if !bytes.Equal(two, want) || text(p) != was {
			t.Errorf("%s: an answer is shared", text(p))
		}
	}
}

// P4.4: Read tells what Bytes was given, and how many bytes that has, whatever is behind it.
func TestReadOfBytes(t *testing.T) {
	for _, p := range right() {
		b, err := page.Bytes(p)
		if err != nil {
			t.Fatal(err)
		}
		for _, tail := range []string{"", "\x00", "\x80", "\xff\xff", string(b), strings.Repeat("\x80", 5000)} {
			got, n, err := page.Read(append(bytes.Clone(b), tail...))
			if text(got) != text(p) || n != len(b) || err != nil {
				t.Errorf("%s with %d bytes behind: %s, %d, %v", text(p), len(tail), text(got), n, err)
			}
		}
	}
}

// P4.4: pages one behind the other are read one behind the other.
func TestReadGoesOn(t *testing.T) {
	var all []byte
	for _, p := range right() {
		b, _ := page.Bytes(p)
		all = append(all, b...)
	}
	for _, p := range right() {
		got, n, err := page.Read(all)
		if text(got) != text(p) || err != nil {
			t.Fatalf("%s, %v, want %s", text(got), err, text(p))
		}
		all = all[n:]
	}
	if _, _, err := page.Read(all); !errors.Is(err, api.ErrEnd) {
		t.Errorf("behind the last: %v", err)
	}
}

// checkWrong asks that b is read with that error around that place, and nothing beside it.
func checkWrong(t *testing.T, name string, b []byte, at int, want error) {
	t.Helper()
	p, n, err := page.Read(b)
	e, ok := err.(*api.At)
	if !ok || e.Pos != at || e.Err != want {
		t.Errorf("%s: %v, want %v at %d", name, err, want, at)
	}
	if text(p) != text(api.Page{}) || n != 0 {
		t.Errorf("%s: %s, %d beside an error", name, text(p), n)
	}
}

// P4.4: a page that is cut anywhere ends too early: where the part that is cut begins.
func TestReadEnds(t *testing.T) {
	for _, p := range []api.Page{page.New(0), some(), greatest(), {Entries: make([]api.Entry, 8)}} {
		l := parts(p)
		b := joined(l)
		for i, x := range l {
			at := startOf(l, i)
			for k := range x {
				checkWrong(t, "cut", b[:at+k], at, api.ErrEnd)
			}
		}
	}
	checkWrong(t, "none", nil, 0, api.ErrEnd)
	checkWrong(t, "empty", []byte{}, 0, api.ErrEnd)
}

// P4.4: each number has its range: one past either end is met where it begins, the ends are right.
func TestReadRanges(t *testing.T) {
	ends := []struct{ low, high int64 }{{0, api.MaxPages - 1}, {0, api.MaxLSN}, {0, maxLevel}, {-1, api.MaxPages - 1}, {0, api.MaxEntries}}
	for range api.MaxEntries {
		ends = append(ends, struct{ low, high int64 }{0, api.MaxKey}, struct{ low, high int64 }{0, api.MaxValue})
	}
	for i, c := range ends {
		l := parts(greatest())
		at := startOf(l, i)
		for _, n := range []int64{c.low - 1, c.high + 1, -c.high - 3, math.MinInt64, math.MaxInt64, 1 << 32} {
			if c.low <= n && n <= c.high {
				continue // 2^32 is an LSN
			}
			l[i] = binary.AppendVarint(nil, n)
			checkWrong(t, "out of its range", joined(l), at, api.ErrRange)
			checkWrong(t, "out of its range, and nothing behind", joined(l[:i+1]), at, api.ErrRange)
		}
		for _, n := range []int64{c.low, c.high} {
			l[i] = binary.AppendVarint(nil, n)
			if i > 4 {
				l[i] = append(l[i], make([]byte, n)...)
			}
			b := joined(l)
			if i == 4 && n == 0 {
				b = joined(l[:5])
			}
			p, size, err := page.Read(b)
			if err != nil || size != len(b) || !bytes.Equal(joined(parts(p)), b) {
				t.Errorf("part %d of %d: %s, %d, %v", i, n, text(p), size, err)
			}
		}
	}
}

// P4.4: a number that is written in another way, or has more than 64 bits, isn't of its shape.
func TestReadShape(t *testing.T) {
	for _, p := range []api.Page{some(), greatest()} {
		for i := range parts(p) {
			for _, x := range []string{"\x80\x00", "\x82\x80\x00", strings.Repeat("\xff", 9) + "\x02", strings.Repeat("\x80", 10), strings.Repeat("\xff", 300)} {
				l := parts(p)
				at := startOf(l, i)
				l[i] = []byte(x)
				checkWrong(t, "another shape", joined(l), at, api.ErrShape)
				checkWrong(t, "another shape, and nothing behind", joined(l[:i+1]), at, api.ErrShape)
			}
		}
	}
}

// P4.4, P0.2: the first error is told.
func TestReadInOrder(t *testing.T) {
	l := parts(some())
	l[7] = []byte{0x80, 0}
	checkWrong(t, "a key of another shape", joined(l), startOf(l, 7), api.ErrShape)
	l[4] = []byte{18}
	checkWrong(t, "and too many entries", joined(l), startOf(l, 4), api.ErrRange)
	l[3] = []byte{3}
	checkWrong(t, "and Next -2", joined(l), startOf(l, 3), api.ErrRange)
	l[1] = []byte{0x80, 0}
	checkWrong(t, "and an LSN of another shape", joined(l), startOf(l, 1), api.ErrShape)
	l[0] = []byte{1}
	checkWrong(t, "and ID -1", joined(l), 0, api.ErrRange)
	checkWrong(t, "and cut", joined(l[:1]), 0, api.ErrRange)
}

// P4.4, P0.4: Read leaves what it is given, reads nothing behind it, and hands out new memory.
func TestReadSharesNothing(t *testing.T) {
	for _, p := range right() {
		b := roomy(joined(parts(p)))
		all := b[:cap(b)]
		before := bytes.Clone(all)
		one, _, _ := page.Read(b)
		two, _, _ := page.Read(b)
		checkOwn(t, text(p), one)
		scribbleAll(one)
		if text(two) != text(p) || !bytes.Equal(all, before) {
			t.Errorf("%s: what is written into an answer shows", text(p))
		}
		scribble(b)
		if text(two) != text(p) {
			t.Errorf("%s: what it was read from counts later", text(p))
		}
	}
	b := joined(parts(some()))
	for k := range b {
		if _, _, err := page.Read(b[:k]); !errors.Is(err, api.ErrEnd) {
			t.Errorf("cut at %d: %v", k, err)
		}
	}
}

// P4.4: Fields goes on where a reader is, and its errors are that reader's.
func TestFields(t *testing.T) {
	for _, p := range right() {
		b := append(joined(parts(p)), 7)
		in := wire.NewReader(append([]byte{4, 6}, b...))
		in.Num(2, 2)
		in.Num(3, 3)
		if got := page.Fields(in); text(got) != text(p) || in.Err() != nil || in.At() != 1+len(b) || in.Left() != 1 {
			t.Errorf("%s: %s, %v, at %d", text(p), text(got), in.Err(), in.At())
		}
		in = wire.NewReader(b[:len(b)-2])
		page.Fields(in)
		l := parts(p)
		if at, is := in.Err().(*api.At); !is || at.Err != api.ErrEnd || at.Pos != startOf(l, len(l)-1) {
			t.Errorf("%s, cut: %v", text(p), in.Err())
		}
	}
}
