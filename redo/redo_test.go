package redo_test

import (
	"bytes"
	"encoding/binary"
	"errors"
	"math"
	"strings"
	"testing"

	"sextet/api"
	"sextet/redo"
	"sextet/wire"
)

const maxSlot = 1 << 15

// some is a record that is right, each field another one than 0.
func some() api.Redo {
	return api.Redo{LSN: 9, Back: 7, Epoch: 2, Group: 1, Page: 5, Kind: api.Insert, Slot: 3, Key: []byte("k"), Value: []byte("vv"), Last: true}
}

// greatest is the record that takes the most bytes.
func greatest() api.Redo {
	return api.Redo{
		LSN: api.MaxLSN, Back: api.MaxLSN - 1, Epoch: api.MaxEpoch, Group: api.MaxGroups - 1, Page: api.MaxPages - 1,
		Kind: api.Cut, Slot: maxSlot, Last: true,
		Key: bytes.Repeat([]byte{255}, api.MaxKey), Value: bytes.Repeat([]byte{128}, api.MaxValue),
	}
}

// change is what makes another record of some, and what Valid tells of it.
type change struct {
	name string
	do   func(r *api.Redo)
	want error
}

// numbers are both sides of each end of each number, and the outermost ones.
func numbers() []change {
	return []change{
		{"LSN 0", func(r *api.Redo) { r.LSN, r.Back = 0, 0 }, api.ErrRange},
		{"LSN 0, Back below it", func(r *api.Redo) { r.LSN, r.Back = 0, -1 }, api.ErrRange},
		{"LSN -1", func(r *api.Redo) { r.LSN, r.Back = -1, 0 }, api.ErrRange},
		{"LSN least of all", func(r *api.Redo) { r.LSN, r.Back = math.MinInt64, math.MinInt64 }, api.ErrRange},
		{"LSN 1", func(r *api.Redo) { r.LSN, r.Back = 1, 0 }, nil},
		{"LSN MaxLSN", func(r *api.Redo) { r.LSN = api.MaxLSN }, nil},
		{"LSN MaxLSN + 1", func(r *api.Redo) { r.LSN = api.MaxLSN + 1 }, api.ErrRange},
		{"LSN greatest of all", func(r *api.Redo) { r.LSN = math.MaxInt64 }, api.ErrRange},
		{"Epoch -1", func(r *api.Redo) { r.Epoch = -1 }, api.ErrRange},
		{"Epoch least of all", func(r *api.Redo) { r.Epoch = math.MinInt }, api.ErrRange},
		{"Epoch 0", func(r *api.Redo) { r.Epoch = 0 }, nil},
		{"Epoch MaxEpoch", func(r *api.Redo) { r.Epoch = api.MaxEpoch }, nil},
		{"Epoch MaxEpoch + 1", func(r *api.Redo) { r.Epoch = api.MaxEpoch + 1 }, api.ErrRange},
		{"Group -1", func(r *api.Redo) { r.Group = -1 }, api.ErrRange},
		{"Group 0", func(r *api.Redo) { r.Group = 0 }, nil},
		{"Group MaxGroups - 1", func(r *api.Redo) { r.Group = api.MaxGroups - 1 }, nil},
		{"Group MaxGroups", func(r *api.Redo) { r.Group = api.MaxGroups }, api.ErrRange},
		{"Group greatest of all", func(r *api.Redo) { r.Group = math.MaxInt }, api.ErrRange},
		{"Page -1", func(r *api.Redo) { r.Page = -1 }, api.ErrRange},
		{"Page 0", func(r *api.Redo) { r.Page = 0 }, nil},
		{"Page MaxPages - 1", func(r *api.Redo) { r.Page = api.MaxPages - 1 }, nil},
		{"Page MaxPages", func(r *api.Redo) { r.Page = api.MaxPages }, api.ErrRange},
		{"Page 2^32", func(r *api.Redo) { r.Page = 1 << 32 }, api.ErrRange},
		{"Back -1", func(r *api.Redo) { r.Back = -1 }, api.ErrRange},
		{"Back least of all", func(r *api.Redo) { r.Back = math.MinInt64 }, api.ErrRange},
		{"Back 0", func(r *api.Redo) { r.Back = 0 }, nil},
		{"Back LSN - 1", func(r *api.Redo) { r.Back = r.LSN - 1 }, nil},
		{"Back LSN", func(r *api.Redo) { r.Back = r.LSN }, api.ErrRange},
		{"Back LSN + 1", func(r *api.Redo) { r.Back = r.LSN + 1 }, api.ErrRange},
		{"Back below the greatest LSN", func(r *api.Redo) { r.LSN, r.Back = api.MaxLSN, api.MaxLSN-1 }, nil},
		{"Back the greatest LSN", func(r *api.Redo) { r.LSN, r.Back = api.MaxLSN, api.MaxLSN }, api.ErrRange},
		{"Back MaxLSN", func(r *api.Redo) { r.Back = api.MaxLSN }, api.ErrRange},
		{"Slot -1", func(r *api.Redo) { r.Slot = -1 }, api.ErrRange},
		{"Slot 0", func(r *api.Redo) { r.Slot = 0 }, nil},
		{"Slot 2^15", func(r *api.Redo) { r.Slot = maxSlot }, nil},
		{"Slot 2^15 + 1", func(r *api.Redo) { r.Slot = maxSlot + 1 }, api.ErrRange},
		{"Slot greatest of all", func(r *api.Redo) { r.Slot = math.MaxInt }, api.ErrRange},
	}
}

// others are the kinds, and the lengths of lists.
func others() []change {
	return []change{
		{"as it is", func(r *api.Redo) {}, nil},
		{"Kind -1", func(r *api.Redo) { r.Kind = -1 }, api.ErrKind},
		{"Kind 0", func(r *api.Redo) { r.Kind = 0 }, api.ErrKind},
		{"Kind 7", func(r *api.Redo) { r.Kind = 7 }, api.ErrKind},
		{"Kind greatest of all", func(r *api.Redo) { r.Kind = math.MaxInt }, api.ErrKind},
		{"not Last", func(r *api.Redo) { r.Last = false }, nil},
		{"no Key", func(r *api.Redo) { r.Key = nil }, nil},
		{"empty Key", func(r *api.Redo) { r.Key = []byte{} }, nil},
		{"Key MaxKey", func(r *api.Redo) { r.Key = make([]byte, api.MaxKey) }, nil},
		{"Key MaxKey + 1", func(r *api.Redo) { r.Key = make([]byte, api.MaxKey+1) }, api.ErrMany},
		{"Key of MaxValue", func(r *api.Redo) { r.Key = make([]byte, api.MaxValue) }, api.ErrMany},
		{"no Value", func(r *api.Redo) { r.Value = nil }, nil},
		{"Value MaxKey + 1", func(r *api.Redo) { r.Value = make([]byte, api.MaxKey+1) }, nil},
		{"Value MaxValue", func(r *api.Redo) { r.Value = make([]byte, api.MaxValue) }, nil},
		{"Value MaxValue + 1", func(r *api.Redo) { r.Value = make([]byte, api.MaxValue+1) }, api.ErrMany},
		{"both lists too long", func(r *api.Redo) { r.Key, r.Value = make([]byte, 999), make([]byte, 999) }, api.ErrMany},
		{"the greatest", func(r *api.Redo) { *r = greatest() }, nil},
		{"the least", func(r *api.Redo) { *r = api.Redo{LSN: 1, Kind: api.Format} }, nil},
		{"of zeros", func(r *api.Redo) { *r = api.Redo{} }, api.ErrRange},
	}
}

// changes are all of them, and each kind with key, value and slot, or without.
func changes() []change {
	out := append(numbers(), others()...)
	for kind := api.Format; kind <= api.Cut; kind++ {
		out = append(out,
			change{"a kind with all", func(r *api.Redo) { r.Kind, r.Slot = kind, maxSlot }, nil},
			change{"a kind with none", func(r *api.Redo) { r.Kind, r.Slot, r.Key, r.Value = kind, 0, nil, nil }, nil})
	}
	return out
}

// changed is some with that change.
func changed(c change) api.Redo {
	r := some()
	c.do(&r)
	return r
}

// right are the records among them that are right.
func right() []api.Redo {
	var out []api.Redo
	for _, c := range changes() {
		if c.want == nil {
			out = append(out, changed(c))
		}
	}
	return out
}

// parts are what the chapter says of r's bytes, part by part, by the library.
func parts(r api.Redo) [][]byte {
	last := int64(0)
	if r.Last {
		last = 1
	}
	var out [][]byte
	for _, n := range []int64{r.LSN, r.Back, int64(r.Epoch), int64(r.Group), int64(r.Page), int64(r.Kind), int64(r.Slot), last} {
		out = append(out, binary.AppendVarint(nil, n))
	}
	for _, x := range [][]byte{r.Key, r.Value} {
		out = append(out, append(binary.AppendVarint(nil, int64(len(x))), x...))
	}
	return out
}

// joined are parts as one.
func joined(l [][]byte) []byte { return bytes.Join(l, nil) }

// starts are the places at which parts begin.
func starts(l [][]byte) []int {
	out, at := []int{}, 0
	for _, x := range l {
		out = append(out, at)
		at += len(x)
	}
	return out
}

// equal is whether a and b have the same in all, asked field by field.
func equal(a, b api.Redo) bool {
	ka, va, kb, vb := string(a.Key), string(a.Value), string(b.Key), string(b.Value)
	return a.LSN == b.LSN && a.Back == b.Back && a.Epoch == b.Epoch && a.Group == b.Group && a.Page == b.Page &&
		a.Kind == b.Kind && a.Slot == b.Slot && a.Last == b.Last && ka == kb && va == vb
}

// zero is whether nothing is in r.
func zero(r api.Redo) bool { return equal(r, api.Redo{}) }

// scribble writes over b and over its spare room.
func scribble(b []byte) {
	b = b[:cap(b)]
	for i := range b {
		b[i] ^= 0xff
	}
}

// scribbleAll writes over the lists of r.
func scribbleAll(r api.Redo) {
	scribble(r.Key)
	scribble(r.Value)
}

// spare is b with room behind its length that holds 0x5a, and that memory whole.
func spare(b []byte) (short, whole []byte) {
	whole = append(bytes.Clone(b), bytes.Repeat([]byte{0x5a}, 16)...)
	return whole[:len(b)], whole
}

// P3.1: each edge of each field.
func TestValid(t *testing.T) {
	for _, c := range changes() {
		if err := redo.Valid(changed(c)); err != c.want {
			t.Errorf("%s: %v, want %v", c.name, err, c.want)
		}
	}
}

// P3.1, P0.2: a number out of its range ahead of a kind that is none, that ahead of what is too long.
func TestValidInOrder(t *testing.T) {
	for _, c := range append(numbers(), change{"as it is", func(r *api.Redo) {}, nil}) {
		r := changed(c)
		r.Key = make([]byte, api.MaxKey+1)
		want := c.want
		if want == nil {
			want = api.ErrMany
		}
		if err := redo.Valid(r); err != want {
			t.Errorf("%s, and Key too long: %v, want %v", c.name, err, want)
		}
		for _, kind := range []int{-1, 0, 7} {
			r.Kind = kind
			if want == api.ErrMany {
				want = api.ErrKind
			}
			if err := redo.Valid(r); err != want {
				t.Errorf("%s, Kind %d, and Key too long: %v, want %v", c.name, kind, err, want)
			}
		}
	}
}

// P3.1: a record is the same as itself and as its like; each field that differs tells.
func TestSame(t *testing.T) {
	for _, c := range changes() {
		a, b := changed(c), changed(c)
		if !redo.Same(a, a) || !redo.Same(a, b) {
			t.Errorf("%s: not the same as itself", c.name)
		}
		if got, want := redo.Same(a, some()), equal(a, some()); got != want || redo.Same(some(), a) != want {
			t.Errorf("%s: the same as without it: %v, want %v", c.name, got, want)
		}
	}
	for i, do := range []func(r *api.Redo){
		func(r *api.Redo) { r.LSN++ },
		func(r *api.Redo) { r.LSN += 1 << 32 },
		func(r *api.Redo) { r.Back++ },
		func(r *api.Redo) { r.Epoch++ },
		func(r *api.Redo) { r.Group++ },
		func(r *api.Redo) { r.Page++ },
		func(r *api.Redo) { r.Kind++ },
		func(r *api.Redo) { r.Slot++ },
		func(r *api.Redo) { r.Last = !r.Last },
		func(r *api.Redo) { r.Key = []byte("K") },
		func(r *api.Redo) { r.Key = []byte("kk") },
		func(r *api.Redo) { r.Key = nil },
		func(r *api.Redo) { r.Value = []byte("vw") },
		func(r *api.Redo) { r.Value = []byte("v") },
		func(r *api.Redo) { r.Value = nil },
		func(r *api.Redo) { r.Key, r.Value = r.Value, r.Key },
		func(r *api.Redo) { r.Key, r.Value = []byte("kv"), []byte("v") },
		func(r *api.Redo) { r.LSN, r.Back = r.Back, r.LSN },
	} {
		r := some()
		do(&r)
		if redo.Same(r, some()) || redo.Same(some(), r) {
			t.Errorf("change %d doesn't tell", i)
		}
	}
}

// P3.1, P0.4: no list is the same as an empty one; what lies behind a list doesn't count.
func TestSameLists(t *testing.T) {
	a, b := some(), some()
	a.Key, a.Value, b.Key, b.Value = nil, []byte{}, []byte{}, nil
	if !redo.Same(a, b) || !redo.Same(b, a) {
		t.Error("no list is another one than an empty one")
	}
	short, whole := spare([]byte("k"))
	a, b = some(), some()
	a.Key = short
	if !redo.Same(a, b) {
		t.Error("the spare room counts")
	}
	a.Key = whole
	if redo.Same(a, b) {
		t.Error("what is longer is the same")
	}
}

// P3.1, P0.4: a clone is the same, of a record that isn't right too, and shares nothing with it.
func TestClone(t *testing.T) {
	for _, c := range changes() {
		r := changed(c)
		one, two := redo.Clone(r), redo.Clone(r)
		if !equal(one, r) || !redo.Same(one, r) {
			t.Errorf("%s: the clone is another one", c.name)
		}
		scribbleAll(one)
		if !equal(r, changed(c)) || !equal(two, r) {
			t.Errorf("%s: what is written into a clone shows", c.name)
		}
		scribbleAll(r)
		if !equal(two, changed(c)) {
			t.Errorf("%s: what is written into the record shows in its clone", c.name)
		}
	}
}

// P3.1, P0.4: of a key and a value in one memory, and with room behind them.
func TestCloneOfOneMemory(t *testing.T) {
	all := []byte("abcdef")
	r := some()
	r.Key, r.Value = all[:3], all[1:4]
	c := redo.Clone(r)
	scribble(c.Key)
	if string(c.Value) != "bcd" || string(all) != "abcdef" {
		t.Errorf("the key is shared: %q, %q", c.Value, all)
	}
	c = redo.Clone(r)
	_ = append(c.Key, "zz"...)
	_ = append(c.Value, "zz"...)
	if string(c.Key) != "abc" || string(c.Value) != "bcd" || string(all) != "abcdef" {
		t.Errorf("what is appended shows: %q, %q, %q", c.Key, c.Value, all)
	}
}

// P3.2: known bytes.
func TestBytesKnown(t *testing.T) {
	for _, c := range []struct {
		r    api.Redo
		want string
	}{
		{some(), "\x12\x0e\x04\x02\x0a\x04\x06\x02\x02k\x04vv"},
		{api.Redo{LSN: 1, Kind: api.Format}, "\x02\x00\x00\x00\x00\x02\x00\x00\x00\x00"},
		{api.Redo{LSN: 64, Back: 63, Page: 255, Kind: api.Link, Slot: maxSlot, Value: []byte{0}}, "\x80\x01\x7e\x00\x00\xfe\x03\x0a\x80\x80\x04\x00\x00\x02\x00"},
		{greatest(), "\x80\x80\x80\x80\x80\x40" + "\xfe\xff\xff\xff\xff\x3f" + "\x80\x80\x80\x80\x08" + "\x06" + "\xfe\x03" + "\x0c" + "\x80\x80\x04" + "\x02" +
			"\x40" + strings.Repeat("\xff", 32) + "\x80\x01" + strings.Repeat("\x80", 64)},
	} {
		if b, err := redo.Bytes(c.r); string(b) != c.want || err != nil {
			t.Errorf("%v: %q, %v, want %q", c.r, b, err, c.want)
		}
	}
}

// P3.2: Valid's errors, with no bytes beside them; else what the chapter says, in less than a block.
func TestBytes(t *testing.T) {
	for _, c := range changes() {
		r := changed(c)
		b, err := redo.Bytes(r)
		if err != c.want {
			t.Errorf("%s: %v, want %v", c.name, err, c.want)
		}
		if err != nil && len(b) > 0 {
			t.Errorf("%s: %q beside an error", c.name, b)
		}
		if err == nil && (!bytes.Equal(b, joined(parts(r))) || len(b) >= api.BlockSize) {
			t.Errorf("%s: %q", c.name, b)
		}
	}
}

// P3.2, P0.4: Bytes writes to nothing that it is given, and hands out new memory.
func TestBytesAreNewMemory(t *testing.T) {
	for _, r := range right() {
		key, keyWhole := spare(r.Key)
		value, valueWhole := spare(r.Value)
		keyBefore, valueBefore := bytes.Clone(keyWhole), bytes.Clone(valueWhole)
		r.Key, r.Value = key, value
		one, _ := redo.Bytes(r)
		two, _ := redo.Bytes(r)
		want := joined(parts(r))
		scribble(one)
		if !bytes.Equal(two, want) {
			t.Errorf("%v: two answers share memory", r)
		}
		if !bytes.Equal(keyWhole, keyBefore) || !bytes.Equal(valueWhole, valueBefore) {
			t.Errorf("%v: written to", r)
		}
	}
}

// P3.2: Read tells what Bytes was given, and how many bytes that has, whatever is behind it.
func TestReadOfBytes(t *testing.T) {
	for _, r := range right() {
		b, err := redo.Bytes(r)
		if err != nil {
			t.Fatal(err)
		}
		for _, tail := range []string{"", "\x00", "\x80", "\xff\xff", string(b), strings.Repeat("\x80", 5000)} {
			got, n, err := redo.Read(append(bytes.Clone(b), tail...))
			if !equal(got, r) || n != len(b) || err != nil {
				t.Errorf("%v with %d bytes behind: %v, %d, %v", r, len(tail), got, n, err)
			}
		}
	}
}

// P3.2: records one behind the other are read one behind the other.
func TestReadGoesOn(t *testing.T) {
	var all []byte
	for _, r := range right() {
		b, _ := redo.Bytes(r)
		all = append(all, b...)
	}
	for _, r := range right() {
		got, n, err := redo.Read(all)
		if !equal(got, r) || err != nil {
			t.Fatalf("%v, %v, want %v", got, err, r)
		}
		all = all[n:]
	}
	if _, _, err := redo.Read(all); !errors.Is(err, api.ErrEnd) {
		t.Errorf("behind the last: %v", err)
	}
}

// checkWrong asks that b is read with that error around that place, and nothing beside it.
func checkWrong(t *testing.T, name string, b []byte, at int, want error) {
	t.Helper()
	r, n, err := redo.Read(b)
	e, ok := err.(*api.At)
	if !ok || e.Pos != at || e.Err != want {
		t.Errorf("%s: %v, want %v at %d", name, err, want, at)
	}
	if !zero(r) || n != 0 {
		t.Errorf("%s: %v, %d beside an error", name, r, n)
	}
}

// P3.2: a record that is cut anywhere ends too early: where the part that is cut begins.
func TestReadEnds(t *testing.T) {
	for _, r := range []api.Redo{some(), greatest(), {LSN: 1, Kind: api.Format}} {
		l := parts(r)
		b := joined(l)
		at := starts(l)
		for i, x := range l {
			for k := range x {
				checkWrong(t, "cut", b[:at[i]+k], at[i], api.ErrEnd)
			}
		}
	}
	checkWrong(t, "none", nil, 0, api.ErrEnd)
	checkWrong(t, "empty", []byte{}, 0, api.ErrEnd)
}

// P3.2: each number has its range: one past either end is met where it begins, the ends are right.
func TestReadRanges(t *testing.T) {
	for i, c := range []struct{ low, high int64 }{
		{1, api.MaxLSN}, {0, api.MaxLSN}, {0, api.MaxEpoch}, {0, api.MaxGroups - 1}, {0, api.MaxPages - 1},
		{api.Format, api.Cut}, {0, maxSlot}, {0, 1}, {0, api.MaxKey}, {0, api.MaxValue},
	} {
		r := greatest()
		r.LSN, r.Back = api.MaxLSN, 0
		l := parts(r)
		at := starts(l)[i]
		for _, n := range []int64{c.low - 1, c.high + 1, -c.high - 1, math.MinInt64, math.MaxInt64} {
			l[i] = binary.AppendVarint(nil, n)
			checkWrong(t, "out of its range", joined(l), at, api.ErrRange)
			checkWrong(t, "out of its range, and nothing behind", joined(l[:i+1]), at, api.ErrRange)
		}
		if i == 1 {
			continue // at its high end no Back is below an LSN: see TestReadBackNotBelow
		}
		for _, n := range []int64{c.low, c.high} {
			l[i] = binary.AppendVarint(nil, n)
			if i > 7 {
				l[i] = append(l[i], make([]byte, n)...)
			}
			if r, size, err := redo.Read(joined(l)); zero(r) || size != len(joined(l)) || err != nil {
				t.Errorf("part %d of %d: %v, %d, %v", i, n, r, size, err)
			}
		}
	}
}

// P3.2: a number that is written in another way, or has more than 64 bits, isn't of its shape.
func TestReadShape(t *testing.T) {
	for i := range parts(some()) {
		for _, x := range []string{"\x80\x00", "\x82\x80\x00", strings.Repeat("\xff", 9) + "\x02", strings.Repeat("\x80", 10), strings.Repeat("\xff", 300)} {
			l := parts(some())
			at := starts(l)[i]
			l[i] = []byte(x)
			checkWrong(t, "another shape", joined(l), at, api.ErrShape)
		}
	}
}

// P3.2: a Back that isn't below the LSN is Valid's error, around no place.
func TestReadBackNotBelow(t *testing.T) {
	for _, c := range []struct{ lsn, back int64 }{{1, 1}, {1, 2}, {9, 9}, {9, 10}, {9, api.MaxLSN}, {api.MaxLSN, api.MaxLSN}} {
		r := some()
		r.LSN, r.Back = c.lsn, c.back
		got, n, err := redo.Read(joined(parts(r)))
		if err != api.ErrRange || !zero(got) || n != 0 {
			t.Errorf("%d behind %d: %v, %d, %v", c.lsn, c.back, got, n, err)
		}
	}
}

// P3.2, P0.2: the reader's errors are ahead of Valid's, and the first of them is told.
func TestReadInOrder(t *testing.T) {
	r := some()
	r.Back = r.LSN
	l := parts(r)
	b := joined(l)
	checkWrong(t, "Back not below, and cut", b[:len(b)-1], starts(l)[9], api.ErrEnd)
	l[5] = []byte{14}
	checkWrong(t, "Back not below, and no kind", joined(l), starts(l)[5], api.ErrRange)
	l[2] = []byte{0x80, 0}
	checkWrong(t, "and an epoch of another shape", joined(l), starts(l)[2], api.ErrShape)
	l[0] = []byte{0}
	checkWrong(t, "and LSN 0", joined(l), 0, api.ErrRange)
}

// P3.2, P0.4: Read leaves what it is given, reads nothing behind it, and hands out new memory.
func TestReadSharesNothing(t *testing.T) {
	for _, r := range right() {
		short, whole := spare(joined(parts(r)))
		before := bytes.Clone(whole)
		one, _, _ := redo.Read(short)
		two, _, _ := redo.Read(short)
		scribbleAll(one)
		if !equal(two, r) || !bytes.Equal(whole, before) {
			t.Errorf("%v: what is written into an answer shows", r)
		}
		two.Key = append(two.Key, "zz"...)
		if string(two.Value) != string(r.Value) || !bytes.Equal(whole, before) {
			t.Errorf("%v: what is appended to an answer shows", r)
		}
		three, _, _ := redo.Read(short)
		scribble(whole)
		if !equal(three, r) {
			t.Errorf("%v: what it was read from counts later", r)
		}
	}
	_, whole := spare(joined(parts(some())))
	for k := range len(whole) - 16 {
		if _, _, err := redo.Read(whole[:k]); !errors.Is(err, api.ErrEnd) {
			t.Errorf("cut at %d: %v", k, err)
		}
	}
}

// row is a record that Sort and Of tell by its page.
func row(lsn int64, epoch, group, page int) api.Redo {
	return api.Redo{LSN: lsn, Epoch: epoch, Group: group, Page: page, Key: []byte{byte(page)}, Value: []byte{byte(page), 1}}
}

// pages are the pages of l, in its order; what else they have must be theirs.
func pages(t *testing.T, l []api.Redo) []byte {
	t.Helper()
	out := []byte{}
	for _, r := range l {
		out = append(out, byte(r.Page))
		if !equal(r, row(r.LSN, r.Epoch, r.Group, r.Page)) {
			t.Errorf("%v isn't as it came", r)
		}
	}
	return out
}

// P3.3: by LSN, then epoch, then as they came, whatever else they have.
func TestSort(t *testing.T) {
	for _, c := range []struct {
		l    []api.Redo
		want string
	}{
		{nil, ""},
		{[]api.Redo{}, ""},
		{[]api.Redo{row(5, 0, 0, 1)}, "\x01"},
		{[]api.Redo{row(1, 0, 0, 1), row(2, 0, 0, 2), row(3, 0, 0, 3)}, "\x01\x02\x03"},
		{[]api.Redo{row(3, 0, 0, 1), row(2, 0, 0, 2), row(1, 0, 0, 3)}, "\x03\x02\x01"},
		{[]api.Redo{row(3, 1, 0, 1), row(1, 0, 1, 2), row(3, 1, 0, 3), row(3, 0, 1, 4)}, "\x02\x04\x01\x03"},
		{[]api.Redo{row(7, 2, 0, 9), row(7, 2, 3, 1), row(7, 2, 1, 5), row(7, 1, 0, 3), row(7, 2, 0, 2)}, "\x03\x09\x01\x05\x02"},
		{[]api.Redo{row(2, 0, 0, 1), row(1, 9, 0, 2), row(1, 8, 0, 3)}, "\x03\x02\x01"},
		{[]api.Redo{row(math.MaxInt64, 0, 0, 1), row(math.MinInt64, 0, 0, 2), row(0, 0, 0, 3), row(-1, 0, 0, 4)}, "\x02\x04\x03\x01"},
		{[]api.Redo{row(1, math.MaxInt, 0, 1), row(1, math.MinInt, 0, 2), row(1, 0, 0, 3), row(1, -1, 0, 4)}, "\x02\x04\x03\x01"},
		{[]api.Redo{row(1<<40, 0, 0, 1), row(1<<32, 0, 0, 2), row(1, 0, 0, 3)}, "\x03\x02\x01"},
	} {
		if got := pages(t, redo.Sort(c.l...)); string(got) != c.want {
			t.Errorf("%v: %v, want %v", c.l, got, []byte(c.want))
		}
	}
}

// P3.3: many, with many of one LSN and epoch, stay as they came among them.
func TestSortMany(t *testing.T) {
	var l []api.Redo
	x := uint32(1)
	for i := range 3000 {
		x = x*1664525 + 1013904223
		l = append(l, api.Redo{LSN: int64(x >> 29), Epoch: int(x >> 26 & 3), Slot: i, Group: int(x >> 20 & 3), Page: int(x >> 10 & 255), Kind: int(x >> 8 & 7), Back: int64(x >> 5 & 7)})
	}
	got := redo.Sort(l...)
	if len(got) != len(l) {
		t.Fatalf("%d of %d", len(got), len(l))
	}
	seen := map[int]bool{}
	for i, r := range got {
		if !equal(r, l[r.Slot]) || seen[r.Slot] {
			t.Fatalf("%v isn't as it came, or comes twice", r)
		}
		seen[r.Slot] = true
		if i == 0 {
			continue
		}
		p := got[i-1]
		if p.LSN > r.LSN || p.LSN == r.LSN && (p.Epoch > r.Epoch || p.Epoch == r.Epoch && p.Slot > r.Slot) {
			t.Fatalf("%v ahead of %v", p, r)
		}
	}
}

// P3.3, P0.4: Sort leaves what it is given, and shares nothing with it, nor with another answer.
func TestSortSharesNothing(t *testing.T) {
	rows := []api.Redo{row(3, 0, 0, 1), row(2, 0, 0, 2), row(1, 0, 0, 3), row(0, 0, 0, 4), row(0, 0, 0, 5)}
	l := rows[:3]
	one, two := redo.Sort(l...), redo.Sort(l...)
	for _, r := range one {
		scribbleAll(r)
	}
	_ = append(one, row(9, 9, 9, 9))
	clear(one[:cap(one)])
	if got := pages(t, rows); string(got) != "\x01\x02\x03\x04\x05" {
		t.Errorf("what it was given is %v", got)
	}
	if got := pages(t, two); string(got) != "\x03\x02\x01" {
		t.Errorf("another answer is %v", got)
	}
	for _, r := range rows {
		scribbleAll(r)
	}
	clear(rows)
	if got := pages(t, two); string(got) != "\x03\x02\x01" {
		t.Errorf("what it was given counts later: %v", got)
	}
}

// P3.3, P0.4: records that come with one memory go with two.
func TestSortOfOneMemory(t *testing.T) {
	r := row(1, 0, 0, 7)
	got := redo.Sort(r, r)
	scribbleAll(got[0])
	if !equal(got[1], r) {
		t.Errorf("%v, want %v", got[1], r)
	}
}

// mixed are records of several groups, with like ones among them, and such as aren't right.
func mixed() []api.Redo {
	return []api.Redo{row(9, 0, 1, 1), row(1, 0, 0, 2), row(3, 0, 1, 3), row(3, 0, 1, 3), row(0, 0, 3, 4), row(2, 5, 1, 5), row(8, 0, -1, 6), row(7, 0, 4, 7)}
}

// gone are the pages of what seq goes through.
func gone(t *testing.T, seq func(func(api.Redo) bool)) string {
	t.Helper()
	var l []api.Redo
	for r := range seq {
		l = append(l, r)
	}
	return string(pages(t, l))
}

// P3.3: those of the group, as they come: neither sorted nor told apart.
func TestOf(t *testing.T) {
	for _, c := range []struct {
		group int
		want  string
	}{
		{0, "\x02"}, {1, "\x01\x03\x03\x05"}, {2, ""}, {3, "\x04"}, {4, "\x07"}, {-1, "\x06"}, {5, ""}, {math.MinInt, ""}, {math.MaxInt, ""},
	} {
		if got := gone(t, redo.Of(c.group, mixed()...)); got != c.want {
			t.Errorf("group %d: %q, want %q", c.group, got, c.want)
		}
	}
	if got := gone(t, redo.Of(0)); got != "" {
		t.Errorf("of none: %q", got)
	}
}

// P3.3: several times; left early, it begins anew, and what it was left by is asked no more.
func TestOfSeveralTimes(t *testing.T) {
	of := redo.Of(1, mixed()...)
	for stop := 1; stop <= 4; stop++ {
		asked := 0
		of(func(r api.Redo) bool {
			asked++
			return asked < stop
		})
		if asked != stop {
			t.Errorf("left at %d: asked %d times", stop, asked)
		}
		for range 2 {
			if got := gone(t, of); got != "\x01\x03\x03\x05" {
				t.Errorf("left at %d, then %q", stop, got)
			}
		}
	}
}

// P3.3: each its own: one inside another, and another one's end.
func TestOfInsideItself(t *testing.T) {
	of, other := redo.Of(1, mixed()...), redo.Of(3, mixed()...)
	var outer []api.Redo
	for r := range of {
		outer = append(outer, r)
		if got := gone(t, of); got != "\x01\x03\x03\x05" {
			t.Errorf("inside: %q", got)
		}
		for range of {
			break
		}
		if got := gone(t, other); got != "\x04" {
			t.Errorf("the other: %q", got)
		}
	}
	if got := pages(t, outer); string(got) != "\x01\x03\x03\x05" {
		t.Errorf("outside: %q", got)
	}
}

// P3.3, P0.4: what was handed in isn't kept: neither the list nor what its records have; nor is it changed.
func TestOfKeepsNothing(t *testing.T) {
	l := mixed()
	of := redo.Of(1, l...)
	gone(t, of)
	for i, r := range mixed() {
		if !equal(l[i], r) {
			t.Errorf("%v was %v", l[i], r)
		}
	}
	for i := range l {
		scribbleAll(l[i])
		l[i] = row(1, 1, 1, 99)
	}
	if got := gone(t, of); got != "\x01\x03\x03\x05" {
		t.Errorf("what was handed in counts later: %q", got)
	}
}

// P3.3, P0.4: what is written into a record that comes shows in no other one, nor the next time.
func TestOfSharesNothing(t *testing.T) {
	l := mixed()
	of := redo.Of(1, l...)
	var first []api.Redo
	for r := range of {
		first = append(first, r)
	}
	for r := range of {
		scribbleAll(r)
		_ = append(r.Key, 9)
		_ = append(r.Value, 9)
	}
	if got := pages(t, first); string(got) != "\x01\x03\x03\x05" {
		t.Errorf("an earlier one is %q", got)
	}
	if got := gone(t, of); got != "\x01\x03\x03\x05" {
		t.Errorf("the next time: %q", got)
	}
	for i, r := range mixed() {
		if !equal(l[i], r) {
			t.Errorf("what was handed in: %v was %v", l[i], r)
		}
	}
}

// P3.2: Fields goes on where a reader is, is not Valid's, and its errors are that reader's.
func TestFields(t *testing.T) {
	wrong := some()
	wrong.Back = wrong.LSN
	for _, r := range append(right(), wrong) {
		b := append(joined(parts(r)), 7)
		in := wire.NewReader(append([]byte{4, 6}, b...))
		in.Num(2, 2)
		in.Num(3, 3)
		if got := redo.Fields(in); !equal(got, r) || in.Err() != nil || in.At() != 1+len(b) || in.Left() != 1 {
			t.Errorf("%v: %v, %v, at %d", r, got, in.Err(), in.At())
		}
		in = wire.NewReader(b[:len(b)-2])
		redo.Fields(in)
		if at, is := in.Err().(*api.At); !is || at.Err != api.ErrEnd || at.Pos != starts(parts(r))[9] {
			t.Errorf("%v, cut: %v", r, in.Err())
		}
	}
}
