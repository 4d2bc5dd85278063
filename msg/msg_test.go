package msg_test

import (
	"bytes"
	"encoding/binary"
	"errors"
	"fmt"
	"hash/crc32"
	"math"
	"math/rand"
	"slices"
	"strings"
	"testing"

	"sextet/api"
	"sextet/msg"
	"sextet/page"
)

// The numbers that the chapter names and package api doesn't.
const (
	kinds  = 15
	maxSeq = 1 << 30
)

// some is a message that is right, each field another one than 0, and none as another.
func some() api.Msg {
	return api.Msg{
		Kind: api.Promise, From: 3, To: 60, Epoch: 5, Inc: 7, Group: 1, Page: 9, LSN: 11, At: 13, Seq: 15, Done: 17,
		Recs: []api.Redo{
			{LSN: 4, Back: 2, Epoch: 6, Group: 2, Page: 8, Kind: api.Insert, Slot: 3, Key: []byte("k"), Value: []byte("vv"), Last: true},
			{LSN: 9, Back: 4, Epoch: 1, Group: 3, Page: 255, Kind: api.Cut, Key: []byte("key")},
			{LSN: 1, Kind: api.Format, Value: []byte("w")},
		},
		Spans: []api.Span{{Epoch: 2, From: 10, To: 30}, {Epoch: 4, From: 5, To: 31}},
		Body: api.Page{ID: 14, LSN: 16, Level: 10, Next: 18, Entries: []api.Entry{
			{Key: []byte("a"), Value: []byte("1")}, {Key: []byte("b")}, {Value: []byte("23")},
		}},
	}
}

// least is the message of the given kind that has the least of all.
func least(kind int) api.Msg { return api.Msg{Kind: kind} }

// record is the record that takes the most bytes.
func record() api.Redo {
	return api.Redo{
		LSN: api.MaxLSN, Back: api.MaxLSN - 1, Epoch: api.MaxEpoch, Group: api.MaxGroups - 1, Page: api.MaxPages - 1,
		Kind: api.Cut, Slot: 1 << 15, Last: true,
		Key: bytes.Repeat([]byte{255}, api.MaxKey), Value: bytes.Repeat([]byte{128}, api.MaxValue),
	}
}

// spans are so many, and of that many those that take the most bytes.
func spans(n int) []api.Span {
	var out []api.Span
	for i := range n {
		to := int64(api.MaxLSN - n + 1 + i)
		out = append(out, api.Span{Epoch: api.MaxEpoch - n + 1 + i, From: to - 1, To: to})
	}
	return out
}

// body is the page that takes the most bytes.
func body() api.Page {
	p := api.Page{ID: api.MaxPages - 1, LSN: api.MaxLSN, Level: 16, Next: api.MaxPages - 1}
	for range api.MaxEntries {
		p.Entries = append(p.Entries, api.Entry{Key: bytes.Repeat([]byte{255}, api.MaxKey), Value: bytes.Repeat([]byte{128}, api.MaxValue)})
	}
	return p
}

// greatest is the message that takes the most bytes of those with so many records.
func greatest(recs int) api.Msg {
	m := api.Msg{
		Kind: kinds, From: api.MaxNodes - 1, To: api.MaxNodes - 1, Epoch: api.MaxEpoch, Inc: api.MaxEpoch,
		Group: api.MaxGroups - 1, Page: api.MaxPages - 1, LSN: api.MaxLSN, At: api.MaxLSN, Seq: maxSeq, Done: maxSeq,
		Spans: spans(api.MaxSpans), Body: body(),
	}
	for range recs {
		m.Recs = append(m.Recs, record())
	}
	return m
}

// number is a number of a message: its range, and how it is set.
type number struct {
	name      string
	low, high int64
	set       func(m *api.Msg, n int64)
}

// numbers are all of them, in the order of the bytes.
func numbers() []number {
	return []number{
		{"Kind", 1, kinds, func(m *api.Msg, n int64) { m.Kind = int(n) }},
		{"From", 0, api.MaxNodes - 1, func(m *api.Msg, n int64) { m.From = int(n) }},
		{"To", 0, api.MaxNodes - 1, func(m *api.Msg, n int64) { m.To = int(n) }},
		{"Epoch", 0, api.MaxEpoch, func(m *api.Msg, n int64) { m.Epoch = int(n) }},
		{"Inc", 0, api.MaxEpoch, func(m *api.Msg, n int64) { m.Inc = int(n) }},
		{"Group", 0, api.MaxGroups - 1, func(m *api.Msg, n int64) { m.Group = int(n) }},
		{"Page", 0, api.MaxPages - 1, func(m *api.Msg, n int64) { m.Page = int(n) }},
		{"LSN", 0, api.MaxLSN, func(m *api.Msg, n int64) { m.LSN = n }},
		{"At", 0, api.MaxLSN, func(m *api.Msg, n int64) { m.At = n }},
		{"Seq", 0, maxSeq, func(m *api.Msg, n int64) { m.Seq = int(n) }},
		{"Done", 0, maxSeq, func(m *api.Msg, n int64) { m.Done = int(n) }},
	}
}

// edit is what makes another message of some, and what Valid tells of it: an error, around a place (-1: around none).
type edit struct {
	name string
	do   func(m *api.Msg)
	at   int
	want error
}

// ofNumbers are both sides of each end of each number, and the outermost ones.
func ofNumbers() []edit {
	var out []edit
	for i, x := range numbers() {
		wrong := api.ErrRange
		if i == 0 {
			wrong = api.ErrKind
		}
		for _, n := range []int64{x.low - 1, -x.high, math.MinInt64, math.MinInt64 + 1, x.high + 1, 1 << 41, x.low + 1<<32, x.high + 1<<32, math.MaxInt64} {
			if x.low <= n && n <= x.high {
				continue // it is no other one: 2^32 is an LSN
			}
			out = append(out, edit{fmt.Sprint(x.name, " ", n), func(m *api.Msg) { x.set(m, n) }, -1, wrong})
		}
		for _, n := range []int64{x.low, x.low + 1, x.high - 1, x.high} {
			out = append(out, edit{fmt.Sprint(x.name, " ", n), func(m *api.Msg) { x.set(m, n) }, -1, nil})
		}
	}
	return out
}

// ofRecords are records, those that are not right among them.
func ofRecords() []edit {
	return []edit{
		{"no records", func(m *api.Msg) { m.Recs = nil }, -1, nil},
		{"an empty list of records", func(m *api.Msg) { m.Recs = []api.Redo{} }, -1, nil},
		{"the greatest records", func(m *api.Msg) { m.Recs = greatest(3).Recs }, -1, nil},
		{"the same record again", func(m *api.Msg) { m.Recs = append(m.Recs, m.Recs...) }, -1, nil},
		{"an LSN 0", func(m *api.Msg) { m.Recs[0].LSN, m.Recs[0].Back = 0, 0 }, 0, api.ErrRange},
		{"an LSN above MaxLSN", func(m *api.Msg) { m.Recs[1].LSN = api.MaxLSN + 1 }, 1, api.ErrRange},
		{"a Back not below", func(m *api.Msg) { m.Recs[1].Back = m.Recs[1].LSN }, 1, api.ErrRange},
		{"a Back below 0", func(m *api.Msg) { m.Recs[2].Back = -1 }, 2, api.ErrRange},
		{"a record's group", func(m *api.Msg) { m.Recs[2].Group = api.MaxGroups }, 2, api.ErrRange},
		{"a record's kind 0", func(m *api.Msg) { m.Recs[0].Kind = 0 }, 0, api.ErrKind},
		{"a record's kind 7", func(m *api.Msg) { m.Recs[2].Kind = api.Cut + 1 }, 2, api.ErrKind},
		{"a record's key", func(m *api.Msg) { m.Recs[1].Key = make([]byte, api.MaxKey+1) }, 1, api.ErrMany},
		{"a record's value", func(m *api.Msg) { m.Recs[2].Value = make([]byte, api.MaxValue+1) }, 2, api.ErrMany},
		{"a record of zeros", func(m *api.Msg) { m.Recs = append(m.Recs, api.Redo{}) }, 3, api.ErrRange},
		{"the first of two", func(m *api.Msg) { m.Recs[2].LSN, m.Recs[1].Kind = 0, 0 }, 1, api.ErrKind},
		{"MaxRecs", func(m *api.Msg) { m.Recs = slices.Repeat(m.Recs[:1], api.MaxRecs) }, -1, nil},
		{"the last of MaxRecs", func(m *api.Msg) {
			m.Recs = append(slices.Repeat(m.Recs[:1], api.MaxRecs-1), api.Redo{})
		}, api.MaxRecs - 1, api.ErrRange},
		{"MaxRecs of zeros", func(m *api.Msg) { m.Recs = make([]api.Redo, api.MaxRecs) }, 0, api.ErrRange},
		{"MaxRecs + 1", func(m *api.Msg) { m.Recs = slices.Repeat(m.Recs[:1], api.MaxRecs+1) }, -1, api.ErrMany},
		{"MaxRecs + 1 of zeros", func(m *api.Msg) { m.Recs = make([]api.Redo, api.MaxRecs+1) }, -1, api.ErrMany},
		{"very many records", func(m *api.Msg) { m.Recs = make([]api.Redo, 1<<15) }, -1, api.ErrMany},
	}
}

// ofSpans are spans, those that are not right among them.
func ofSpans() []edit {
	return []edit{
		{"no spans", func(m *api.Msg) { m.Spans = nil }, -1, nil},
		{"an empty list of spans", func(m *api.Msg) { m.Spans = []api.Span{} }, -1, nil},
		{"MaxSpans", func(m *api.Msg) { m.Spans = spans(api.MaxSpans) }, -1, nil},
		{"MaxSpans + 1", func(m *api.Msg) { m.Spans = spans(api.MaxSpans + 1) }, -1, api.ErrMany},
		{"MaxSpans + 1 of zeros", func(m *api.Msg) { m.Spans = make([]api.Span, api.MaxSpans+1) }, -1, api.ErrMany},
		{"MaxSpans of zeros", func(m *api.Msg) { m.Spans = make([]api.Span, api.MaxSpans) }, 0, api.ErrRange},
		{"a span's epoch 0", func(m *api.Msg) { m.Spans[0].Epoch = 0 }, 0, api.ErrRange},
		{"a span's From at To", func(m *api.Msg) { m.Spans[1].From = m.Spans[1].To }, 1, api.ErrRange},
		{"a span's To above MaxLSN", func(m *api.Msg) { m.Spans[1].To = api.MaxLSN + 1 }, 1, api.ErrRange},
		{"a span's epoch as ahead", func(m *api.Msg) { m.Spans[1].Epoch = m.Spans[0].Epoch }, 1, api.ErrShape},
		{"a span's To as ahead", func(m *api.Msg) { m.Spans[1].To = m.Spans[0].To }, 1, api.ErrShape},
		{"a span of zeros", func(m *api.Msg) { m.Spans = append(m.Spans, api.Span{}) }, 2, api.ErrRange},
	}
}

// ofBodies are pages, those that are not right among them.
func ofBodies() []edit {
	return []edit{
		{"a page of zeros", func(m *api.Msg) { m.Body = api.Page{} }, -1, nil},
		{"a new page", func(m *api.Msg) { m.Body = page.New(0) }, -1, nil},
		{"the greatest page", func(m *api.Msg) { m.Body = body() }, -1, nil},
		{"an empty list of entries", func(m *api.Msg) { m.Body.Entries = []api.Entry{} }, -1, nil},
		{"a page's ID", func(m *api.Msg) { m.Body.ID = api.MaxPages }, -1, api.ErrRange},
		{"a page's LSN", func(m *api.Msg) { m.Body.LSN = -1 }, -1, api.ErrRange},
		{"a page's Level", func(m *api.Msg) { m.Body.Level = 17 }, -1, api.ErrRange},
		{"a page's Next", func(m *api.Msg) { m.Body.Next = -2 }, -1, api.ErrRange},
		{"MaxEntries + 1", func(m *api.Msg) { m.Body.Entries = make([]api.Entry, api.MaxEntries+1) }, -1, api.ErrMany},
		{"an entry's key", func(m *api.Msg) { m.Body.Entries[1].Key = make([]byte, api.MaxKey+1) }, -1, api.ErrMany},
		{"an entry's value", func(m *api.Msg) { m.Body.Entries[2].Value = make([]byte, api.MaxValue+1) }, -1, api.ErrMany},
	}
}

// ofKinds are the kinds, each with all fields and with none.
func ofKinds() []edit {
	var out []edit
	for kind := 1; kind <= kinds; kind++ {
		out = append(out,
			edit{fmt.Sprint("kind ", kind, " with all"), func(m *api.Msg) { m.Kind = kind }, -1, nil},
			edit{fmt.Sprint("kind ", kind, " with most"), func(m *api.Msg) { *m = greatest(2); m.Kind = kind }, -1, nil},
			edit{fmt.Sprint("kind ", kind, " with none"), func(m *api.Msg) { *m = least(kind) }, -1, nil})
	}
	return append(out, edit{"of zeros", func(m *api.Msg) { *m = api.Msg{} }, -1, api.ErrKind})
}

// edits are all of them.
func edits() []edit {
	return slices.Concat([]edit{{"as it is", func(m *api.Msg) {}, -1, nil}}, ofNumbers(), ofRecords(), ofSpans(), ofBodies(), ofKinds())
}

// edited is some with that edit.
func edited(c edit) api.Msg {
	m := some()
	c.do(&m)
	return m
}

// right are the messages among them that are right.
func right() []api.Msg {
	var out []api.Msg
	for _, c := range edits() {
		if c.want == nil {
			out = append(out, edited(c))
		}
	}
	return out
}

// text tells all that is in m, byte by byte; nil is as the empty list.
func text(m api.Msg) string { return fmt.Sprint(m) }

// part is a number of m's bytes, or a list of bytes with its count, and the range of that number.
type part struct {
	b           []byte
	low, high   int64
	list, count bool // whether it is a list of bytes, or how many there are of what comes next
}

// num is a part of a number.
func num(n, low, high int64) part { return part{binary.AppendVarint(nil, n), low, high, false, false} }

// many is a part that tells how many there are.
func many(n, most int) part {
	return part{binary.AppendVarint(nil, int64(n)), 0, int64(most), false, true}
}

// list is a part of a list of bytes.
func list(x []byte, most int) part {
	return part{append(binary.AppendVarint(nil, int64(len(x))), x...), 0, int64(most), true, false}
}

// parts are what the chapter says of m's bytes, part by part, by the library.
func parts(m api.Msg) []part {
	var out []part
	for i, n := range []int64{
		int64(m.Kind), int64(m.From), int64(m.To), int64(m.Epoch), int64(m.Inc), int64(m.Group), int64(m.Page), m.LSN, m.At, int64(m.Seq), int64(m.Done),
	} {
		out = append(out, num(n, numbers()[i].low, numbers()[i].high))
	}
	out = append(out, many(len(m.Recs), api.MaxRecs))
	for _, r := range m.Recs {
		last := int64(0)
		if r.Last {
			last = 1
		}
		out = append(out,
			num(r.LSN, 1, api.MaxLSN), num(r.Back, 0, api.MaxLSN), num(int64(r.Epoch), 0, api.MaxEpoch), num(int64(r.Group), 0, api.MaxGroups-1),
			num(int64(r.Page), 0, api.MaxPages-1), num(int64(r.Kind), api.Format, api.Cut), num(int64(r.Slot), 0, 1<<15), num(last, 0, 1),
			list(r.Key, api.MaxKey), list(r.Value, api.MaxValue))
	}
	out = append(out, many(len(m.Spans), api.MaxSpans))
	for _, s := range m.Spans {
		out = append(out, num(int64(s.Epoch), 1, api.MaxEpoch), num(s.From, 0, api.MaxLSN), num(s.To, 0, api.MaxLSN))
	}
	p := m.Body
	out = append(out, num(int64(p.ID), 0, api.MaxPages-1), num(p.LSN, 0, api.MaxLSN), num(int64(p.Level), 0, 16), num(int64(p.Next), -1, api.MaxPages-1))
	out = append(out, many(len(p.Entries), api.MaxEntries))
	for _, e := range p.Entries {
		out = append(out, list(e.Key, api.MaxKey), list(e.Value, api.MaxValue))
	}
	return out
}

// joined are parts as one.
func joined(l []part) []byte {
	var out []byte
	for _, x := range l {
		out = append(out, x.b...)
	}
	return out
}

// startOf is the place at which part i begins.
func startOf(l []part, i int) int { return len(joined(l[:i])) }

// sealed is b with its sum, by the library.
func sealed(b []byte) []byte {
	return binary.LittleEndian.AppendUint32(bytes.Clone(b), crc32.ChecksumIEEE(b))
}

// checkErr asks that err is want, around that place (-1: around none).
func checkErr(t *testing.T, what string, err error, at int, want error) {
	t.Helper()
	if want == nil || at < 0 {
		if err != want {
			t.Errorf("%s: %v, want %v", what, err, want)
		}
		return
	}
	e, is := err.(*api.At)
	if !is || e.Pos != at || e.Err != want || !errors.Is(err, want) {
		t.Errorf("%s: %v, want %v at %d", what, err, want, at)
	}
}

// checkWrong asks that b, sealed, is read with that error around that place (-1: around none), and nothing beside it.
func checkWrong(t *testing.T, what string, b []byte, at int, want error) {
	t.Helper()
	m, err := msg.Read(sealed(b))
	checkErr(t, what, err, at, want)
	if text(m) != text(api.Msg{}) {
		t.Errorf("%s: %s beside an error", what, text(m))
	}
}

// room is what the room behind a list of bytes holds.
const room = "\x5a\x5b\x5c"

// roomy is b with room behind its length that holds something.
func roomy(b []byte) []byte { return append(bytes.Clone(b), room...)[:len(b)] }

// withRoom is m, each of its lists with room behind its length that holds what would count.
func withRoom(m api.Msg) api.Msg {
	recs := slices.Clone(m.Recs)
	for i := range recs {
		recs[i].Key, recs[i].Value = roomy(recs[i].Key), roomy(recs[i].Value)
	}
	entries := slices.Clone(m.Body.Entries)
	for i := range entries {
		entries[i].Key, entries[i].Value = roomy(entries[i].Key), roomy(entries[i].Value)
	}
	m.Recs = append(recs, record(), api.Redo{})[:len(recs)]
	m.Spans = append(slices.Clone(m.Spans), spans(2)...)[:len(m.Spans)]
	m.Body.Entries = append(entries, api.Entry{Key: []byte("spare")}, api.Entry{})[:len(entries)]
	return m
}

// whole tells all that is in m and in the spare room of its lists.
func whole(m api.Msg) string {
	m.Recs = slices.Clone(m.Recs[:cap(m.Recs)])
	for i, r := range m.Recs {
		m.Recs[i].Key, m.Recs[i].Value = r.Key[:cap(r.Key)], r.Value[:cap(r.Value)]
	}
	m.Body.Entries = slices.Clone(m.Body.Entries[:cap(m.Body.Entries)])
	for i, e := range m.Body.Entries {
		m.Body.Entries[i] = api.Entry{Key: e.Key[:cap(e.Key)], Value: e.Value[:cap(e.Value)]}
	}
	m.Spans = m.Spans[:cap(m.Spans)]
	return text(m)
}

// scribble writes over b and over its spare room.
func scribble(b []byte) {
	b = b[:cap(b)]
	for i := range b {
		b[i] ^= 0xff
	}
}

// bytesOf are the lists of bytes of m.
func bytesOf(m *api.Msg) []*[]byte {
	var out []*[]byte
	for i := range m.Recs {
		out = append(out, &m.Recs[i].Key, &m.Recs[i].Value)
	}
	for i := range m.Body.Entries {
		out = append(out, &m.Body.Entries[i].Key, &m.Body.Entries[i].Value)
	}
	return out
}

// scribbleAll writes over all lists of m and over their spare room.
func scribbleAll(m api.Msg) {
	for _, x := range bytesOf(&m) {
		scribble(*x)
	}
	for i := range m.Recs[:cap(m.Recs)] {
		m.Recs[:cap(m.Recs)][i] = api.Redo{LSN: -7, Key: []byte("over")}
	}
	for i := range m.Spans[:cap(m.Spans)] {
		m.Spans[:cap(m.Spans)][i] = api.Span{Epoch: -7}
	}
	for i := range m.Body.Entries[:cap(m.Body.Entries)] {
		m.Body.Entries[:cap(m.Body.Entries)][i] = api.Entry{Key: []byte("it")}
	}
}

// checkOwn asks that what is written into a list of bytes of m, or into its spare room, shows in no other one.
func checkOwn(t *testing.T, what string, m api.Msg) {
	t.Helper()
	for i, x := range bytesOf(&m) {
		one := *x
		*x = nil
		others := text(m)
		scribble(one)
		if text(m) != others {
			t.Fatalf("%s: list %d is shared", what, i)
		}
		scribble(one)
		*x = one
	}
}

// P12.1: each edge of each number, and what is told of records, spans and pages.
func TestValid(t *testing.T) {
	for _, c := range edits() {
		checkErr(t, c.name, msg.Valid(edited(c)), c.at, c.want)
	}
}

// P12.1, P0.2: what is met first is told, in the order of the kind, the numbers, how many records, records, spans, the page.
func TestValidInOrder(t *testing.T) {
	for _, x := range numbers()[1:] {
		m := some()
		for _, c := range []edit{
			{"page", func(m *api.Msg) { m.Body.Entries = make([]api.Entry, api.MaxEntries+1) }, -1, api.ErrMany},
			{"span", func(m *api.Msg) { m.Spans[1].Epoch = m.Spans[0].Epoch }, 1, api.ErrShape},
			{"spans", func(m *api.Msg) { m.Spans = make([]api.Span, api.MaxSpans+1) }, -1, api.ErrMany},
			{"record", func(m *api.Msg) { m.Recs[2].Kind = 0 }, 2, api.ErrKind},
			{"records", func(m *api.Msg) { m.Recs = make([]api.Redo, api.MaxRecs+1) }, -1, api.ErrMany},
			{"number", func(m *api.Msg) { x.set(m, x.high+1) }, -1, api.ErrRange},
			{"kind", func(m *api.Msg) { m.Kind = 0 }, -1, api.ErrKind},
		} {
			c.do(&m)
			checkErr(t, x.name+", "+c.name, msg.Valid(m), c.at, c.want)
			b, err := msg.Bytes(m)
			checkErr(t, x.name+", "+c.name+", of Bytes", err, c.at, c.want)
			if len(b) > 0 {
				t.Errorf("%s, %s: %q beside an error", x.name, c.name, b)
			}
		}
	}
}

// P12.1: a record that is not right is told wherever it stands, whatever is behind it.
func TestValidEachRecord(t *testing.T) {
	const n = 70
	for i := range n {
		m := some()
		m.Recs = slices.Repeat(m.Recs[:1], n)
		m.Recs[i].Kind = 0
		checkErr(t, "a record", msg.Valid(m), i, api.ErrKind)
		m.Recs[n-1].LSN = 0
		if i < n-1 {
			checkErr(t, "a record, and the last", msg.Valid(m), i, api.ErrKind)
		}
	}
}

// P12.1: an error that a caller writes into doesn't come back.
func TestValidErrorsAreNew(t *testing.T) {
	for _, do := range []func(m *api.Msg){func(m *api.Msg) { m.Recs[1] = api.Redo{} }, func(m *api.Msg) { m.Spans[1] = api.Span{} }} {
		m := some()
		do(&m)
		one := msg.Valid(m)
		one.(*api.At).Pos, one.(*api.At).Err = 9, api.ErrEnd
		checkErr(t, "again", msg.Valid(m), 1, api.ErrRange)
	}
}

// P12.1, P0.4: a list's spare room doesn't count, and nothing is written to.
func TestValidLeavesWhatItIsGiven(t *testing.T) {
	for _, c := range edits() {
		m := withRoom(edited(c))
		all := whole(m)
		checkErr(t, c.name, msg.Valid(m), c.at, c.want)
		if whole(m) != all {
			t.Errorf("%s: written to", c.name)
		}
	}
}

// A message is the same as itself and as its like; else as all that is in it tells, whether it is right or not.
func TestSame(t *testing.T) {
	it := text(some())
	for _, c := range edits() {
		a, b := edited(c), withRoom(edited(c))
		if !msg.Same(a, a) || !msg.Same(a, b) || !msg.Same(b, a) {
			t.Errorf("%s: not the same as itself", c.name)
		}
		if want := text(a) == it; msg.Same(a, some()) != want || msg.Same(some(), a) != want {
			t.Errorf("%s: the same as without it, want %v", c.name, want)
		}
	}
}

// Each field tells, alone.
func TestSameEachField(t *testing.T) {
	var does []func(m *api.Msg)
	for _, x := range numbers() {
		for _, n := range []int64{0, -1, 1 << 33, math.MinInt64} {
			does = append(does, func(m *api.Msg) { x.set(m, n) })
		}
	}
	does = append(does,
		func(m *api.Msg) { m.From, m.To = m.To, m.From },
		func(m *api.Msg) { m.Epoch, m.Inc = m.Inc, m.Epoch },
		func(m *api.Msg) { m.Group, m.Page = m.Page, m.Group },
		func(m *api.Msg) { m.LSN, m.At = m.At, m.LSN },
		func(m *api.Msg) { m.Seq, m.Done = m.Done, m.Seq },
		func(m *api.Msg) { m.Recs = nil },
		func(m *api.Msg) { m.Recs = m.Recs[:2] },
		func(m *api.Msg) { m.Recs = m.Recs[1:] },
		func(m *api.Msg) { m.Recs = append(m.Recs, api.Redo{}) },
		func(m *api.Msg) { m.Recs[0], m.Recs[1] = m.Recs[1], m.Recs[0] },
		func(m *api.Msg) { m.Recs[0].LSN++ },
		func(m *api.Msg) { m.Recs[2].Back++ },
		func(m *api.Msg) { m.Recs[2].Slot++ },
		func(m *api.Msg) { m.Recs[1].Last = true },
		func(m *api.Msg) { m.Recs[1].Key = []byte("kex") },
		func(m *api.Msg) { m.Recs[2].Value = nil },
		func(m *api.Msg) { m.Spans = nil },
		func(m *api.Msg) { m.Spans = m.Spans[:1] },
		func(m *api.Msg) { m.Spans = append(m.Spans, api.Span{}) },
		func(m *api.Msg) { m.Spans[1].From++ },
		func(m *api.Msg) { m.Spans[0].To-- },
		func(m *api.Msg) { m.Spans[0].Epoch-- },
		func(m *api.Msg) { m.Body = api.Page{} },
		func(m *api.Msg) { m.Body.ID++ },
		func(m *api.Msg) { m.Body.LSN++ },
		func(m *api.Msg) { m.Body.Level++ },
		func(m *api.Msg) { m.Body.Next = -1 },
		func(m *api.Msg) { m.Body.Entries = m.Body.Entries[:2] },
		func(m *api.Msg) { m.Body.Entries = append(m.Body.Entries, api.Entry{}) },
		func(m *api.Msg) { m.Body.Entries[2].Value = []byte("24") },
		func(m *api.Msg) { m.Body.Entries[1].Key = nil })
	for i, do := range does {
		m := some()
		do(&m)
		if msg.Same(m, some()) || msg.Same(some(), m) {
			t.Errorf("edit %d doesn't tell", i)
		}
	}
}

// P0.4: no list is the same as an empty one.
func TestSameLists(t *testing.T) {
	a := api.Msg{Kind: 1}
	b := api.Msg{Kind: 1, Recs: []api.Redo{}, Spans: []api.Span{}, Body: api.Page{Entries: []api.Entry{}}}
	if !msg.Same(a, b) || !msg.Same(b, a) {
		t.Error("no lists are others than empty ones")
	}
	a.Recs, b.Recs = make([]api.Redo, 1), []api.Redo{{Key: []byte{}, Value: []byte{}}}
	a.Body.Entries, b.Body.Entries = make([]api.Entry, 1), []api.Entry{{Key: []byte{}, Value: []byte{}}}
	if !msg.Same(a, b) || !msg.Same(b, a) {
		t.Error("no keys and values are others than empty ones")
	}
}

// P0.4: a clone is the same, and shares no memory, spare room too; what it was made of isn't written to.
func TestClone(t *testing.T) {
	for _, c := range edits() {
		m := withRoom(edited(c))
		if len(m.Recs) > 1000 {
			m.Recs = m.Recs[:1000]
		}
		was, all := text(m), whole(m)
		one, two := msg.Clone(m), msg.Clone(m)
		if text(one) != was || whole(m) != all || !msg.Same(one, m) {
			t.Fatalf("%s: %s", c.name, text(one))
		}
		if len(one.Recs) < 10 {
			checkOwn(t, c.name, one)
		}
		scribbleAll(one)
		if text(two) != was || whole(m) != all {
			t.Errorf("%s: what is written into a clone shows", c.name)
		}
		scribbleAll(m)
		if text(two) != was {
			t.Errorf("%s: what it was made of counts later", c.name)
		}
	}
}

// P0.4: records and entries that come with one memory go with memory of their own.
func TestCloneOfOneMemory(t *testing.T) {
	m, one := some(), []byte("one")
	for _, x := range bytesOf(&m) {
		*x = one
	}
	checkOwn(t, "of one memory", msg.Clone(m))
}

// P12.2: known bytes.
func TestBytesKnown(t *testing.T) {
	big := "\x80\x80\x80\x80\x80\x40" // MaxLSN
	epoch := "\x80\x80\x80\x80\x08"   // MaxEpoch
	m := greatest(1)
	m.Spans, m.Body = spans(1), page.New(64)
	for _, c := range []struct {
		m    api.Msg
		want string
	}{
		{least(1), "\x02" + strings.Repeat("\x00", 10) + "\x00" + "\x00" + "\x00\x00\x00\x00\x00"},
		{some(), "\x10\x06\x78\x0a\x0e\x02\x12\x16\x1a\x1e\x22" +
			"\x06" + "\x08\x04\x0c\x04\x10\x04\x06\x02\x02k\x04vv" + "\x12\x08\x02\x06\xfe\x03\x0c\x00\x00\x06key\x00" + "\x02\x00\x00\x00\x00\x02\x00\x00\x00\x02w" +
			"\x04" + "\x04\x14\x3c" + "\x08\x0a\x3e" +
			"\x1c\x20\x14\x24\x06" + "\x02a\x021" + "\x02b\x00" + "\x00\x0423"},
		{m, "\x1e\x7e\x7e" + epoch + epoch + "\x06\xfe\x03" + big + big + epoch + epoch +
			"\x02" + big + "\xfe\xff\xff\xff\xff\x3f" + epoch + "\x06\xfe\x03\x0c\x80\x80\x04\x02" +
			"\x40" + strings.Repeat("\xff", 32) + "\x80\x01" + strings.Repeat("\x80", 64) +
			"\x02" + epoch + "\xfe\xff\xff\xff\xff\x3f" + big +
			"\x80\x01\x00\x00\x01\x00"},
	} {
		b, err := msg.Bytes(c.m)
		if !bytes.Equal(b, sealed([]byte(c.want))) || err != nil {
			t.Errorf("%s: %q, %v", text(c.m), b, err)
		}
	}
	if b, _ := msg.Bytes(least(1)); string(b) != "\x02"+strings.Repeat("\x00", 17)+"\xce\xa4\xcf\x62" {
		t.Errorf("the least: %q", b)
	}
}

// P12.2: Valid's errors, with no bytes beside them; else what the chapter says.
func TestBytes(t *testing.T) {
	for _, c := range edits() {
		m := withRoom(edited(c))
		all := whole(m)
		b, err := msg.Bytes(m)
		checkErr(t, c.name, err, c.at, c.want)
		if err != nil && len(b) > 0 {
			t.Errorf("%s: %q beside an error", c.name, b)
		}
		if err == nil && !bytes.Equal(b, sealed(joined(parts(m)))) {
			t.Errorf("%s: %q", c.name, b)
		}
		if whole(m) != all {
			t.Errorf("%s: written to", c.name)
		}
	}
}

// P12.2, P0.4: Bytes hands out new memory.
func TestBytesAreNewMemory(t *testing.T) {
	for _, m := range right() {
		one, _ := msg.Bytes(m)
		two, _ := msg.Bytes(m)
		was := text(m)
		scribble(one)
		if !bytes.Equal(two, sealed(joined(parts(m)))) || text(m) != was {
			t.Errorf("%s: an answer is shared", was)
		}
	}
}

// P12.2: Read tells what Bytes was given.
func TestReadOfBytes(t *testing.T) {
	for _, m := range append(right(), greatest(0), greatest(api.MaxRecs)) {
		b, err := msg.Bytes(m)
		if err != nil {
			t.Fatal(err)
		}
		got, err := msg.Read(b)
		if text(got) != text(m) || !msg.Same(got, m) || err != nil {
			t.Errorf("%.999s: %.999s, %v", text(m), text(got), err)
		}
	}
}

// P12.2: sum.Open's errors: fewer than four bytes, and another sum; around no place, ahead of all others.
func TestReadSum(t *testing.T) {
	for _, b := range [][]byte{nil, {}, {2}, {2, 0}, {2, 0, 0}, {0, 0, 0}, {255, 255, 255}} {
		m, err := msg.Read(b)
		if err != api.ErrEnd || text(m) != text(api.Msg{}) {
			t.Errorf("%q: %s, %v", b, text(m), err)
		}
	}
	whole := sealed(joined(parts(some())))
	for _, right := range [][]byte{whole, sealed(nil), sealed([]byte{0}), sealed(whole)} {
		for i := range 8 * len(right) {
			b := bytes.Clone(right)
			b[i/8] ^= 1 << (i % 8)
			m, err := msg.Read(b)
			if err != api.ErrSum || text(m) != text(api.Msg{}) {
				t.Errorf("%q: %s, %v", b, text(m), err)
			}
		}
	}
	for k := 4; k < len(whole); k++ {
		if m, err := msg.Read(whole[:k]); err != api.ErrSum || text(m) != text(api.Msg{}) {
			t.Errorf("cut at %d: %s, %v", k, text(m), err)
		}
	}
	if _, err := msg.Read(append(whole, 0)); err != api.ErrSum {
		t.Errorf("a byte behind the sum: %v", err)
	}
}

// P12.2: a message that is cut anywhere ends too early: where the part that is cut begins, counted from the message's beginning.
func TestReadEnds(t *testing.T) {
	for _, m := range []api.Msg{some(), greatest(2), least(1)} {
		l := parts(m)
		b := joined(l)
		at := 0
		for i, x := range l {
			for k := range x.b {
				checkWrong(t, fmt.Sprint("part ", i, " cut"), b[:at+k], at, api.ErrEnd)
			}
			at += len(x.b)
		}
	}
}

// P12.2: each number has its range: one past either end is met where it begins.
func TestReadRanges(t *testing.T) {
	for _, m := range []api.Msg{some(), greatest(1)} {
		for i, x := range parts(m) {
			l := parts(m)
			at := startOf(l, i)
			for _, n := range []int64{x.low - 1, x.high + 1, -x.high - 3, math.MinInt64, math.MaxInt64, 1 << 32, 1 << 41} {
				if x.low <= n && n <= x.high {
					continue // 2^32 is an LSN
				}
				l[i].b = binary.AppendVarint(nil, n)
				checkWrong(t, fmt.Sprint("part ", i, " of ", n), joined(l), at, api.ErrRange)
				checkWrong(t, fmt.Sprint("part ", i, " of ", n, ", and nothing behind"), joined(l[:i+1]), at, api.ErrRange)
			}
		}
	}
}

// P12.2: the ends of each number's range are right for the reader: it goes on to the next part.
func TestReadEndsOfRanges(t *testing.T) {
	for i, x := range parts(some()) {
		if x.count {
			continue // see TestReadCounts
		}
		l := parts(some())
		for _, n := range []int64{x.low, x.high} {
			l[i].b = binary.AppendVarint(nil, n)
			if x.list {
				l[i].b = append(l[i].b, make([]byte, n)...)
			}
			// What is cut behind it, or just behind all, tells that it was read.
			b := joined(l)
			if i < len(l)-1 {
				checkWrong(t, fmt.Sprint("part ", i, " of ", n), joined(l[:i+1]), startOf(l, i+1), api.ErrEnd)
			}
			checkWrong(t, fmt.Sprint("part ", i, " of ", n, ", and a byte behind"), append(b, 0), len(b), api.ErrShape)
			if i < 11 {
				if m, err := msg.Read(sealed(b)); err != nil || !bytes.Equal(joined(parts(m)), b) {
					t.Errorf("part %d of %d: %s, %v", i, n, text(m), err)
				}
			}
		}
	}
}

// P12.2: from none to MaxRecs records, MaxSpans spans and MaxEntries entries; one more is met at the count.
func TestReadCounts(t *testing.T) {
	for _, n := range []int{0, 1, 2, 100, api.MaxRecs - 1, api.MaxRecs, api.MaxRecs + 1} {
		m := some()
		m.Recs = slices.Repeat(m.Recs[:1], n)
		checkCount(t, fmt.Sprint(n, " records"), m, 0, n > api.MaxRecs)
	}
	for _, n := range []int{0, 1, api.MaxSpans, api.MaxSpans + 1} {
		m := some()
		m.Spans = spans(n)
		checkCount(t, fmt.Sprint(n, " spans"), m, 1, n > api.MaxSpans)
	}
	for _, n := range []int{0, 1, api.MaxEntries, api.MaxEntries + 1} {
		m := some()
		m.Body.Entries = slices.Repeat(m.Body.Entries[:1], n)
		checkCount(t, fmt.Sprint(n, " entries"), m, 2, n > api.MaxEntries)
	}
}

// checkCount asks that m is read from its bytes, or, if it is too much, that the count'th count tells that.
func checkCount(t *testing.T, what string, m api.Msg, count int, tooMuch bool) {
	t.Helper()
	l := parts(m)
	if tooMuch {
		checkWrong(t, what, joined(l), startOf(l, placeOf(l, count)), api.ErrRange)
		return
	}
	if got, err := msg.Read(sealed(joined(l))); text(got) != text(m) || err != nil {
		t.Errorf("%s: %.999s, %v", what, text(got), err)
	}
}

// placeOf is which of l is the count'th count.
func placeOf(l []part, count int) int {
	for i, x := range l {
		if x.count && count == 0 {
			return i
		} else if x.count {
			count--
		}
	}
	return -1
}

// P12.2: more records are told of than there are: it ends where the one that isn't there begins.
func TestReadFewRecords(t *testing.T) {
	for there := range 3 {
		m := some()
		m.Recs = m.Recs[:there]
		l := parts(m)
		l = l[:placeOf(l, 1)]
		for _, n := range []int{there + 1, there + 2, api.MaxRecs} {
			l[placeOf(l, 0)] = many(n, api.MaxRecs)
			b := joined(l)
			checkWrong(t, fmt.Sprint(n, " records, ", there, " there"), b, len(b), api.ErrEnd)
		}
	}
}

// P12.2: a number that is written in another way, or has more than 64 bits, isn't of its shape.
func TestReadShape(t *testing.T) {
	for i := range parts(some()) {
		for _, x := range []string{"\x80\x00", "\x82\x80\x00", strings.Repeat("\xff", 9) + "\x02", strings.Repeat("\x80", 10), strings.Repeat("\xff", 300)} {
			l := parts(some())
			at := startOf(l, i)
			l[i].b = []byte(x)
			checkWrong(t, fmt.Sprint("part ", i), joined(l), at, api.ErrShape)
			checkWrong(t, fmt.Sprint("part ", i, ", and nothing behind"), joined(l[:i+1]), at, api.ErrShape)
		}
	}
}

// P12.2: ErrShape around the first byte behind, whatever it is, and however many there are.
func TestReadBehind(t *testing.T) {
	for _, m := range []api.Msg{least(1), some(), greatest(1)} {
		b := joined(parts(m))
		for _, tail := range []string{"\x00", "\x80", "\xff\xff", string(b), string(sealed(b)), strings.Repeat("\x80", 5000)} {
			checkWrong(t, fmt.Sprintf("%.20q behind", tail), append(bytes.Clone(b), tail...), len(b), api.ErrShape)
		}
	}
}

// P12.2: what the reader lets by and Valid does not: a Back that isn't below the LSN, around the record's place; spans that don't follow one another, around theirs.
func TestReadValid(t *testing.T) {
	for _, c := range notValid() {
		checkWrong(t, c.name, joined(parts(edited(c))), c.at, c.want)
	}
	both := some()
	both.Recs[1].Back, both.Spans[0].From = 10, 30
	checkWrong(t, "a record ahead of a span", joined(parts(both)), 1, api.ErrRange)
}

// notValid are edits that the ranges let by.
func notValid() []edit {
	return []edit{
		{"the first Back", func(m *api.Msg) { m.Recs[0].Back = m.Recs[0].LSN }, 0, api.ErrRange},
		{"the last Back", func(m *api.Msg) { m.Recs[2].Back = api.MaxLSN }, 2, api.ErrRange},
		{"two of them", func(m *api.Msg) { m.Recs[1].Back, m.Recs[2].Back = 9, 1 }, 1, api.ErrRange},
		{"a From at To", func(m *api.Msg) { m.Spans[0].From = m.Spans[0].To }, 0, api.ErrRange},
		{"a To 0", func(m *api.Msg) { m.Spans[1].From, m.Spans[1].To = 0, 0 }, 1, api.ErrRange},
		{"an epoch as ahead", func(m *api.Msg) { m.Spans[1].Epoch = m.Spans[0].Epoch }, 1, api.ErrShape},
		{"a To as ahead", func(m *api.Msg) { m.Spans[1].To = m.Spans[0].To }, 1, api.ErrShape},
	}
}

// P12.2, P0.2: the reader's errors, over all of it, are ahead of what is behind, and that is ahead of Valid's.
func TestReadInOrder(t *testing.T) {
	for _, c := range notValid() {
		l := parts(edited(c))
		b := joined(l)
		checkWrong(t, c.name+", and a byte behind", append(bytes.Clone(b), 7), len(b), api.ErrShape)
		last := len(l) - 1
		checkWrong(t, c.name+", and cut", b[:len(b)-1], startOf(l, last), api.ErrEnd)
		l[last].b = []byte{0x80, 0}
		checkWrong(t, c.name+", and a value of another shape", joined(l), startOf(l, last), api.ErrShape)
		l[last-8].b = []byte{34}
		checkWrong(t, c.name+", and a Level out of its range", append(joined(l), 7), startOf(l, last-8), api.ErrRange)
		l[0].b = []byte{0}
		checkWrong(t, c.name+", and kind 0", joined(l), 0, api.ErrRange)
	}
}

// P12.2, P0.4: Read leaves what it is given, reads nothing behind it, and hands out new memory.
func TestReadSharesNothing(t *testing.T) {
	for _, m := range right() {
		if len(m.Recs) > 1000 {
			continue
		}
		b := append(sealed(joined(parts(m))), room...)
		short, before := b[:len(b)-len(room)], bytes.Clone(b)
		one, _ := msg.Read(short)
		two, _ := msg.Read(short)
		checkOwn(t, text(m), one)
		scribbleAll(one)
		if text(two) != text(m) || !bytes.Equal(b, before) {
			t.Errorf("%s: what is written into an answer shows", text(m))
		}
		scribble(b)
		if text(two) != text(m) {
			t.Errorf("%s: what it was read from counts later", text(m))
		}
	}
}

// P12.2: an error that a caller writes into doesn't come back.
func TestReadErrorsAreNew(t *testing.T) {
	for i, c := range notValid() {
		b := joined(parts(edited(c)))
		at, want := c.at, c.want
		if i%2 > 0 {
			at, want = len(b), api.ErrShape
			b = append(b, 0)
		}
		_, one := msg.Read(sealed(b))
		one.(*api.At).Pos, one.(*api.At).Err = -9, api.ErrFull
		checkWrong(t, c.name, b, at, want)
	}
}

// P12.2, P0.1: whatever is read, it is what Bytes makes of the answer, or there is none.
func TestReadOfAny(t *testing.T) {
	rnd := rand.New(rand.NewSource(12))
	good := 0
	for i := range 20000 {
		m := []api.Msg{some(), least(1 + i%kinds), greatest(1)}[i%3]
		b := joined(parts(m))
		for range rnd.Intn(4) {
			switch k := rnd.Intn(len(b)); rnd.Intn(3) {
			case 0:
				b[k] = byte(rnd.Intn(256))
			case 1:
				b[k] ^= 1 << rnd.Intn(8)
			case 2:
				b = append(slices.Delete(b, k, min(len(b), k+rnd.Intn(3))), make([]byte, 1+rnd.Intn(2))...)
			}
		}
		got, err := msg.Read(sealed(b))
		if err != nil {
			var at *api.At
			if text(got) != text(api.Msg{}) || !errors.As(err, &at) || at.Pos < 0 || at.Pos > len(b) {
				t.Fatalf("%q: %s, %v", b, text(got), err)
			}
			continue
		}
		good++
		if out, err := msg.Bytes(got); !bytes.Equal(out, sealed(b)) || err != nil {
			t.Fatalf("%q: %s, %v", b, text(got), err)
		}
	}
	if good < 1000 {
		t.Errorf("just %d were right", good)
	}
}

// P12.2: the fifteen names; others have none.
func TestName(t *testing.T) {
	names := strings.Fields("write ack refuse read give behind prepare promise install done ask fill hydrate whole floor")
	for i, want := range names {
		if got := msg.Name(i + 1); got != want {
			t.Errorf("Name(%d): %q, want %q", i+1, got, want)
		}
	}
	if len(names) != kinds || msg.Name(9) != "install" || msg.Name(api.Floor) != "floor" {
		t.Error("others than the chapter's")
	}
	for _, kind := range []int{0, 16, 17, 100, -1, -15, 1<<32 + 1, math.MinInt, math.MinInt + 1, math.MaxInt} {
		if got := msg.Name(kind); got != "" {
			t.Errorf("Name(%d): %q", kind, got)
		}
	}
}
