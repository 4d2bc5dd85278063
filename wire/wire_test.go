package wire_test

import (
	"bytes"
	"encoding/binary"
	"errors"
	"math"
	"strings"
	"testing"

	"sextet/api"
	"sextet/wire"
)

// numbers are those that the tests go through: small ones, both sides of each power of two, the outermost.
func numbers() []int64 {
	var out []int64
	for n := int64(-300); n <= 300; n++ {
		out = append(out, n)
	}
	for k := range 63 {
		p := int64(1) << k
		out = append(out, p-1, p, p+1, -p-1, -p, -p+1)
	}
	return append(out, math.MaxInt64-1, math.MaxInt64, math.MinInt64, math.MinInt64+1, 1234567890123456789, -1234567890123456789)
}

// texts are lists of bytes of many lengths: both sides of where their count takes a byte more.
func texts() [][]byte {
	out := [][]byte{nil, {}, {0}, {128}, {255}, []byte("ab")}
	for _, n := range []int{3, 31, 32, 63, 64, 65, 255, 256, 8191, 8192, 8193} {
		b := make([]byte, n)
		for i := range b {
			b[i] = byte(i*7 + n)
		}
		out = append(out, b)
	}
	return out
}

// spare is b with room behind its length that holds fill, and that memory whole.
func spare(b []byte, fill byte) (short, whole []byte) {
	whole = append(bytes.Clone(b), bytes.Repeat([]byte{fill}, 16)...)
	return whole[:len(b)], whole
}

// scribble writes over b and over its spare room.
func scribble(b []byte) {
	b = b[:cap(b)]
	for i := range b {
		b[i] ^= 0xff
	}
}

// any64 reads whatever number comes.
func any64(r *wire.Reader) int64 { return r.Num(math.MinInt64, math.MaxInt64) }

// checkGood asks that r has no error, and where it is.
func checkGood(t *testing.T, r *wire.Reader, at, left int) {
	t.Helper()
	if r.Err() != nil || r.At() != at || r.Left() != left {
		t.Errorf("at %d, %d left, %v; want at %d, %d left", r.At(), r.Left(), r.Err(), at, left)
	}
}

// checkStopped asks that r has that error around that place, and that no call changes a thing.
func checkStopped(t *testing.T, r *wire.Reader, at, left int, want error) {
	t.Helper()
	for range 2 {
		e, ok := r.Err().(*api.At)
		if !ok || e.Pos != at || e.Err != want || !errors.Is(r.Err(), want) {
			t.Fatalf("error %v, want %v at %d", r.Err(), want, at)
		}
		if r.At() != at || r.Left() != left {
			t.Fatalf("at %d, %d left; want at %d, %d left", r.At(), r.Left(), at, left)
		}
		if any64(r) != 0 || r.Num(0, 9) != 0 || r.Num(5, 9) != 0 || r.Num(9, 5) != 0 {
			t.Fatal("Num goes on")
		}
		if r.Bytes(99) != nil || r.Bytes(0) != nil || r.Bytes(-1) != nil || r.Bool() {
			t.Fatal("Bytes or Bool goes on")
		}
	}
}

// P2.1: known numbers.
func TestPutKnown(t *testing.T) {
	ff := strings.Repeat("\xff", 8)
	for _, c := range []struct {
		n    int64
		want string
	}{
		{0, "\x00"}, {-1, "\x01"}, {1, "\x02"}, {-2, "\x03"}, {2, "\x04"},
		{63, "\x7e"}, {-64, "\x7f"}, {64, "\x80\x01"}, {-65, "\x81\x01"}, {65, "\x82\x01"},
		{8191, "\xfe\x7f"}, {-8192, "\xff\x7f"}, {8192, "\x80\x80\x01"}, {-8193, "\x81\x80\x01"},
		{150, "\xac\x02"}, {-150, "\xab\x02"},
		{math.MaxInt64, "\xfe" + ff + "\x01"}, {math.MinInt64, "\xff" + ff + "\x01"},
	} {
		if got := wire.Put(nil, c.n); string(got) != c.want {
			t.Errorf("Put(nil, %d) = %v, want %v", c.n, got, []byte(c.want))
		}
		if got := wire.Put([]byte("ab"), c.n); string(got) != "ab"+c.want {
			t.Errorf("Put(ab, %d) = %v", c.n, got)
		}
	}
}

// P2.1: the same bytes as the library's, whose numbers are written so too.
func TestPutAsLibrary(t *testing.T) {
	for _, n := range numbers() {
		for _, b := range [][]byte{nil, {}, {0}, {128}, []byte("ahead")} {
			if got, want := wire.Put(b, n), binary.AppendVarint(bytes.Clone(b), n); !bytes.Equal(got, want) {
				t.Errorf("Put(%v, %d) = %v, want %v", b, n, got, want)
			}
		}
	}
}

// P2.1: a list is how many it has, and these.
func TestPutBytes(t *testing.T) {
	for _, c := range []struct{ b, x, want string }{
		{"", "", "\x00"}, {"", "ab", "\x04ab"}, {"z", "", "z\x00"}, {"\x00\n", "ab", "\x00\n\x04ab"}, {"", "\x00", "\x02\x00"},
	} {
		if got := wire.PutBytes([]byte(c.b), []byte(c.x)); string(got) != c.want {
			t.Errorf("PutBytes(%q, %q) = %q, want %q", c.b, c.x, got, c.want)
		}
	}
	if got := wire.PutBytes(nil, nil); string(got) != "\x00" {
		t.Errorf("PutBytes(nil, nil) = %q", got)
	}
	for _, b := range texts() {
		for _, x := range texts() {
			want := append(binary.AppendVarint(bytes.Clone(b), int64(len(x))), x...)
			if got := wire.PutBytes(b, x); !bytes.Equal(got, want) {
				t.Errorf("PutBytes of %d and %d bytes: another one", len(b), len(x))
			}
		}
	}
}

// P2.1: of a list and itself, and of two pieces of one memory.
func TestPutBytesOfOneMemory(t *testing.T) {
	all := []byte("abcdef")
	if got := wire.PutBytes(all, all); string(got) != "abcdef\x0cabcdef" {
		t.Errorf("of itself: %q", got)
	}
	if got := wire.PutBytes(all[:2], all[1:]); string(got) != "ab\x0abcdef" {
		t.Errorf("of its pieces: %q", got)
	}
	if string(all) != "abcdef" {
		t.Errorf("written to: %q", all)
	}
}

// P2.1, P0.4: nothing that is handed in is written to, nor what lies behind it.
func TestPutLeavesWhatItIsGiven(t *testing.T) {
	for _, fill := range []byte{0, 0x5a} {
		for _, b := range texts() {
			short, whole := spare(b, fill)
			x, other := spare([]byte("xyz"), fill)
			before, otherBefore := bytes.Clone(whole), bytes.Clone(other)
			wire.Put(short, -1)
			wire.Put(short, math.MinInt64)
			wire.PutBytes(short, x)
			wire.PutBytes(x, short)
			if !bytes.Equal(whole, before) || !bytes.Equal(other, otherBefore) {
				t.Errorf("%d bytes: written to", len(b))
			}
		}
	}
}

// P2.1, P0.4: what is handed out is new memory, its spare room too.
func TestPutAnswersAreNewMemory(t *testing.T) {
	for _, b := range texts() {
		given, x := bytes.Clone(b), []byte("xyz")
		one, two := wire.Put(given, 5), wire.Put(given, 5)
		three, four := wire.PutBytes(given, x), wire.PutBytes(given, x)
		wantTwo, wantFour := bytes.Clone(two), bytes.Clone(four)
		scribble(one)
		scribble(three)
		if !bytes.Equal(given, b) || string(x) != "xyz" || !bytes.Equal(two, wantTwo) || !bytes.Equal(four, wantFour) {
			t.Errorf("%d bytes: an answer is shared", len(b))
		}
		grown := wire.Put(two, 6)
		also := wire.Put(two, 7)
		if grown[len(grown)-1] != 12 || also[len(also)-1] != 14 {
			t.Errorf("%d bytes: two answers that go on from one are shared", len(b))
		}
	}
}

// P2.2: a reader tells what Put was given, and stops behind it.
func TestNumOfPut(t *testing.T) {
	for _, n := range numbers() {
		b := wire.Put(nil, n)
		r := wire.NewReader(append(bytes.Clone(b), 0, 255))
		checkGood(t, r, 0, len(b)+2)
		if got := any64(r); got != n {
			t.Errorf("Num of Put(%d) = %d", n, got)
		}
		checkGood(t, r, len(b), 2)
	}
}

// P2.2: both ends of the range are in it; one past either is not, nor is anything in one turned round.
func TestNumRange(t *testing.T) {
	for _, n := range numbers() {
		b := append([]byte{0}, wire.Put(nil, n)...)
		for _, c := range [][2]int64{{n, n}, {math.MinInt64, n}, {n, math.MaxInt64}} {
			r := wire.NewReader(b)
			if r.Num(0, 0) != 0 || r.Num(c[0], c[1]) != n {
				t.Errorf("%d is not from %d to %d", n, c[0], c[1])
			}
			checkGood(t, r, len(b), 0)
		}
		outside := [][2]int64{{math.MaxInt64, math.MinInt64}}
		if n > math.MinInt64 {
			outside = append(outside, [2]int64{math.MinInt64, n - 1}, [2]int64{n, n - 1})
		}
		if n < math.MaxInt64 {
			outside = append(outside, [2]int64{n + 1, math.MaxInt64}, [2]int64{n + 1, n})
		}
		for _, c := range outside {
			r := wire.NewReader(b)
			if r.Num(0, 0) != 0 || r.Num(c[0], c[1]) != 0 {
				t.Errorf("%d from %d to %d is not 0", n, c[0], c[1])
			}
			checkStopped(t, r, 1, len(b)-1, api.ErrRange)
		}
	}
}

// P2.2: a number that ends too early, however far it came, whatever the range.
func TestNumEnds(t *testing.T) {
	for _, n := range numbers() {
		b := wire.Put(nil, n)
		for k := range b {
			for _, high := range []int64{math.MaxInt64, 0, -1} {
				r := wire.NewReader(b[:k])
				if r.Num(0, high) != 0 {
					t.Errorf("%v isn't 0", b[:k])
				}
				checkStopped(t, r, 0, k, api.ErrEnd)
			}
		}
	}
	r := wire.NewReader(nil)
	any64(r)
	checkStopped(t, r, 0, 0, api.ErrEnd)
}

// P2.2: the tenth byte is at most 1, and no byte but the first is 0; the first fault met is told.
func TestNumShape(t *testing.T) {
	nine := strings.Repeat("\xff", 9)
	low := strings.Repeat("\x80", 9)
	for _, c := range []struct {
		text string
		want error
	}{
		{"\x80\x00", api.ErrShape},
		{"\xff\x00", api.ErrShape},
		{"\x80\x80\x00", api.ErrShape},
		{"\x81\x80\x00\x05", api.ErrShape},
		{strings.Repeat("\x80", 8) + "\x00", api.ErrShape},
		{low + "\x00", api.ErrShape},
		{nine + "\x00", api.ErrShape},
		{nine + "\x02", api.ErrShape},
		{low + "\x02", api.ErrShape},
		{nine + "\x03", api.ErrShape},
		{nine + "\x7f", api.ErrShape},
		{nine + "\x80", api.ErrShape},
		{nine + "\x81", api.ErrShape},
		{low + "\x80\x01", api.ErrShape},
		{nine + "\x80\x01", api.ErrShape},
		{nine + "\xff", api.ErrShape},
		{nine, api.ErrEnd},
		{low, api.ErrEnd},
		{"\x80", api.ErrEnd},
		{"\x80\x80", api.ErrEnd},
	} {
		for _, high := range []int64{math.MaxInt64, 0} {
			r := wire.NewReader([]byte("\x02" + c.text))
			if r.Num(1, 1) != 1 || r.Num(0, high) != 0 {
				t.Errorf("%q isn't 0", c.text)
			}
			checkStopped(t, r, 1, len(c.text), c.want)
		}
	}
}

// P2.2: a tenth byte of 1 is right, and a 0 that is the first one.
func TestNumShapeEdges(t *testing.T) {
	for _, c := range []struct {
		text string
		want int64
	}{
		{strings.Repeat("\xff", 9) + "\x01", math.MinInt64},
		{"\xfe" + strings.Repeat("\xff", 8) + "\x01", math.MaxInt64},
		{strings.Repeat("\x80", 9) + "\x01", 1 << 62},
		{strings.Repeat("\x80", 8) + "\x01", 1 << 55},
		{"\x00", 0},
	} {
		r := wire.NewReader([]byte(c.text + "\x00"))
		if got := any64(r); got != c.want {
			t.Errorf("%q is %d, want %d", c.text, got, c.want)
		}
		checkGood(t, r, len(c.text), 1)
		if any64(r) != 0 {
			t.Errorf("behind %q: not 0", c.text)
		}
		checkGood(t, r, len(c.text)+1, 0)
	}
}

// P2.2: every text of at most three bytes out of some: what it is, is written in one way alone.
func TestNumIsWrittenInOneWay(t *testing.T) {
	some := []byte{0, 1, 2, 127, 128, 129, 255}
	var all [][]byte
	for _, x := range some {
		all = append(all, []byte{x})
		for _, y := range some {
			all = append(all, []byte{x, y})
			for _, z := range some {
				all = append(all, []byte{x, y, z})
			}
		}
	}
	for _, b := range all {
		r := wire.NewReader(b)
		n := any64(r)
		if r.Err() == nil && !bytes.Equal(wire.Put(nil, n), b[:r.At()]) {
			t.Errorf("%v is read as %d in %d bytes", b, n, r.At())
		}
		if r.Err() != nil && r.At() != 0 {
			t.Errorf("%v: at %d behind an error", b, r.At())
		}
	}
}

// P2.2: a reader tells the list that PutBytes was given; exactly as many as may be are right.
func TestBytesOfPutBytes(t *testing.T) {
	for _, x := range texts() {
		b := wire.PutBytes([]byte{2}, x)
		for _, most := range []int{len(x), len(x) + 1, math.MaxInt} {
			r := wire.NewReader(append(bytes.Clone(b), 4))
			if r.Num(0, 9) != 1 {
				t.Error("not 1")
			}
			if got := r.Bytes(most); !bytes.Equal(got, x) {
				t.Errorf("%d bytes come back as %d", len(x), len(got))
			}
			checkGood(t, r, len(b), 1)
			if r.Num(0, 9) != 2 {
				t.Error("not 2")
			}
		}
	}
}

// P2.2: too many for what was asked, fewer than the count tells, and counts that are none; the place is that of the count.
func TestBytesWrong(t *testing.T) {
	big := string(wire.Put(nil, math.MaxInt64))
	low := string(wire.Put(nil, math.MinInt64))
	for _, c := range []struct {
		text string
		most int
		want error
	}{
		{"\x06abc", 2, api.ErrRange},
		{"\x06abc", 0, api.ErrRange},
		{"\x06abc", -1, api.ErrRange},
		{"\x00", -1, api.ErrRange},
		{"\x00", math.MinInt, api.ErrRange},
		{"\x01", 9, api.ErrRange},
		{"\x01", -1, api.ErrRange},
		{low + "abc", math.MaxInt, api.ErrRange},
		{"\x06", 2, api.ErrRange},
		{"\x06ab", 3, api.ErrEnd},
		{"\x06", 9, api.ErrEnd},
		{"\x02", 1, api.ErrEnd},
		{"\x80\x01" + strings.Repeat("a", 63), 64, api.ErrEnd},
		{big + "abc", math.MaxInt, api.ErrEnd},
		{"", 9, api.ErrEnd},
		{"", -1, api.ErrEnd},
		{"\x80", 0, api.ErrEnd},
		{"\x86\x00abc", 9, api.ErrShape},
		{strings.Repeat("\xff", 9) + "\x02abc", 9, api.ErrShape},
	} {
		r := wire.NewReader([]byte("\x81\x01" + c.text))
		if any64(r) != -65 || r.Bytes(c.most) != nil {
			t.Errorf("Bytes(%d) of %q is something", c.most, c.text)
		}
		checkStopped(t, r, 2, len(c.text), c.want)
	}
}

// P2.2: 1 is true, 0 is false, the rest is neither.
func TestBool(t *testing.T) {
	r := wire.NewReader([]byte{2, 0, 2, 2, 0})
	for i, want := range []bool{true, false, true, true, false} {
		if r.Bool() != want {
			t.Errorf("at %d: not %v", i, want)
		}
		checkGood(t, r, i+1, 4-i)
	}
	for _, c := range []struct {
		text string
		want error
	}{
		{"\x04", api.ErrRange}, {"\x01", api.ErrRange}, {"\x03", api.ErrRange}, {"\x80\x01", api.ErrRange},
		{"", api.ErrEnd}, {"\x82", api.ErrEnd}, {"\x82\x00", api.ErrShape}, {"\x80\x00", api.ErrShape},
	} {
		r := wire.NewReader([]byte("\x02" + c.text))
		if !r.Bool() || r.Bool() {
			t.Errorf("%q is true", c.text)
		}
		checkStopped(t, r, 1, len(c.text), c.want)
	}
}

// P2.2: one thing behind the other, up to the end, which is an error once more is asked.
func TestReaderGoesOn(t *testing.T) {
	var b []byte
	for _, n := range numbers() {
		b = wire.PutBytes(wire.Put(b, n), []byte("ab")[:n&1])
	}
	r := wire.NewReader(b)
	for _, n := range numbers() {
		if any64(r) != n || len(r.Bytes(1)) != int(n&1) {
			t.Fatalf("at %d: not %d", r.At(), n)
		}
	}
	checkGood(t, r, len(b), 0)
	r.Bool()
	checkStopped(t, r, len(b), 0, api.ErrEnd)
}

// P2.2: two readers of one text go each its own way.
func TestReadersAreApart(t *testing.T) {
	b := []byte{2, 4, 6}
	one, two := wire.NewReader(b), wire.NewReader(b)
	one.Num(5, 5)
	if two.Num(1, 1) != 1 || two.Num(2, 2) != 2 {
		t.Error("the other one's error counts")
	}
	checkStopped(t, one, 0, 3, api.ErrRange)
	checkGood(t, two, 2, 1)
}

// P2.2, P0.4: a reader keeps none of what it was made of, and neither reads nor writes behind it.
func TestReaderKeepsNothing(t *testing.T) {
	for _, fill := range []byte{0, 2} {
		short, whole := spare([]byte{4, 'a', 'b', 2, 128}, fill)
		before := bytes.Clone(whole)
		r := wire.NewReader(short)
		if string(r.Bytes(2)) != "ab" || !r.Bool() || any64(r) != 0 {
			t.Error("not as it was made")
		}
		checkStopped(t, r, 4, 1, api.ErrEnd)
		if !bytes.Equal(whole, before) {
			t.Error("written to")
		}
		r = wire.NewReader(short)
		scribble(whole)
		if string(r.Bytes(2)) != "ab" || !r.Bool() {
			t.Error("what it was made of counts later")
		}
		checkGood(t, r, 4, 1)
	}
}

// P2.2, P0.4: each list that is handed out is new memory, its spare room too.
func TestBytesAreNewMemory(t *testing.T) {
	given := []byte("\x04ab\x00\x04cd\x02e\x02")
	want := bytes.Clone(given)
	r := wire.NewReader(given)
	one := r.Bytes(9)
	scribble(one)
	scribble(r.Bytes(9))
	two := r.Bytes(9)
	if string(two) != "cd" {
		t.Errorf("what was written into a list comes back: %q", two)
	}
	_ = append(two, 9, 9, 9, 9)
	three := r.Bytes(9)
	if string(three) != "e" || !r.Bool() {
		t.Errorf("what was appended to a list comes back: %q", three)
	}
	scribble(three)
	if string(two) != "cd" || string(one) != "\x9e\x9d" || !bytes.Equal(given, want) {
		t.Error("lists are shared")
	}
	checkGood(t, r, len(given), 0)
}

// P2.2, P0.5: what a caller writes into an error doesn't come back.
func TestErrIsItsOwn(t *testing.T) {
	r := wire.NewReader([]byte{0, 128})
	r.Num(0, 0)
	r.Num(0, 0)
	e, ok := r.Err().(*api.At)
	if !ok {
		t.Fatal(r.Err())
	}
	e.Pos, e.Err = 9, api.ErrWord
	checkStopped(t, r, 1, 1, api.ErrEnd)
}
