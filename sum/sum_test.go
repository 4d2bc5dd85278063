package sum_test

import (
	"bytes"
	"hash/crc32"
	"testing"

	"sextet/api"
	"sextet/sum"
)

// pattern is n bytes that differ from one another, the same at every run.
func pattern(n int) []byte {
	out := make([]byte, n)
	x := uint32(n) + 1
	for i := range out {
		x = x*1664525 + 1013904223
		out[i] = byte(x >> 24)
	}
	return out
}

// samples are the texts that the tests go through: none, one byte of each value, lengths around four, long ones.
func samples() [][]byte {
	out := [][]byte{nil, {}, []byte("a"), []byte("123456789"), make([]byte, 40), bytes.Repeat([]byte{255}, 40)}
	for x := range 256 {
		out = append(out, []byte{byte(x)})
	}
	for n := range 70 {
		out = append(out, pattern(n))
	}
	return append(out, pattern(255), pattern(256), pattern(257), pattern(100003))
}

// spare is b with room behind its length that holds fill, and that memory whole.
func spare(b []byte, fill byte) (short, whole []byte) {
	whole = append(bytes.Clone(b), bytes.Repeat([]byte{fill}, 16)...)
	return whole[:len(b)], whole
}

// P1.1: known sums.
func TestOfKnown(t *testing.T) {
	for _, c := range []struct {
		text string
		want uint32
	}{
		{"", 0},
		{"a", 0xe8b7be43},
		{"123456789", 0xcbf43926},
		{"\x00", 0xd202ef8d},
		{"\xff", 0xff000000},
		{"\x00\x00\x00\x00", 0x2144df1c},
		{"\xff\xff\xff\xff", 0xffffffff},
		{"The quick brown fox jumps over the lazy dog", 0x414fa339},
	} {
		if got := sum.Of([]byte(c.text)); got != c.want {
			t.Errorf("Of(%q) = %#x, want %#x", c.text, got, c.want)
		}
	}
	if sum.Of(nil) != 0 {
		t.Error("Of(nil) is not 0")
	}
}

// P1.1: the same sum as the library's, whatever the bytes.
func TestOfAsLibrary(t *testing.T) {
	for _, b := range samples() {
		if got, want := sum.Of(b), crc32.ChecksumIEEE(b); got != want {
			t.Errorf("Of of %d bytes = %#x, want %#x", len(b), got, want)
		}
	}
}

// P1.1: a text cut in two anywhere has the sum of the whole.
func TestAddInTwo(t *testing.T) {
	all := pattern(70)
	want := crc32.ChecksumIEEE(all)
	for k := range len(all) + 1 {
		if got := sum.Add(sum.Of(all[:k]), all[k:]); got != want {
			t.Errorf("cut at %d: %#x, want %#x", k, got, want)
		}
	}
}

// P1.1: so it is in three, with empty parts too, and byte by byte.
func TestAddInMany(t *testing.T) {
	all := pattern(20)
	want := crc32.ChecksumIEEE(all)
	for j := range len(all) + 1 {
		for k := j; k <= len(all); k++ {
			if got := sum.Add(sum.Add(sum.Of(all[:j]), all[j:k]), all[k:]); got != want {
				t.Errorf("cut at %d and %d: %#x, want %#x", j, k, got, want)
			}
		}
	}
	s := sum.Of(nil)
	for k := range all {
		s = sum.Add(s, all[k:k+1])
	}
	if s != want {
		t.Errorf("byte by byte: %#x, want %#x", s, want)
	}
}

// P1.1: any number is the sum of something; nothing behind it leaves it.
func TestAddToAnySum(t *testing.T) {
	for _, s := range []uint32{0, 1, 0x7fffffff, 0x80000000, 0xcbf43926, 0xedb88320, 0xfffffffe, 0xffffffff} {
		if sum.Add(s, nil) != s || sum.Add(s, []byte{}) != s {
			t.Errorf("Add(%#x, none) is another one", s)
		}
		for _, b := range samples() {
			if got, want := sum.Add(s, b), crc32.Update(s, crc32.IEEETable, b); got != want {
				t.Errorf("Add(%#x, %d bytes) = %#x, want %#x", s, len(b), got, want)
			}
		}
	}
}

// P1.1, P0.4: what lies behind the length isn't read, and nothing is written.
func TestOfLeavesWhatItIsGiven(t *testing.T) {
	for _, b := range samples() {
		for _, fill := range []byte{0, 0x5a} {
			short, whole := spare(b, fill)
			before := bytes.Clone(whole)
			if sum.Of(short) != crc32.ChecksumIEEE(b) || sum.Add(7, short) != crc32.Update(7, crc32.IEEETable, b) {
				t.Errorf("%d bytes: the spare room counts", len(b))
			}
			if !bytes.Equal(whole, before) {
				t.Errorf("%d bytes: written to", len(b))
			}
		}
	}
}

// P1.2: known seals; the lowest byte of the sum comes first.
func TestSealKnown(t *testing.T) {
	for _, c := range []struct{ text, want string }{
		{"", "\x00\x00\x00\x00"},
		{"a", "a\x43\xbe\xb7\xe8"},
		{"123456789", "123456789\x26\x39\xf4\xcb"},
	} {
		if got := sum.Seal([]byte(c.text)); string(got) != c.want {
			t.Errorf("Seal(%q) = %q, want %q", c.text, got, c.want)
		}
	}
	if got := sum.Seal(nil); string(got) != "\x00\x00\x00\x00" {
		t.Errorf("Seal(nil) = %q", got)
	}
}

// P1.2: Open tells what Seal was given.
func TestOpenOfSeal(t *testing.T) {
	for _, b := range samples() {
		sealed := sum.Seal(b)
		if len(sealed) != len(b)+4 {
			t.Errorf("%d bytes sealed in %d", len(b), len(sealed))
		}
		in, err := sum.Open(sealed)
		if err != nil || !bytes.Equal(in, b) {
			t.Errorf("%d bytes: Open gives %d, %v", len(b), len(in), err)
		}
	}
}

// P1.2: fewer than four bytes are ErrEnd, whatever they are, and whatever lies behind them.
func TestOpenTooShort(t *testing.T) {
	for n := range 4 {
		for _, b := range [][]byte{make([]byte, n), pattern(n), bytes.Repeat([]byte{255}, n), sum.Seal(nil)[:n], sum.Seal([]byte("abc"))[:n]} {
			if in, err := sum.Open(b); in != nil || err != api.ErrEnd {
				t.Errorf("Open(%q) = %q, %v", b, in, err)
			}
		}
	}
	if in, err := sum.Open(nil); in != nil || err != api.ErrEnd {
		t.Errorf("Open(nil) = %q, %v", in, err)
	}
}

// P1.2: four bytes are enough: they are the sum of nothing, or another one.
func TestOpenOfFour(t *testing.T) {
	if in, err := sum.Open([]byte{0, 0, 0, 0}); len(in) != 0 || err != nil {
		t.Errorf("the sum of nothing: %q, %v", in, err)
	}
	for _, b := range []string{"\x01\x00\x00\x00", "\x00\x00\x00\x80", "\xff\xff\xff\xff", "abcd"} {
		if in, err := sum.Open([]byte(b)); in != nil || err != api.ErrSum {
			t.Errorf("Open(%q) = %q, %v", b, in, err)
		}
	}
}

// P1.2: each bit counts, of the text and of the sum.
func TestOpenOneBitOff(t *testing.T) {
	for _, n := range []int{0, 1, 3, 4, 5, 40} {
		sealed := sum.Seal(pattern(n))
		for bit := range 8 * len(sealed) {
			off := bytes.Clone(sealed)
			off[bit/8] ^= 1 << (bit % 8)
			if in, err := sum.Open(off); in != nil || err != api.ErrSum {
				t.Errorf("%d bytes, bit %d off: %q, %v", n, bit, in, err)
			}
		}
	}
}

// P1.2: a seal that is cut, longer, turned round or of another text doesn't open.
func TestOpenWrong(t *testing.T) {
	sealed := sum.Seal([]byte("123456789"))
	for k := 4; k < len(sealed); k++ {
		if in, err := sum.Open(sealed[:k]); in != nil || err != api.ErrSum {
			t.Errorf("cut to %d: %q, %v", k, in, err)
		}
	}
	for _, b := range []string{
		string(sealed) + "\x00",
		"\x00" + string(sealed),
		string(sealed) + string(sealed),
		"123456789\xcb\xf4\x39\x26",
		"\x26\x39\xf4\xcb123456789",
		"123456798\x26\x39\xf4\xcb",
		"123456789\xd9\xc6\x0b\x34",
	} {
		if in, err := sum.Open([]byte(b)); in != nil || err != api.ErrSum {
			t.Errorf("Open(%q) = %q, %v", b, in, err)
		}
	}
}

// P1.2, P0.4: Seal and Open write to nothing that they are given, nor behind it, nor read what is there.
func TestSealAndOpenLeaveWhatTheyAreGiven(t *testing.T) {
	for _, b := range samples() {
		short, whole := spare(b, 0x5a)
		before := bytes.Clone(whole)
		sealed := sum.Seal(short)
		if !bytes.Equal(whole, before) {
			t.Errorf("Seal of %d bytes: written to", len(b))
		}
		short, whole = spare(sealed, 0x5a)
		before = bytes.Clone(whole)
		if in, err := sum.Open(short); err != nil || !bytes.Equal(in, b) {
			t.Errorf("Open of %d bytes with spare room: %v", len(b), err)
		}
		if !bytes.Equal(whole, before) {
			t.Errorf("Open of %d bytes: written to", len(b))
		}
	}
}

// scribble writes over b and over its spare room.
func scribble(b []byte) {
	b = b[:cap(b)]
	for i := range b {
		b[i] ^= 0xff
	}
}

// P1.2, P0.4: what is handed out is new memory, its spare room too.
func TestAnswersAreNewMemory(t *testing.T) {
	for _, b := range samples() {
		given := bytes.Clone(b)
		sealed := sum.Seal(given)
		again := sum.Seal(given)
		want := bytes.Clone(sealed)
		in, _ := sum.Open(sealed)
		other, _ := sum.Open(sealed)
		scribble(in)
		if !bytes.Equal(sealed, want) || !bytes.Equal(other, b) {
			t.Errorf("%d bytes: an answer of Open is shared", len(b))
		}
		scribble(sealed)
		if !bytes.Equal(given, b) || !bytes.Equal(again, want) || !bytes.Equal(other, b) {
			t.Errorf("%d bytes: an answer of Seal is shared", len(b))
		}
	}
}
