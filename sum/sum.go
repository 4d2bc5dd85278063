// Package sum: a sum of bytes: see ../shared/doc/01-sum.md.
package sum

import "sextet/api"

// size is how many bytes a sum takes behind what it is of.
const size = 4

// halves[n] is what the low half n of a byte becomes when its four bits have gone
// through 0xEDB88320: half a byte at a time, so that the table stays short.
var halves = [16]uint32{
	0x00000000, 0x1db71064, 0x3b6e20c8, 0x26d930ac,
	0x76dc4190, 0x6b6b51f4, 0x4db26158, 0x5005713c,
	0xedb88320, 0xf00f9344, 0xd6d6a3e8, 0xcb61b38c,
	0x9b64c2b0, 0x86d3d2d4, 0xa00ae278, 0xbdbdf21c,
}

// Of is the CRC-32 of b.
func Of(b []byte) uint32 { return Add(0, b) }

// Add is the CRC-32 of what s is of, with b behind it.
func Add(s uint32, b []byte) uint32 {
	// The turning at the end of s is undone, to go on where it stopped; of nothing,
	// whose sum is 0, that leaves the all ones that a sum begins with.
	s = ^s
	for _, x := range b {
		s ^= uint32(x)
		s = s>>4 ^ halves[s&15]
		s = s>>4 ^ halves[s&15]
	}
	return ^s
}

// Seal is b with its sum behind it, the lowest byte first.
func Seal(b []byte) []byte {
	s := Of(b)
	out := make([]byte, 0, len(b)+size)
	out = append(out, b...)
	return append(out, byte(s), byte(s>>8), byte(s>>16), byte(s>>24))
}

// Open is what Seal was given, if the sum behind it is its own.
func Open(b []byte) ([]byte, error) {
	if len(b) < size {
		return nil, api.ErrEnd
	}
	cut := len(b) - size
	if Of(b[:cut]) != stored(b[cut:]) {
		return nil, api.ErrSum
	}
	// A copy: the caller may write into it, and append to it.
	return append([]byte(nil), b[:cut]...), nil
}

// stored is the sum that the four bytes of b tell.
func stored(b []byte) uint32 {
	return uint32(b[0]) | uint32(b[1])<<8 | uint32(b[2])<<16 | uint32(b[3])<<24
}
