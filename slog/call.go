package slog

import (
	"math"

	"sextet/api"
	"sextet/disk"
	"sextet/hot"
	"sextet/redo"
	"sextet/span"
	"sextet/wire"
)

// room is how many bytes of a call a block has: its own numbers (one of 64 bits, its
// place in the call, a bool) take at most 14. It is the same for each block, so that how
// many blocks a call needs hangs on what it tells alone.
const room = api.BlockSize - 14

// change is what a call tells: the State behind it, and the records that are new.
type change struct {
	state State
	cut   bool // whether the Spans are others than ahead of it; else they aren't told
	recs  []api.Redo
}

// commit makes next and h, of whose records fresh are new, what is there, once the disk has it.
func (l *Log) commit(next State, h *hot.Log, fresh ...api.Redo) error {
	body, err := encode(change{state: next, cut: !span.Same(next.Spans, l.state.Spans), recs: fresh})
	if err != nil {
		return err
	}
	blocks := (len(body) + room - 1) / room
	if blocks > l.d.Blocks()-l.end {
		return api.ErrFull
	}
	if err := write(l.d, l.end, blocks, body); err != nil {
		return err
	}
	l.state, l.hot = next, h
	l.end += blocks
	return nil
}

// write makes of body so many blocks, from block at on, and syncs them.
func write(d *disk.Disk, at, blocks int, body []byte) error {
	// By its mark a block is known to be of this call. Where one that failed began, another
	// one begins, and blocks of both may stay: they differ, for the disk has counted what
	// was written.
	mark := int64(d.Calls())
	for i := range blocks {
		piece := body[i*room : min((i+1)*room, len(body))]
		head := wire.Put(wire.Put(wire.Put(nil, mark), int64(i)), bit(i == blocks-1))
		if err := d.Write(at+i, append(head, piece...)); err != nil {
			return err
		}
	}
	return d.Sync()
}

// replay does what the calls did that stand on the disk, up to the first that is not whole.
func (l *Log) replay() error {
	for {
		body, blocks, err := read(l.d, l.end)
		if err != nil {
			return err
		}
		c, is := decode(body)
		if !is {
			return nil
		}
		if err := l.apply(c); err != nil {
			return err
		}
		l.end += blocks
	}
}

// apply does what a call did that told c.
func (l *Log) apply(c change) error {
	if !c.cut {
		c.state.Spans = l.state.Spans
	} else if _, err := l.hot.Cut(c.state.Spans...); err != nil {
		return err
	}
	for _, r := range c.recs {
		if _, err := l.hot.Add(r); err != nil {
			return err
		}
	}
	l.state = c.state
	return nil
}

// read is what the call tells that begins at block at, and how many blocks it has; nothing, if it is not whole.
func read(d *disk.Disk, at int) ([]byte, int, error) {
	var body []byte
	low, high := int64(0), int64(math.MaxInt64) // the marks that the next block may have
	for i := at; i < d.Blocks(); i++ {
		b, _, err := d.Read(i)
		if err != nil {
			return nil, 0, err
		}
		in := wire.NewReader(b)
		mark := in.Num(low, high)
		in.Num(int64(i-at), int64(i-at))
		last := in.Bool()
		if in.Err() != nil {
			return nil, 0, nil
		}
		body = append(body, b[in.At():]...)
		if last {
			return body, i + 1 - at, nil
		}
		low, high = mark, mark
	}
	return nil, 0, nil
}

// wipe makes empty what the blocks from block at on have, for good.
func wipe(d *disk.Disk, at int) error {
	for i := at; i < d.Blocks(); i++ {
		b, _, err := d.Read(i)
		if err == nil && len(b) > 0 {
			err = d.Write(i, nil)
		}
		if err != nil {
			return err
		}
	}
	// What was read has to stay, too, whoever wrote it.
	if d.Pending() > 0 {
		return d.Sync()
	}
	return nil
}

// encode is c as bytes.
func encode(c change) ([]byte, error) {
	var b []byte
	for _, n := range [...]int64{
		int64(c.state.Promise), int64(c.state.Installed), int64(c.state.Inc), bit(c.state.Whole), c.state.Floor, bit(c.cut),
	} {
		b = wire.Put(b, n)
	}
	if c.cut {
		b = append(b, span.Bytes(c.state.Spans...)...)
	}
	for _, r := range c.recs {
		x, err := redo.Bytes(r)
		if err != nil {
			return nil, err
		}
		b = append(b, x...)
	}
	return b, nil
}

// bit is 1 for true.
func bit(is bool) int64 {
	if is {
		return 1
	}
	return 0
}

// decode is the change that b is, if it is one.
func decode(b []byte) (change, bool) {
	in := wire.NewReader(b)
	var c change
	c.state.Promise = int(in.Num(0, api.MaxEpoch))
	c.state.Installed = int(in.Num(0, api.MaxEpoch))
	c.state.Inc = int(in.Num(0, maxInc))
	c.state.Whole = in.Bool()
	c.state.Floor = in.Num(0, api.MaxLSN)
	c.cut = in.Bool()
	if in.Err() != nil {
		return change{}, false
	}
	b = b[in.At():]
	if c.cut {
		l, size, err := span.Read(b)
		if err != nil {
			return change{}, false
		}
		c.state.Spans, b = l, b[size:]
	}
	for len(b) > 0 {
		r, size, err := redo.Read(b)
		if err != nil {
			return change{}, false
		}
		c.recs, b = append(c.recs, r), b[size:]
	}
	return c, true
}
