package disk_test

import (
	"bytes"
	"fmt"
	"math"
	"math/bits"
	"strings"
	"testing"

	"sextet/api"
	"sextet/disk"
)

// never stands for what a block has that was never written.
const never = "never"

// made is a disk of so many blocks.
func made(t *testing.T, blocks int) *disk.Disk {
	t.Helper()
	d, err := disk.New(blocks)
	if d == nil || err != nil {
		t.Fatalf("New(%d): %v", blocks, err)
	}
	return d
}

// put writes to block i what must do well.
func put(t *testing.T, d *disk.Disk, i int, text string) {
	t.Helper()
	if err := d.Write(i, []byte(text)); err != nil {
		t.Fatalf("Write(%d, %q): %v", i, text, err)
	}
}

// sync syncs what must do well.
func sync(t *testing.T, d *disk.Disk) {
	t.Helper()
	if err := d.Sync(); err != nil {
		t.Fatalf("Sync: %v", err)
	}
}

// has is what block i has, in quotes, or never, or the error; beside an error, and a
// false, there must be nothing.
func has(t *testing.T, d *disk.Disk, i int) string {
	t.Helper()
	b, is, err := d.Read(i)
	if (err != nil || !is) && len(b) > 0 || err != nil && is {
		t.Errorf("Read(%d) is %q, %v beside %v", i, b, is, err)
	}
	switch {
	case err != nil:
		return err.Error()
	case !is:
		return never
	}
	return fmt.Sprintf("%q", b)
}

// all is what all blocks have, in their order.
func all(t *testing.T, d *disk.Disk) string {
	t.Helper()
	var l []string
	for i := range d.Blocks() {
		l = append(l, has(t, d, i))
	}
	return strings.Join(l, " ")
}

// check asks what all blocks have, and the two counts.
func check(t *testing.T, d *disk.Disk, blocks string, pending, calls int) {
	t.Helper()
	if got := all(t, d); got != blocks {
		t.Errorf("blocks: %s, want %s", got, blocks)
	}
	if d.Pending() != pending || d.Calls() != calls {
		t.Errorf("%d pending, %d calls; want %d, %d", d.Pending(), d.Calls(), pending, calls)
	}
}

// fell asks that the power is gone, and that all calls tell it, whatever they are handed.
func fell(t *testing.T, d *disk.Disk) {
	t.Helper()
	pending, calls := d.Pending(), d.Calls()
	if !d.Down() {
		t.Error("it isn't down")
	}
	for _, i := range []int{0, -1, d.Blocks(), math.MinInt} {
		if d.Write(i, nil) != api.ErrCrash || d.Write(i, make([]byte, api.BlockSize+1)) != api.ErrCrash {
			t.Errorf("down: Write(%d) isn't refused so", i)
		}
		if b, is, err := d.Read(i); len(b) > 0 || is || err != api.ErrCrash {
			t.Errorf("down: Read(%d) is %q, %v, %v", i, b, is, err)
		}
		if d.Sync() != api.ErrCrash {
			t.Error("down: Sync does well")
		}
	}
	if !d.Down() || d.Pending() != pending || d.Calls() != calls {
		t.Error("down: something changes")
	}
}

// scribble writes over b and over its spare room.
func scribble(b []byte) {
	b = b[:cap(b)]
	for i := range b {
		b[i] ^= 0xff
	}
}

// places are where there is no block on a disk of n.
func places(n int) []int {
	return []int{-1, -2, n, n + 1, -n, api.MaxBlocks, api.MaxBlocks + 1, 1 << 32, -1 << 32, math.MaxInt, math.MinInt}
}

// P5.1: a disk has 1 to MaxBlocks blocks.
func TestNew(t *testing.T) {
	for _, n := range []int{0, -1, -2, -api.MaxBlocks, math.MinInt, api.MaxBlocks + 1, 2 * api.MaxBlocks, 1 << 32, 1<<32 + 1, math.MaxInt} {
		if d, err := disk.New(n); d != nil || err != api.ErrRange {
			t.Errorf("New(%d): %v, %v", n, d, err)
		}
	}
	for _, n := range []int{1, 2, 3, 100, api.MaxBlocks - 1, api.MaxBlocks} {
		d := made(t, n)
		if d.Blocks() != n || d.Pending() != 0 || d.Calls() != 0 || d.Down() {
			t.Errorf("New(%d): %d blocks, %d pending, %d calls, %v", n, d.Blocks(), d.Pending(), d.Calls(), d.Down())
		}
		for i := range n {
			if has(t, d, i) != never {
				t.Fatalf("New(%d): block %d has %s", n, i, has(t, d, i))
			}
		}
	}
}

// P5.1: the first and the last block are there, those beside them are not.
func TestPlaces(t *testing.T) {
	for _, n := range []int{1, 2, 3, api.MaxBlocks} {
		d := made(t, n)
		put(t, d, 0, "first")
		put(t, d, n-1, "last")
		for _, i := range places(n) {
			if i >= 0 && i < n {
				continue
			}
			if err := d.Write(i, []byte("x")); err != api.ErrFull {
				t.Errorf("%d blocks: Write(%d): %v", n, i, err)
			}
			if has(t, d, i) != api.ErrFull.Error() {
				t.Errorf("%d blocks: Read(%d): %s", n, i, has(t, d, i))
			}
		}
		if has(t, d, n-1) != `"last"` || n > 1 && has(t, d, 0) != `"first"` || d.Pending() != min(n, 2) || d.Calls() != 2 {
			t.Errorf("%d blocks: %s, %d pending, %d calls", n, has(t, d, n-1), d.Pending(), d.Calls())
		}
	}
}

// P5.1: all blocks of the greatest disk may be written, each has its own.
func TestAllBlocks(t *testing.T) {
	d := made(t, api.MaxBlocks)
	for i := range api.MaxBlocks {
		put(t, d, i, fmt.Sprint(i))
	}
	if d.Pending() != api.MaxBlocks || d.Calls() != api.MaxBlocks {
		t.Error(d.Pending(), d.Calls())
	}
	sync(t, d)
	d.Crash()
	for i := range api.MaxBlocks {
		if got := has(t, d, i); got != fmt.Sprintf("%q", fmt.Sprint(i)) {
			t.Fatalf("block %d has %s", i, got)
		}
	}
}

// P5.1: a block has as many bytes as it was given, BlockSize at most.
func TestSizes(t *testing.T) {
	d := made(t, 1)
	for n := range api.BlockSize + 1 {
		b := bytes.Repeat([]byte{byte(n), 0, 255}, n)[:n]
		if err := d.Write(0, b); err != nil {
			t.Fatalf("Write of %d bytes: %v", n, err)
		}
		if got, is, err := d.Read(0); !bytes.Equal(got, b) || !is || err != nil {
			t.Fatalf("Read of %d bytes: %d, %v, %v", n, len(got), is, err)
		}
	}
	last := has(t, d, 0)
	for _, n := range []int{api.BlockSize + 1, api.BlockSize + 2, 2 * api.BlockSize, 1 << 16} {
		if err := d.Write(0, make([]byte, n)); err != api.ErrMany {
			t.Errorf("Write of %d bytes: %v", n, err)
		}
	}
	check(t, d, last, 1, api.BlockSize+1)
}

// P5.1: a Write that is refused leaves a block that was never written so.
func TestRefusedAtFirst(t *testing.T) {
	d := made(t, 2)
	if d.Write(0, make([]byte, api.BlockSize+1)) != api.ErrMany {
		t.Error("not refused")
	}
	check(t, d, "never never", 0, 0)
	sync(t, d)
	check(t, d, "never never", 0, 1)
}

// P5.1: of two faults of a Write the place is told.
func TestPlaceAheadOfSize(t *testing.T) {
	d := made(t, 2)
	for _, i := range places(2) {
		if err := d.Write(i, make([]byte, api.BlockSize+1)); err != api.ErrFull {
			t.Errorf("Write(%d) of too many: %v", i, err)
		}
	}
	if err := d.Write(1, make([]byte, api.BlockSize+1)); err != api.ErrMany {
		t.Errorf("Write(1) of too many: %v", err)
	}
	check(t, d, "never never", 0, 0)
}

// P5.1, P0.4: an empty block was written; nil is an empty list.
func TestEmptyBlock(t *testing.T) {
	d := made(t, 3)
	if d.Write(0, nil) != nil || d.Write(1, []byte{}) != nil {
		t.Error("refused")
	}
	check(t, d, `"" "" never`, 2, 2)
	sync(t, d)
	check(t, d, `"" "" never`, 0, 3)
	d.Crash()
	check(t, d, `"" "" never`, 0, 3)
	put(t, d, 0, "a")
	put(t, d, 1, "b")
	d.Crash(1)
	check(t, d, `"a" "" never`, 0, 5)
	if d.Write(0, nil) != nil {
		t.Error("refused")
	}
	check(t, d, `"" "" never`, 1, 6)
}

// P5.1: what is read is what was written last, pending or not; Read changes nothing.
func TestReadTellsTheLast(t *testing.T) {
	d := made(t, 2)
	put(t, d, 1, "a")
	check(t, d, `never "a"`, 1, 1)
	put(t, d, 1, "longer")
	check(t, d, `never "longer"`, 1, 2)
	sync(t, d)
	check(t, d, `never "longer"`, 0, 3)
	check(t, d, `never "longer"`, 0, 3)
	put(t, d, 1, "b")
	check(t, d, `never "b"`, 1, 4)
	put(t, d, 0, "c")
	check(t, d, `"c" "b"`, 2, 5)
	sync(t, d)
	check(t, d, `"c" "b"`, 0, 6)
}

// P5.1: what is pending is counted by blocks, what was called by calls that did well.
func TestPendingAndCalls(t *testing.T) {
	d := made(t, 4)
	step := func(pending, calls int) {
		t.Helper()
		if d.Pending() != pending || d.Calls() != calls {
			t.Errorf("%d pending, %d calls; want %d, %d", d.Pending(), d.Calls(), pending, calls)
		}
	}
	sync(t, d)
	step(0, 1)
	put(t, d, 2, "a")
	step(1, 2)
	put(t, d, 2, "b")
	step(1, 3)
	put(t, d, 0, "c")
	step(2, 4)
	d.Write(4, nil)
	d.Write(1, make([]byte, api.BlockSize+1))
	d.Read(0)
	d.Read(9)
	step(2, 4)
	sync(t, d)
	step(0, 5)
	sync(t, d)
	step(0, 6)
	put(t, d, 2, "b") // the same bytes again are pending too
	step(1, 7)
	d.Arm(1)
	d.Sync()
	d.Sync()
	step(1, 7)
	d.Crash(1)
	step(0, 7)
	put(t, d, 3, "d")
	d.Erase()
	step(0, 8)
}

// P5.1, P0.4: what is handed in is neither changed nor kept, nor is what lies behind it.
func TestWriteLeavesWhatItIsGiven(t *testing.T) {
	whole := []byte("abcdefgh")
	d := made(t, 2)
	d.Write(0, whole[2:4])
	d.Write(1, whole[:0])
	if string(whole) != "abcdefgh" {
		t.Errorf("written to: %q", whole)
	}
	scribble(whole)
	check(t, d, `"cd" ""`, 2, 2)
	sync(t, d)
	scribble(whole)
	check(t, d, `"cd" ""`, 0, 3)
}

// P5.1, P0.4: each answer of Read is new memory, its spare room too.
func TestReadIsNewMemory(t *testing.T) {
	d := made(t, 2)
	put(t, d, 0, "abc")
	put(t, d, 1, "")
	for range 2 {
		one, _, _ := d.Read(0)
		two, _, _ := d.Read(0)
		empty, _, _ := d.Read(1)
		long := append(two, 'd')
		scribble(one)
		scribble(append(empty, 'x'))
		if string(two) != "abc" || string(long) != "abcd" || has(t, d, 0) != `"abc"` || has(t, d, 1) != `""` {
			t.Errorf("shared: %q, %q, %s", two, long, all(t, d))
		}
		scribble(long)
		if has(t, d, 0) != `"abc"` {
			t.Errorf("shared: %s", all(t, d))
		}
		sync(t, d)
	}
}

// P5.2: the n-th call finds the power gone, be it a Write or a Sync; those ahead do well.
func TestArmCounts(t *testing.T) {
	for n := 1; n <= 6; n++ {
		for kinds := range 1 << n {
			d := made(t, 2)
			sync(t, d)
			d.Arm(n)
			for k := 1; k <= n; k++ {
				if d.Down() || d.Calls() != k {
					t.Fatalf("Arm(%d): ahead of call %d: down is %v, %d calls", n, k, d.Down(), d.Calls())
				}
				var err error
				if kinds>>(k-1)&1 == 1 {
					err = d.Sync()
				} else {
					err = d.Write(1, []byte("a"))
				}
				if (err == api.ErrCrash) != (k == n) || k < n && err != nil {
					t.Fatalf("Arm(%d): call %d: %v", n, k, err)
				}
			}
			fell(t, d)
		}
	}
}

// P5.2: the call that finds the power gone is refused so whatever it is handed.
func TestArmWhateverItIsHanded(t *testing.T) {
	big := make([]byte, api.BlockSize+1)
	for _, i := range append(places(2), 0, 1) {
		for _, b := range [][]byte{nil, []byte("x"), big} {
			d := made(t, 2)
			d.Arm(1)
			if err := d.Write(i, b); err != api.ErrCrash {
				t.Errorf("Write(%d) of %d bytes: %v", i, len(b), err)
			}
			fell(t, d)
			d.Crash(1, 1)
			check(t, d, "never never", 0, 0)
		}
	}
}

// P5.2: Writes that are refused are Writes too.
func TestArmCountsTheRefused(t *testing.T) {
	d := made(t, 2)
	d.Arm(3)
	if d.Write(2, nil) != api.ErrFull || d.Write(0, make([]byte, api.BlockSize+1)) != api.ErrMany || d.Down() {
		t.Error("too early")
	}
	if d.Write(0, []byte("a")) != api.ErrCrash {
		t.Error("too late")
	}
	fell(t, d)
}

// P5.2: what is neither a Write nor a Sync doesn't count.
func TestArmCountsNothingElse(t *testing.T) {
	d := made(t, 2)
	d.Arm(2)
	for range 5 {
		d.Read(0)
		d.Read(7)
		d.Blocks()
		d.Pending()
		d.Calls()
		d.Down()
		d.Clone()
	}
	put(t, d, 0, "a")
	if d.Down() || d.Sync() != api.ErrCrash {
		t.Error("not the second one")
	}
	fell(t, d)
}

// P5.2: the last Arm holds, from its own time on; below 1 none does.
func TestArmAnew(t *testing.T) {
	for _, n := range []int{0, -1, -2, math.MinInt} {
		d := made(t, 1)
		d.Arm(n)
		sync(t, d)
		d.Arm(2)
		sync(t, d)
		d.Arm(n)
		for range 10 {
			put(t, d, 0, "a")
			sync(t, d)
		}
		check(t, d, `"a"`, 0, 22)
	}
	d := made(t, 1)
	d.Arm(1)
	d.Arm(3)
	put(t, d, 0, "a")
	sync(t, d)
	d.Arm(3)
	sync(t, d)
	sync(t, d)
	if d.Sync() != api.ErrCrash {
		t.Error("the third one does well")
	}
	fell(t, d)
	d = made(t, 1)
	d.Arm(5)
	d.Arm(1)
	if d.Sync() != api.ErrCrash {
		t.Error("the first one does well")
	}
	d = made(t, 1)
	d.Arm(math.MaxInt)
	for range 100 {
		put(t, d, 0, "a")
	}
	check(t, d, `"a"`, 1, 100)
}

// P5.2: what finds the power gone does nothing: a Write leaves its block, a Sync what is pending.
func TestArmDoesNothing(t *testing.T) {
	for _, bySync := range []bool{false, true} {
		for _, c := range []struct {
			picks []int
			want  string
		}{{nil, `"a" never never`}, {[]int{1}, `"b" never never`}, {[]int{0, 1}, `"a" "c" never`}, {[]int{1, 1, 1}, `"b" "c" never`}} {
			d := made(t, 3)
			put(t, d, 0, "a")
			sync(t, d)
			put(t, d, 0, "b")
			put(t, d, 1, "c")
			d.Arm(1)
			if bySync && d.Sync() != api.ErrCrash || !bySync && d.Write(2, []byte("d")) != api.ErrCrash {
				t.Error("it does well")
			}
			if d.Pending() != 2 || d.Calls() != 4 {
				t.Errorf("%d pending, %d calls", d.Pending(), d.Calls())
			}
			fell(t, d)
			d.Crash(c.picks...)
			check(t, d, c.want, 0, 4)
		}
	}
}

// P5.2: a Write that finds the power gone leaves what is pending of its block.
func TestArmLeavesPendingBlock(t *testing.T) {
	d := made(t, 1)
	put(t, d, 0, "a")
	d.Arm(1)
	d.Write(0, []byte("b"))
	d.Write(0, []byte("c"))
	d.Crash(1)
	check(t, d, `"a"`, 0, 1)
}

// P5.2: down, Arm changes nothing; it is down till Crash, or Erase, which disarm.
func TestArmWhileDown(t *testing.T) {
	for _, n := range []int{-1, 0, 1, 2, 50} {
		for _, erase := range []bool{false, true} {
			d := made(t, 2)
			d.Arm(1)
			d.Sync()
			d.Arm(n)
			fell(t, d)
			if erase {
				d.Erase()
			} else {
				d.Crash()
			}
			if d.Down() {
				t.Error("still down")
			}
			for range 60 {
				put(t, d, 0, "a")
			}
			check(t, d, `"a" never`, 1, 60)
		}
	}
}

// P5.2: the example.
func TestCrashExample(t *testing.T) {
	d := made(t, 1)
	put(t, d, 0, "a")
	d.Crash()
	check(t, d, never, 0, 1)
}

// crashed is what a disk has behind a Crash whose blocks 1, 3 and 5 were pending, written
// in another order, 3 and 5 twice; 1 and 3 were synced ahead of that.
func crashed(t *testing.T, picks ...int) string {
	t.Helper()
	d := made(t, 7)
	for _, i := range []int{0, 1, 3} {
		put(t, d, i, fmt.Sprint("old", i))
	}
	sync(t, d)
	for _, i := range []int{5, 3, 1, 5, 3} {
		put(t, d, i, fmt.Sprintf("new%d@%d", i, d.Calls()))
	}
	before := append([]int(nil), picks...)
	d.Crash(picks...)
	for k := range picks {
		if picks[k] != before[k] {
			t.Error("the picks are written to")
		}
	}
	if d.Pending() != 0 || d.Calls() != 9 || d.Down() {
		t.Errorf("%d pending, %d calls, down is %v", d.Pending(), d.Calls(), d.Down())
	}
	return all(t, d)
}

// P5.2: the picks are those of the blocks that are pending, rising: odd is the last, else, and without, the synced.
func TestCrashPicks(t *testing.T) {
	for _, c := range []struct {
		picks []int
		kept  int // bit 0 is block 1, bit 1 is block 3, bit 2 is block 5
	}{
		{nil, 0}, {[]int{0}, 0}, {[]int{0, 0, 0}, 0}, {[]int{1}, 1}, {[]int{0, 1}, 2}, {[]int{0, 0, 1}, 4},
		{[]int{1, 1}, 3}, {[]int{1, 0, 1}, 5}, {[]int{0, 1, 1}, 6}, {[]int{1, 1, 1}, 7},
		{[]int{0, 0, 0, 1, 1, 1, 1}, 0}, {[]int{1, 0, 0, 1, 1}, 1}, {[]int{1, 1, 1, 0, 0}, 7},
		{[]int{2, 4, 6}, 0}, {[]int{3, 5, 7}, 7}, {[]int{2, 3, 4}, 2}, {[]int{-1, -2, -3}, 5}, {[]int{-2, -1}, 2},
		{[]int{math.MaxInt, math.MinInt, math.MinInt + 1}, 5}, {[]int{256, 257, 1 << 32}, 2},
	} {
		now := [3]string{`"old1"`, `"old3"`, never}
		for k, last := range []string{`"new1@6"`, `"new3@8"`, `"new5@7"`} {
			if c.kept>>k&1 == 1 {
				now[k] = last
			}
		}
		want := fmt.Sprintf(`"old0" %s never %s never %s never`, now[0], now[1], now[2])
		if got := crashed(t, c.picks...); got != want {
			t.Errorf("Crash(%v): %s, want %s", c.picks, got, want)
		}
	}
}

// P5.2, P0.5: many blocks, written in whatever order, are picked rising.
func TestCrashManyRising(t *testing.T) {
	const n = 257 // no multiple of the step
	for _, step := range []int{1, 3, 100, n - 1} {
		d := made(t, n)
		for k := range n {
			put(t, d, k*step%n, "x")
		}
		picks := make([]int, n)
		for i := range picks {
			picks[i] = bits.OnesCount(uint(i))
		}
		d.Crash(picks...)
		for i := range n {
			if is := has(t, d, i) == `"x"`; is != (picks[i]&1 == 1) {
				t.Fatalf("step %d: block %d has %s", step, i, has(t, d, i))
			}
		}
	}
}

// P5.2: behind a Crash all is synced: the next one takes nothing away.
func TestCrashSyncs(t *testing.T) {
	d := made(t, 3)
	put(t, d, 0, "a")
	put(t, d, 1, "b")
	d.Crash(1)
	check(t, d, `"a" never never`, 0, 2)
	d.Crash()
	check(t, d, `"a" never never`, 0, 2)
	d.Crash(0, 1, 1)
	check(t, d, `"a" never never`, 0, 2)
	put(t, d, 1, "c")
	put(t, d, 2, "d")
	put(t, d, 0, "e")
	d.Crash(0, 1) // block 0 is the first again
	check(t, d, `"a" "c" never`, 0, 5)
	sync(t, d)
	d.Crash()
	check(t, d, `"a" "c" never`, 0, 6)
}

// P5.2: a block of which much was written has the last of it, or the synced, nothing between; whole.
func TestCrashWhole(t *testing.T) {
	for pick, want := range []string{`"` + strings.Repeat("o", api.BlockSize) + `"`, `"n"`} {
		d := made(t, 1)
		put(t, d, 0, strings.Repeat("p", 9))
		sync(t, d)
		put(t, d, 0, strings.Repeat("o", api.BlockSize))
		sync(t, d)
		put(t, d, 0, "mm")
		put(t, d, 0, "n")
		d.Crash(pick)
		check(t, d, want, 0, 6)
	}
}

// P5.2: Crash of a disk that is up, and armed: it is disarmed.
func TestCrashDisarms(t *testing.T) {
	for n := 1; n < 5; n++ {
		d := made(t, 2)
		put(t, d, 0, "a")
		d.Arm(n)
		d.Crash(1)
		for range 8 {
			put(t, d, 1, "b")
			sync(t, d)
		}
		check(t, d, `"a" "b"`, 0, 17)
	}
}

// P5.2: Erase leaves a disk of which no block was ever written, up and disarmed.
func TestErase(t *testing.T) {
	for n := range 4 {
		d := made(t, 3)
		put(t, d, 0, "a")
		sync(t, d)
		put(t, d, 0, "b")
		put(t, d, 1, "c")
		d.Arm(n)
		if n == 1 {
			d.Sync()
			fell(t, d)
		}
		d.Erase()
		if d.Down() || d.Blocks() != 3 {
			t.Error("down, or smaller")
		}
		check(t, d, "never never never", 0, 4)
		d.Crash(1, 1, 1)
		check(t, d, "never never never", 0, 4)
		for range 4 {
			put(t, d, 2, "d")
		}
		check(t, d, `never never "d"`, 1, 8)
		d.Crash()
		check(t, d, "never never never", 0, 8)
	}
}

// P5.2: what Arm told ahead of an Erase is no more.
func TestEraseDisarms(t *testing.T) {
	for n := 1; n < 5; n++ {
		d := made(t, 1)
		d.Arm(n)
		d.Erase()
		for range 8 {
			put(t, d, 0, "a")
		}
		check(t, d, `"a"`, 1, 8)
	}
}

// Clone: the same blocks, pending or not, and counts; neither shows what the other one does.
func TestClone(t *testing.T) {
	start := func() *disk.Disk {
		d := made(t, 3)
		put(t, d, 0, "a")
		sync(t, d)
		put(t, d, 0, "b")
		put(t, d, 1, "c")
		return d
	}
	other := []func(d *disk.Disk){
		func(d *disk.Disk) { d.Write(0, []byte("x")); d.Write(2, []byte("y")) },
		func(d *disk.Disk) { d.Sync() },
		func(d *disk.Disk) { d.Crash() },
		func(d *disk.Disk) { d.Crash(1, 1) },
		func(d *disk.Disk) { d.Sync(); d.Write(0, []byte("x")); d.Sync() },
		func(d *disk.Disk) { d.Erase(); d.Write(1, []byte("z")); d.Sync() },
		func(d *disk.Disk) { d.Arm(1); d.Sync() },
		func(d *disk.Disk) { d.Arm(1) },
		func(d *disk.Disk) { b, _, _ := d.Read(0); scribble(b) },
	}
	for k, do := range other {
		for _, swap := range []bool{false, true} {
			d := start()
			c := d.Clone()
			if swap {
				c, d = d, c
			}
			do(d)
			if c.Blocks() != 3 || c.Down() {
				t.Errorf("%d: %d blocks, down is %v", k, c.Blocks(), c.Down())
			}
			check(t, c, `"b" "c" never`, 2, 4)
			put(t, c, 2, "e")
			c.Crash(0, 1)
			check(t, c, `"a" "c" never`, 0, 5)
		}
	}
}

// Clone: armed as it is, and down as it is.
func TestCloneArmedAndDown(t *testing.T) {
	d := made(t, 2)
	put(t, d, 0, "a")
	d.Arm(3)
	put(t, d, 0, "b")
	c := d.Clone()
	for _, x := range []*disk.Disk{d, c} {
		sync(t, x)
		if x.Write(1, nil) != api.ErrCrash {
			t.Error("not armed so")
		}
		fell(t, x)
	}
	e := d.Clone()
	fell(t, e)
	d.Crash()
	fell(t, e)
	fell(t, c)
	check(t, d, `"b" never`, 0, 3)
	e.Erase()
	check(t, e, "never never", 0, 3)
	check(t, d, `"b" never`, 0, 3)
	fell(t, c)
	c.Crash()
	check(t, c, `"b" never`, 0, 3)
	none := made(t, api.MaxBlocks).Clone()
	if none.Blocks() != api.MaxBlocks || none.Pending() != 0 || none.Calls() != 0 || none.Down() {
		t.Error("another one")
	}
	put(t, none, api.MaxBlocks-1, "z")
}

// plain is a disk told in the plainest way: a row a block, gone through whole each time.
type plain struct {
	now, safe    []string
	pending      []bool
	calls, armed int
	down         bool
}

// newPlain is a plain disk of so many blocks.
func newPlain(blocks int) *plain {
	p := &plain{now: make([]string, blocks), safe: make([]string, blocks), pending: make([]bool, blocks)}
	p.erase()
	return p
}

// gone is whether the call that comes finds the power gone.
func (p *plain) gone() bool {
	if p.armed == 1 {
		p.down = true
	}
	p.armed--
	return p.down
}

func (p *plain) write(i, size int, text string) error {
	if p.gone() {
		return api.ErrCrash
	}
	if i < 0 || i >= len(p.now) {
		return api.ErrFull
	}
	if size > api.BlockSize {
		return api.ErrMany
	}
	p.now[i], p.pending[i] = text, true
	p.calls++
	return nil
}

func (p *plain) sync() error {
	if p.gone() {
		return api.ErrCrash
	}
	copy(p.safe, p.now)
	clear(p.pending)
	p.calls++
	return nil
}

func (p *plain) crash(picks []int) {
	k := 0
	for i, is := range p.pending {
		if is && k < len(picks) && picks[k]%2 != 0 {
			p.safe[i] = p.now[i]
		}
		if is {
			k++
		}
	}
	copy(p.now, p.safe)
	clear(p.pending)
	p.armed, p.down = 0, false
}

func (p *plain) erase() {
	for i := range p.now {
		p.now[i], p.safe[i] = never, never
	}
	clear(p.pending)
	p.armed, p.down = 0, false
}

func (p *plain) all() string {
	if p.down {
		return strings.TrimSpace(strings.Repeat(api.ErrCrash.Error()+" ", len(p.now)))
	}
	return strings.Join(p.now, " ")
}

func (p *plain) count() int {
	n := 0
	for _, is := range p.pending {
		if is {
			n++
		}
	}
	return n
}

func (p *plain) clone() *plain {
	out := *p
	out.now = append([]string(nil), p.now...)
	out.safe = append([]string(nil), p.safe...)
	out.pending = append([]bool(nil), p.pending...)
	return &out
}

// dice are numbers that look like chance, the same at every run.
type dice uint64

// upTo is a number from 0 to n - 1.
func (x *dice) upTo(n int) int {
	*x = *x*6364136223846793005 + 1442695040888963407
	return int(uint64(*x)>>33) % n
}

// picks are a few numbers on both sides of 0.
func (x *dice) picks() []int {
	var out []int
	for range x.upTo(8) {
		out = append(out, x.upTo(9)-4)
	}
	return out
}

// turn does one thing, the same one, to d and to p.
func (x *dice) turn(t *testing.T, d *disk.Disk, p *plain) {
	t.Helper()
	var got, want error
	switch kind := x.upTo(40); {
	case kind < 24:
		i, b := x.upTo(len(p.now)+4)-2, bytes.Repeat([]byte{byte('a' + x.upTo(26))}, x.upTo(4))
		if x.upTo(20) == 0 {
			b = bytes.Repeat([]byte("z"), api.BlockSize+x.upTo(2))
		}
		got, want = d.Write(i, b), p.write(i, len(b), fmt.Sprintf("%q", b))
	case kind < 31:
		got, want = d.Sync(), p.sync()
	case kind < 34:
		n := x.upTo(9) - 1
		d.Arm(n)
		p.armed = max(n, 0)
	case kind < 39:
		l := x.picks()
		d.Crash(l...)
		p.crash(l)
	default:
		d.Erase()
		p.erase()
	}
	if got != want {
		t.Errorf("%v, want %v", got, want)
	}
	check(t, d, p.all(), p.count(), p.calls)
	if d.Down() != p.down {
		t.Errorf("down is %v", d.Down())
	}
}

// P5.1, P5.2: long scripts, with clones that go each its own way: all is as the plain disk tells.
func TestAsPlain(t *testing.T) {
	for n := 1; n <= 60; n++ {
		x := dice(n)
		d, p := made(t, 1+n%7), newPlain(1+n%7)
		for k := range 400 {
			if x.upTo(25) == 0 {
				c, q := d.Clone(), p.clone()
				for range x.upTo(12) {
					x.turn(t, c, q)
				}
				check(t, d, p.all(), p.count(), p.calls)
				if x.upTo(2) == 0 {
					d, p = c, q
				}
			}
			x.turn(t, d, p)
			if t.Failed() {
				t.Fatalf("script %d, at %d", n, k)
			}
		}
	}
}
