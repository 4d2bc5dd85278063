package track_test

import (
	"fmt"
	"slices"
	"testing"

	"sextet/api"
	"sextet/track"
)

// dice are numbers that look like chance, the same at every run.
type dice uint64

// upTo is a number from 0 to n - 1.
func (x *dice) upTo(n int) int {
	*x = *x*6364136223846793005 + 1442695040888963407
	return int(uint64(*x)>>33) % n
}

// tale is what a node told once.
type tale struct {
	node, inc int
	scl       int64
}

// plain is a Track as the chapter's words have it: all that was told, and counts still.
type plain struct {
	c     api.Config
	inc   map[int]int
	tales []tale
}

// members are the nodes of both lists, rising.
func (p *plain) members() []int {
	var l []int
	for n := range 100 {
		if slices.Contains(p.c.Old, n) || slices.Contains(p.c.New, n) {
			l = append(l, n)
		}
	}
	return l
}

// forget takes away what node told, with that inc (all: with any).
func (p *plain) forget(node int, is func(inc int) bool) {
	p.tales = slices.DeleteFunc(p.tales, func(x tale) bool { return x.node == node && is(x.inc) })
}

// born is what Born asks.
func (p *plain) born(node, inc int) {
	p.inc[node] = inc
	p.forget(node, func(x int) bool { return x != inc })
}

// ack is what Ack asks and answers.
func (p *plain) ack(node, inc int, scl int64) bool {
	if !slices.Contains(p.members(), node) || p.inc[node] != inc || scl < 0 || scl > 1<<40 {
		return false
	}
	p.tales = append(p.tales, tale{node, inc, scl})
	return true
}

// scl is the greatest that node told.
func (p *plain) scl(node int) int64 {
	var most int64
	for _, x := range p.tales {
		if x.node == node {
			most = max(most, x.scl)
		}
	}
	return most
}

// has are the members that have all up to lsn.
func (p *plain) has(lsn int64) []int {
	var l []int
	for _, n := range p.members() {
		if p.scl(n) >= lsn {
			l = append(l, n)
		}
	}
	return l
}

// enough is whether four of Old are in l, and four of New, if there is one.
func (p *plain) enough(l []int) bool {
	count := func(of []int) int {
		n := 0
		for _, x := range l {
			if slices.Contains(of, x) {
				n++
			}
		}
		return n
	}
	return count(p.c.Old) >= 4 && (len(p.c.New) == 0 || count(p.c.New) >= 4)
}

// pgcl is the greatest LSN that was ever told by who is a member now, and is enough.
func (p *plain) pgcl() int64 {
	var most int64
	for _, x := range p.tales {
		if slices.Contains(p.members(), x.node) && p.enough(p.has(x.scl)) {
			most = max(most, x.scl)
		}
	}
	return most
}

// told is all that it tells, as told tells it of a Track.
func (p *plain) told() string {
	var l []string
	for n := -2; n < 70; n++ {
		if p.scl(n) != 0 {
			l = append(l, fmt.Sprintf("%d:%d", n, p.scl(n)))
		}
	}
	for _, lsn := range lsns {
		l = append(l, fmt.Sprint(p.has(lsn)))
	}
	return fmt.Sprint(l, p.pgcl())
}

// some is a configuration of ten nodes, mostly a right one.
func (x *dice) some() api.Config {
	l := []int{0, 1, 2, 3, 4, 5, 6, 7, 8, 63}
	for i := range l {
		j := i + x.upTo(len(l)-i)
		l[i], l[j] = l[j], l[i]
	}
	c := api.Config{Epoch: x.upTo(9), Old: slices.Clone(l[:6])}
	if x.upTo(2) == 0 {
		c.New = slices.Clone(l[:6])
		c.New[x.upTo(6)] = l[6+x.upTo(4)]
	}
	if x.upTo(10) == 0 {
		c.Old = c.Old[:x.upTo(6)]
	}
	return c
}

// step lets both do the same, and tells what, and whether they answered the same.
func (x *dice) step(got *track.Track, want *plain) (string, bool) {
	node, inc := []int{-1, 0, 1, 2, 3, 4, 5, 6, 7, 8, 63, 64}[x.upTo(12)], x.upTo(40)/39
	if len(want.tales) > 60 {
		node, inc = x.upTo(9), 5
		want.born(node, inc)
		got.Born(node, inc)
		return "Born", true
	}
	switch x.upTo(40) {
	case 0:
		c := x.some()
		right := len(c.Old) == 6
		if right {
			want.c = c
		}
		return fmt.Sprint("Change ", c), (got.Change(c) == nil) == right
	case 1, 2:
		if 0 <= node && node < 64 {
			want.born(node, x.upTo(2))
			got.Born(node, want.inc[node])
		} else {
			got.Born(node, 1)
		}
		return fmt.Sprint("Born ", node), true
	case 3:
		want.forget(node, func(int) bool { return true })
		got.Drop(node)
		return fmt.Sprint("Drop ", node), true
	}
	if x.upTo(8) > 0 {
		inc = want.inc[node]
	}
	scl := int64(x.upTo(14) - 1)
	if x.upTo(30) == 0 {
		scl = api.MaxLSN - 1 + int64(x.upTo(3))
	}
	return fmt.Sprint("Ack ", node, inc, scl), got.Ack(node, inc, scl) == want.ack(node, inc, scl)
}

// P14.1, P14.2: long scripts, each answer as the chapter's words have it.
func TestAsPlain(t *testing.T) {
	high := map[int64]int{}
	for seed := range 40 {
		x := dice(seed)
		x.upTo(2)
		c := six()
		got, err := track.New(c)
		if err != nil {
			t.Fatal(err)
		}
		want := &plain{c: c, inc: map[int]int{}}
		for i := range 300 {
			what, is := x.step(got, want)
			if g, w := told(got), want.told(); !is || g != w {
				t.Fatalf("seed %d, step %d, %s: %v\n%s, want\n%s", seed, i, what, is, g, w)
			}
			if got.PGCL() > 0 {
				high[got.PGCL()]++
			}
		}
	}
	if len(high) < 8 {
		t.Error("the scripts tell little:", high)
	}
}
