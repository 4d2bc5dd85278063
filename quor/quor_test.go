package quor_test

import (
	"fmt"
	"iter"
	"math"
	"slices"
	"strings"
	"testing"

	"sextet/api"
	"sextet/quor"
)

// made is a Set of Of, which must do well.
func made(t *testing.T, k int, nodes ...int) quor.Set {
	t.Helper()
	s, err := quor.Of(k, nodes...)
	if err != nil {
		t.Fatalf("Of(%d, %v): %v", k, nodes, err)
	}
	return s
}

// from are n numbers from low on.
func from(low, n int) []int {
	var l []int
	for i := range n {
		l = append(l, low+i)
	}
	return l
}

// chosen are those of l whose bit is set in bits.
func chosen(l []int, bits int) []int {
	var out []int
	for i, n := range l {
		if bits>>i&1 == 1 {
			out = append(out, n)
		}
	}
	return out
}

// all are what goes through l, in a list.
func all(l iter.Seq[[]int]) [][]int {
	var out [][]int
	for x := range l {
		out = append(out, x)
	}
	return out
}

// least are the least sets of s, as text.
func least(s quor.Set) string { return fmt.Sprint(all(s.Least())) }

// isNone asks that s is as the zero value.
func isNone(t *testing.T, what string, s quor.Set) {
	t.Helper()
	if s.Text() != "none" || len(s.Nodes()) > 0 || least(s) != "[]" || s.Has() || s.Has(from(0, api.MaxNodes)...) {
		t.Errorf("%s is not none: %s, %v, %s", what, s.Text(), s.Nodes(), least(s))
	}
	x := made(t, 1, 3)
	if quor.Or(s, x).Text() != "1/{3}" || quor.Or(x, s).Text() != "1/{3}" || quor.And(s, x).Text() != "none" || quor.And(x, s).Text() != "none" {
		t.Errorf("%s is not none beside another one", what)
	}
	if !quor.Meets(s, x) || !quor.Meets(x, s) || !quor.Meets(s, s) {
		t.Errorf("%s doesn't meet", what)
	}
}

// isSome asks that s isn't as the zero value.
func isSome(t *testing.T, what string, s quor.Set) {
	t.Helper()
	if s.Text() == "none" || len(s.Nodes()) == 0 || !s.Has(s.Nodes()...) {
		t.Errorf("%s is none: %s, %v", what, s.Text(), s.Nodes())
	}
}

// scribble writes over l and over its spare room.
func scribble(l []int) {
	l = l[:cap(l)]
	for i := range l {
		l[i] = 77
	}
}

// P6.1: what Of refuses, and what it tells first.
func TestOfRefuses(t *testing.T) {
	for _, c := range []struct {
		k     int
		nodes []int
		want  error
	}{
		{1, nil, api.ErrMany},
		{0, nil, api.ErrMany},
		{0, []int{}, api.ErrMany},
		{math.MinInt, nil, api.ErrMany},
		{1, from(0, 17), api.ErrMany},
		{17, from(0, 17), api.ErrMany},
		{18, from(0, 17), api.ErrMany},
		{0, from(0, 17), api.ErrMany},
		{1, from(-1, 17), api.ErrMany},
		{1, make([]int, 17), api.ErrMany},
		{1, from(0, 64), api.ErrMany},
		{1, make([]int, 1<<16), api.ErrMany},
		{1, []int{-1}, api.ErrRange},
		{1, []int{api.MaxNodes}, api.ErrRange},
		{1, []int{api.MaxNodes + 1}, api.ErrRange},
		{1, []int{math.MinInt}, api.ErrRange},
		{1, []int{math.MaxInt}, api.ErrRange},
		{1, []int{1 << 32}, api.ErrRange},
		{1, []int{-64}, api.ErrRange},
		{1, []int{256}, api.ErrRange},
		{1, []int{1, 2, 64}, api.ErrRange},
		{1, []int{-1, 1, 2}, api.ErrRange},
		{1, []int{1, 64, 2}, api.ErrRange},
		{1, from(49, 16), api.ErrRange},
		{1, []int{3, 3}, api.ErrRange},
		{2, []int{3, 3}, api.ErrRange},
		{1, []int{3, 4, 3}, api.ErrRange},
		{1, []int{0, 0}, api.ErrRange},
		{1, []int{63, 5, 63}, api.ErrRange},
		{1, append(from(0, 15), 14), api.ErrRange},
		{1, append(from(0, 15), 0), api.ErrRange},
		{1, []int{3, 3, 64, -1}, api.ErrRange},
		{0, []int{3}, api.ErrRange},
		{-1, []int{3}, api.ErrRange},
		{2, []int{3}, api.ErrRange},
		{257, []int{3}, api.ErrRange},
		{256, []int{3}, api.ErrRange},
		{-255, []int{3}, api.ErrRange},
		{1 << 32, []int{3}, api.ErrRange},
		{1<<32 + 1, []int{3}, api.ErrRange},
		{math.MinInt, []int{3}, api.ErrRange},
		{math.MaxInt, []int{3}, api.ErrRange},
		{0, from(0, 6), api.ErrRange},
		{7, from(0, 6), api.ErrRange},
		{0, from(0, 16), api.ErrRange},
		{17, from(0, 16), api.ErrRange},
	} {
		s, err := quor.Of(c.k, c.nodes...)
		if err != c.want {
			t.Errorf("Of(%d, %v): %v, want %v", c.k, c.nodes, err, c.want)
		}
		isNone(t, fmt.Sprintf("Of(%d, %v)", c.k, c.nodes), s)
	}
}

// P6.1: each node, and each k of each number of nodes, may be.
func TestOfTakes(t *testing.T) {
	for n := range api.MaxNodes {
		if s := made(t, 1, n); !s.Has(n) || s.Has(n-1, n+1) || fmt.Sprint(s.Nodes()) != fmt.Sprint([]int{n}) {
			t.Errorf("node %d: %s", n, s.Text())
		}
	}
	for n := 1; n <= 16; n++ {
		for k := 1; k <= n; k++ {
			for _, low := range []int{0, 20, api.MaxNodes - n} {
				isSome(t, "Of", made(t, k, from(low, n)...))
			}
		}
	}
}

// P6.1: enough is what has k of the nodes, whatever else it has.
func TestOfIsEnough(t *testing.T) {
	nodes := []int{63, 0, 17, 5, 31, 32}
	for k := 1; k <= len(nodes); k++ {
		s := made(t, k, nodes...)
		for bits := range 1 << len(nodes) {
			l := chosen(nodes, bits)
			if got, want := s.Has(l...), len(l) >= k; got != want {
				t.Errorf("%s: Has(%v) is %v", s.Text(), l, got)
			}
			if got, want := s.Has(append([]int{1, 62, 33}, l...)...), len(l) >= k; got != want {
				t.Errorf("%s: Has(%v and others) is %v", s.Text(), l, got)
			}
		}
	}
	for k := 1; k <= 16; k++ {
		s := made(t, k, from(48, 16)...)
		if s.Has(from(48, k-1)...) || !s.Has(from(48, k)...) || s.Has(from(65-k, k-1)...) || !s.Has(from(64-k, k)...) || s.Has(from(0, 48)...) {
			t.Errorf("%s", s.Text())
		}
	}
}

// P6.1, P0.7: in Has a node counts once, one that isn't right not at all.
func TestHasOfAnything(t *testing.T) {
	s := made(t, 2, 0, 1, 63)
	for _, c := range []struct {
		nodes []int
		want  bool
	}{
		{nil, false},
		{[]int{}, false},
		{[]int{0, 0}, false},
		{[]int{0, 0, 0, 63, 0}, true},
		{[]int{63, 0}, true},
		{[]int{1, 1, 1, 1}, false},
		{[]int{0, 64}, false},
		{[]int{0, 65}, false},
		{[]int{0, -1}, false},
		{[]int{0, -63}, false},
		{[]int{0, 127}, false},
		{[]int{0, 257}, false},
		{[]int{0, 1<<32 + 1}, false},
		{[]int{0, math.MinInt, math.MaxInt}, false},
		{[]int{math.MinInt, 1, -1, 64, 0, math.MaxInt}, true},
		{from(2, 61), false},
		{from(0, 64), true},
		{from(-100, 300), true},
	} {
		if got := s.Has(c.nodes...); got != c.want {
			t.Errorf("Has(%v) is %v", c.nodes, got)
		}
	}
	if s.Has(make([]int, 1<<20)...) {
		t.Error("one node many times is enough")
	}
}

// P6.1: And is enough for both, Or for one of them.
func TestAndOr(t *testing.T) {
	a, b := made(t, 2, 5, 1, 9), made(t, 1, 5, 2)
	and, or := quor.And(a, b), quor.Or(a, b)
	nodes := []int{1, 2, 5, 9, 10}
	for bits := range 1 << len(nodes) {
		l := chosen(nodes, bits)
		if and.Has(l...) != (a.Has(l...) && b.Has(l...)) || or.Has(l...) != (a.Has(l...) || b.Has(l...)) {
			t.Errorf("%v: %v, %v; and: %v, or: %v", l, a.Has(l...), b.Has(l...), and.Has(l...), or.Has(l...))
		}
	}
	if a.Text() != "2/{1 5 9}" || b.Text() != "1/{2 5}" {
		t.Error("they are changed", a.Text(), b.Text())
	}
}

// P6.1: with the zero value And is that, Or the other one.
func TestZero(t *testing.T) {
	var none quor.Set
	isNone(t, "the zero value", none)
	isNone(t, "And of two", quor.And(none, none))
	isNone(t, "Or of two", quor.Or(none, none))
	widest := made(t, 8, from(3, 16)...)
	deepest := made(t, 1, 1)
	for range 15 {
		deepest = quor.And(deepest, made(t, 1, 2))
	}
	for _, s := range []quor.Set{made(t, 1, 0), made(t, 2, 0, 5, 63), widest, deepest, quor.Or(made(t, 1, 0), made(t, 2, 3, 4))} {
		isNone(t, "And", quor.And(s, none))
		isNone(t, "And", quor.And(none, s))
		for _, or := range []quor.Set{quor.Or(s, none), quor.Or(none, s)} {
			if or.Text() != s.Text() || !slices.Equal(or.Nodes(), s.Nodes()) || least(or) != least(s) || !or.Has(s.Nodes()...) {
				t.Errorf("Or with none of %s is %s", s.Text(), or.Text())
			}
		}
	}
}

// P6.1: 16 nodes may be, 17 not, however many are in both.
func TestMostNodes(t *testing.T) {
	for n := 1; n <= 16; n++ {
		a := made(t, 1, from(0, n)...)
		for m := 1; m <= 16; m++ {
			for low := max(0, n-m); low <= n; low++ {
				b := made(t, m, from(low, m)...)
				for i, s := range []quor.Set{quor.And(a, b), quor.And(b, a), quor.Or(a, b), quor.Or(b, a)} {
					what := fmt.Sprintf("%d: %d nodes from 0, %d from %d", i, n, m, low)
					if low+m > 16 {
						isNone(t, what, s)
					} else if isSome(t, what, s); !slices.Equal(s.Nodes(), from(0, low+m)) {
						t.Error(what, s.Nodes())
					}
				}
			}
		}
	}
}

// P6.1: one that has too many nodes goes on as the zero value.
func TestTooManyNodesGoOn(t *testing.T) {
	wide := made(t, 1, from(0, 16)...)
	isNone(t, "And", quor.And(quor.Or(wide, made(t, 1, 16)), made(t, 1, 1)))
	isNone(t, "And", quor.And(made(t, 1, 1), quor.And(wide, made(t, 1, 16))))
	if s := quor.Or(quor.Or(wide, made(t, 1, 16)), made(t, 1, 40)); s.Text() != "1/{40}" {
		t.Error(s.Text())
	}
	if wide.Text() != "1/{0 1 2 3 4 5 6 7 8 9 10 11 12 13 14 15}" {
		t.Error(wide.Text())
	}
}

// grown is made of n of Of, of one node each: each on the left of the rest, which
// begins with node 9, or on its right, which begins with node 0.
func grown(t *testing.T, n int, join func(a, b quor.Set) quor.Set, right bool) quor.Set {
	t.Helper()
	s := made(t, 1, 0)
	if right {
		s = made(t, 1, 9)
	}
	for i := 1; i < n; i++ {
		x := made(t, 1, i%4)
		if right {
			s = join(x, s)
		} else {
			s = join(s, x)
		}
	}
	return s
}

// P6.1: 16 of Of may be, 17 not, whatever way they are put together.
func TestMostParts(t *testing.T) {
	for name, join := range map[string]func(a, b quor.Set) quor.Set{"And": quor.And, "Or": quor.Or} {
		for _, right := range []bool{false, true} {
			for n := 1; n <= 16; n++ {
				a := grown(t, n, join, right)
				isSome(t, name, a)
				if got := strings.Count(a.Text(), "/"); got != n {
					t.Errorf("%s of %d has %d", name, n, got)
				}
				for m := 1; m <= 16; m++ {
					b := grown(t, m, join, !right)
					what := fmt.Sprintf("%s of %d and %d", name, n, m)
					if s := join(a, b); n+m > 16 {
						isNone(t, what, s)
					} else if isSome(t, what, s); s.Has(0) != (name == "Or") {
						t.Error(what, s.Text())
					}
				}
			}
		}
	}
	isNone(t, "16 of Of and one", quor.And(grown(t, 16, quor.Or, false), made(t, 1, 0)))
	isNone(t, "one and 16 of Of", quor.Or(made(t, 1, 0), grown(t, 16, quor.And, true)))
	isNone(t, "one and 16 of Of, and one", quor.And(quor.Or(made(t, 1, 0), grown(t, 16, quor.And, true)), made(t, 1, 0)))
}

// P6.1: the nodes rise, each is there once, And and Or have those of both.
func TestNodes(t *testing.T) {
	a, b := made(t, 2, 63, 5, 0, 32, 31), made(t, 1, 6, 5, 33, 62)
	for _, c := range []struct {
		s    quor.Set
		want string
	}{
		{a, "[0 5 31 32 63]"},
		{b, "[5 6 33 62]"},
		{quor.And(a, b), "[0 5 6 31 32 33 62 63]"},
		{quor.Or(b, a), "[0 5 6 31 32 33 62 63]"},
		{quor.Or(a, a), "[0 5 31 32 63]"},
		{quor.And(b, quor.Or(b, b)), "[5 6 33 62]"},
		{made(t, 16, from(48, 16)...), fmt.Sprint(from(48, 16))},
		{quor.Set{}, "[]"},
	} {
		if got := fmt.Sprint(c.s.Nodes()); got != c.want {
			t.Errorf("%s: %s, want %s", c.s.Text(), got, c.want)
		}
	}
}

// P6.1, P0.4: what is handed in is neither changed nor kept, nor is what lies behind it read or written.
func TestListsHandedIn(t *testing.T) {
	whole := []int{5, 1, 9, 9, -1, 3}
	given := slices.Clone(whole)
	s := made(t, 2, given[:3]...)
	one := made(t, 1, given[:1]...)
	if !s.Has(given[1:3]...) || s.Has(given[3:5]...) || s.Has(given[1:2]...) || one.Has(given[1:]...) {
		t.Error("what lies behind is read")
	}
	if !slices.Equal(given, whole) {
		t.Errorf("written to: %v", given)
	}
	scribble(given)
	if s.Text() != "2/{1 5 9}" || one.Text() != "1/{5}" || !s.Has(1, 5) {
		t.Errorf("kept: %s, %s", s.Text(), one.Text())
	}
}

// P6.1, P0.4: each list of Nodes is new memory, its spare room too.
func TestNodesAreNewMemory(t *testing.T) {
	for n := 1; n <= 16; n++ {
		s := made(t, 1, from(0, n)...)
		one, two := s.Nodes(), s.Nodes()
		long := append(two, 40)
		scribble(one)
		if !slices.Equal(two, from(0, n)) || long[n] != 40 || !slices.Equal(s.Nodes(), from(0, n)) {
			t.Errorf("%d nodes: shared", n)
		}
		scribble(long)
		if !slices.Equal(s.Nodes(), from(0, n)) || !s.Has(n-1) {
			t.Errorf("%d nodes: shared", n)
		}
	}
}

// P6.1: a Set is a value: one that is changed leaves those that were made of it.
func TestSetsAreValues(t *testing.T) {
	a, b := made(t, 1, 1), made(t, 1, 2)
	c := quor.And(a, b)
	d, e := quor.Or(c, made(t, 1, 3)), quor.Or(c, made(t, 1, 4))
	f := c
	a, b, c = made(t, 1, 9), quor.Set{}, quor.And(c, d)
	for _, x := range []struct{ got, want string }{
		{a.Text(), "1/{9}"},
		{b.Text(), "none"},
		{c.Text(), "((1/{1} & 1/{2}) & ((1/{1} & 1/{2}) | 1/{3}))"},
		{d.Text(), "((1/{1} & 1/{2}) | 1/{3})"},
		{e.Text(), "((1/{1} & 1/{2}) | 1/{4})"},
		{f.Text(), "(1/{1} & 1/{2})"},
	} {
		if x.got != x.want {
			t.Errorf("%s, want %s", x.got, x.want)
		}
	}
}

// P6.2: the least sets in the order of their numbers.
func TestLeast(t *testing.T) {
	a, b := made(t, 2, 5, 1, 9), made(t, 1, 5, 2)
	for _, c := range []struct {
		s    quor.Set
		want string
	}{
		{quor.Set{}, "[]"},
		{made(t, 1, 0), "[[0]]"},
		{made(t, 1, 63), "[[63]]"},
		{made(t, 1, 9, 63, 0), "[[0] [9] [63]]"},
		{made(t, 3, 9, 63, 0), "[[0 9 63]]"},
		{a, "[[1 5] [1 9] [5 9]]"},
		{made(t, 2, 4, 3, 2, 1), "[[1 2] [1 3] [2 3] [1 4] [2 4] [3 4]]"},
		{made(t, 3, 60, 61, 62, 63), "[[60 61 62] [60 61 63] [60 62 63] [61 62 63]]"},
		{quor.And(a, b), "[[1 5] [1 2 9] [5 9]]"},
		{quor.And(b, a), "[[1 5] [1 2 9] [5 9]]"},
		{quor.Or(a, b), "[[2] [5] [1 9]]"},
		{quor.Or(a, a), "[[1 5] [1 9] [5 9]]"},
		{quor.And(made(t, 1, 7), made(t, 1, 3)), "[[3 7]]"},
		{quor.Or(made(t, 1, 7), made(t, 1, 3)), "[[3] [7]]"},
		{quor.Or(made(t, 1, 7), quor.And(made(t, 1, 7), made(t, 1, 3))), "[[7]]"},
		{quor.And(made(t, 1, 7), quor.Or(made(t, 1, 7), made(t, 1, 3))), "[[7]]"},
	} {
		if got := least(c.s); got != c.want {
			t.Errorf("%s: %s, want %s", c.s.Text(), got, c.want)
		}
	}
}

// P6.2: of 16 nodes, k of which are enough, each k of them, once, in their order.
func TestLeastOfMost(t *testing.T) {
	nodes := []int{0, 1, 4, 9, 16, 25, 31, 32, 33, 36, 40, 49, 50, 61, 62, 63}
	for k := 1; k <= 16; k++ {
		bits := 0
		for x := range made(t, k, nodes...).Least() {
			for len(chosen(nodes, bits)) != k {
				bits++
			}
			if !slices.Equal(x, chosen(nodes, bits)) {
				t.Fatalf("%d of 16: %v, want %v", k, x, chosen(nodes, bits))
			}
			bits++
		}
		for ; bits < 1<<16; bits++ {
			if len(chosen(nodes, bits)) == k {
				t.Fatalf("%d of 16: %v is missing", k, chosen(nodes, bits))
			}
		}
	}
}

// P6.2: one goes through them several times, from the beginning, one within the other.
func TestLeastSeveralTimes(t *testing.T) {
	s := quor.And(made(t, 2, 5, 1, 9), made(t, 1, 5, 2))
	want, l := least(s), s.Least()
	for range 3 {
		if got := fmt.Sprint(all(l)); got != want {
			t.Errorf("%s, want %s", got, want)
		}
	}
	n := 0
	for x := range l {
		inner := fmt.Sprint(all(l))
		if inner != want || !s.Has(x...) {
			t.Errorf("within %v: %s", x, inner)
		}
		n++
	}
	if n != 3 {
		t.Errorf("%d of them", n)
	}
}

// P6.2: it may be left anywhere; nothing is handed out any more, and the next time begins anew.
func TestLeastLeftEarly(t *testing.T) {
	s := made(t, 2, 1, 2, 3, 4)
	l, want := s.Least(), all(s.Least())
	for n := 1; n <= len(want); n++ {
		var got [][]int
		l(func(x []int) bool {
			got = append(got, x)
			return len(got) < n
		})
		if fmt.Sprint(got) != fmt.Sprint(want[:n]) {
			t.Errorf("left after %d: %v", n, got)
		}
		if fmt.Sprint(all(l)) != fmt.Sprint(want) {
			t.Errorf("left after %d: then %v", n, all(l))
		}
	}
}

// P6.2: what Least goes through is of the Set as it was when it was called.
func TestLeastOfAChangedSet(t *testing.T) {
	s := made(t, 1, 1, 2)
	l := s.Least()
	s = made(t, 1, 3)
	if fmt.Sprint(all(l)) != "[[1] [2]]" || least(s) != "[[3]]" {
		t.Error(all(l), least(s))
	}
}

// P6.2, P0.4: each list is its own, its spare room too, also while it goes on.
func TestLeastIsNewMemory(t *testing.T) {
	for k := 1; k <= 6; k++ {
		s := made(t, k, 1, 2, 3, 4, 5, 6)
		want := least(s)
		var texts []string
		l := s.Least()
		for x := range l {
			texts = append(texts, fmt.Sprint(x))
			scribble(append(x, 7))
			scribble(x)
		}
		if got := "[" + strings.Join(texts, " ") + "]"; got != want || least(s) != want {
			t.Errorf("%s, want %s", got, want)
		}
		lists := all(l)
		for i, x := range lists {
			long := append(x, 40+i)
			for j, y := range lists {
				if i != j && !s.Has(y...) {
					t.Errorf("%v is changed with %v", y, long)
				}
			}
		}
		if fmt.Sprint(lists) != want {
			t.Errorf("%v, want %s", lists, want)
		}
		scribble(lists[0])
		if fmt.Sprint(all(l)) != want || fmt.Sprint(lists[1:]) != fmt.Sprint(all(l)[1:]) {
			t.Errorf("%v, want %s", lists, want)
		}
	}
}

// P6.2: 4 of six meets 3 of the same six; k and j of n nodes meet if they are more than n.
func TestMeetsOfTheSame(t *testing.T) {
	six := from(0, 6)
	if !quor.Meets(made(t, 4, six...), made(t, 3, six...)) || quor.Meets(made(t, 3, six...), made(t, 3, six...)) {
		t.Error("of six")
	}
	for n := 1; n <= 8; n++ {
		for k := 1; k <= n; k++ {
			for j := 1; j <= n; j++ {
				a, b := made(t, k, from(50, n)...), made(t, j, from(50, n)...)
				if got := quor.Meets(a, b); got != (k+j > n) {
					t.Errorf("%s and %s: %v", a.Text(), b.Text(), got)
				}
			}
		}
	}
}

// P6.2: sets of other nodes, sets that are put together, and those of which none is enough.
func TestMeets(t *testing.T) {
	w, r := made(t, 4, from(0, 6)...), made(t, 3, from(0, 6)...)
	other, read := made(t, 4, 0, 1, 2, 3, 4, 6), made(t, 3, 0, 1, 2, 3, 4, 6)
	both := quor.And(w, other)
	wide := made(t, 9, from(0, 16)...)
	for _, c := range []struct {
		a, b quor.Set
		want bool
	}{
		{w, w, true},
		{w, other, true},
		{w, read, false},
		{r, other, false},
		{both, read, true},
		{both, r, true},
		{both, both, true},
		{quor.Or(w, other), read, false},
		{quor.Or(w, other), both, true},
		{quor.Or(w, made(t, 1, 9)), r, false},
		{quor.Or(w, quor.And(made(t, 1, 9), made(t, 1, 0))), quor.And(r, made(t, 1, 0, 9)), true},
		{quor.And(w, made(t, 1, 9)), quor.And(r, made(t, 1, 8)), true},
		{made(t, 1, 1), made(t, 1, 1), true},
		{made(t, 1, 1), made(t, 1, 2), false},
		{made(t, 2, 1, 2), made(t, 1, 2, 3), false},
		{made(t, 2, 1, 2), made(t, 2, 2, 3), true},
		{made(t, 2, 1, 2, 3), made(t, 2, 3, 4, 5), false},
		{made(t, 3, 1, 2, 3), made(t, 1, 3, 2, 1), true},
		{wide, wide, true},
		{wide, made(t, 8, from(0, 16)...), true},
		{wide, made(t, 7, from(0, 16)...), false},
		{made(t, 16, from(0, 16)...), made(t, 16, from(15, 16)...), true},
		{made(t, 16, from(0, 16)...), made(t, 16, from(16, 16)...), false},
		{quor.Set{}, r, true},
		{r, quor.Set{}, true},
		{quor.Set{}, quor.Set{}, true},
		{quor.Set{}, made(t, 1, 0), true},
	} {
		if quor.Meets(c.a, c.b) != c.want || quor.Meets(c.b, c.a) != c.want {
			t.Errorf("%s and %s: not %v", c.a.Text(), c.b.Text(), c.want)
		}
	}
}

// P6.3: the texts.
func TestText(t *testing.T) {
	a, b, c := made(t, 2, 9, 1, 5), made(t, 1, 63), made(t, 1, 2, 0)
	for _, x := range []struct {
		s    quor.Set
		want string
	}{
		{quor.Set{}, "none"},
		{a, "2/{1 5 9}"},
		{b, "1/{63}"},
		{c, "1/{0 2}"},
		{made(t, 4, 5, 4, 3, 2, 1, 0), "4/{0 1 2 3 4 5}"},
		{made(t, 16, from(48, 16)...), "16/{48 49 50 51 52 53 54 55 56 57 58 59 60 61 62 63}"},
		{made(t, 10, from(1, 11)...), "10/{1 2 3 4 5 6 7 8 9 10 11}"},
		{quor.And(a, b), "(2/{1 5 9} & 1/{63})"},
		{quor.Or(a, b), "(2/{1 5 9} | 1/{63})"},
		{quor.And(b, a), "(1/{63} & 2/{1 5 9})"},
		{quor.Or(a, a), "(2/{1 5 9} | 2/{1 5 9})"},
		{quor.And(a, a), "(2/{1 5 9} & 2/{1 5 9})"},
		{quor.And(quor.Or(a, b), c), "((2/{1 5 9} | 1/{63}) & 1/{0 2})"},
		{quor.And(a, quor.Or(b, c)), "(2/{1 5 9} & (1/{63} | 1/{0 2}))"},
		{quor.Or(quor.And(a, b), quor.And(b, c)), "((2/{1 5 9} & 1/{63}) | (1/{63} & 1/{0 2}))"},
		{quor.And(quor.And(a, b), c), "((2/{1 5 9} & 1/{63}) & 1/{0 2})"},
		{quor.And(a, quor.And(b, c)), "(2/{1 5 9} & (1/{63} & 1/{0 2}))"},
		{quor.And(quor.Set{}, a), "none"},
		{quor.Or(quor.Set{}, a), "2/{1 5 9}"},
	} {
		if got := x.s.Text(); got != x.want {
			t.Errorf("%s, want %s", got, x.want)
		}
	}
}

// plain is a Set told plainly: k of nodes, or a and b with a sign between them.
type plain struct {
	k     int
	nodes []int
	sign  string
	a, b  *plain
}

// has is whether the nodes of l are enough.
func (p *plain) has(l []int) bool {
	switch p.sign {
	case "&":
		return p.a.has(l) && p.b.has(l)
	case "|":
		return p.a.has(l) || p.b.has(l)
	}
	n := 0
	for _, x := range p.nodes {
		if slices.Contains(l, x) {
			n++
		}
	}
	return n >= p.k
}

// all are the nodes, rising.
func (p *plain) all() []int {
	l := slices.Clone(p.nodes)
	if p.sign != "" {
		l = append(p.a.all(), p.b.all()...)
	}
	slices.Sort(l)
	return slices.Compact(l)
}

// text is what Text tells.
func (p *plain) text() string {
	if p.sign != "" {
		return "(" + p.a.text() + " " + p.sign + " " + p.b.text() + ")"
	}
	l := slices.Clone(p.nodes)
	slices.Sort(l)
	return fmt.Sprintf("%d/{%s}", p.k, strings.Trim(fmt.Sprint(l), "[]"))
}

// enough are all the sets of its nodes that are, by their numbers.
func (p *plain) enough() []bool {
	l := p.all()
	out := make([]bool, 1<<len(l))
	for bits := range out {
		out[bits] = p.has(chosen(l, bits))
	}
	return out
}

// least are those of whose parts none is enough, with each part asked.
func (p *plain) least() [][]int {
	var out [][]int
	enough := p.enough()
	for bits, is := range enough {
		for part := range bits {
			is = is && (part&bits != part || !enough[part])
		}
		if is {
			out = append(out, chosen(p.all(), bits))
		}
	}
	return out
}

// meets is whether all of the least of p and of q have a node in common.
func (p *plain) meets(q *plain) bool {
	for _, x := range p.least() {
		for _, y := range q.least() {
			if !slices.ContainsFunc(x, func(n int) bool { return slices.Contains(y, n) }) {
				return false
			}
		}
	}
	return true
}

// dice are numbers that look like chance, the same at every run.
type dice uint64

// upTo is a number from 0 to n - 1.
func (x *dice) upTo(n int) int {
	*x = *x*6364136223846793005 + 1442695040888963407
	return int(uint64(*x)>>33) % n
}

// some are some of the nodes of l, at least one, in any order.
func (x *dice) some(l []int) []int {
	l = slices.Clone(l)
	for i := range l {
		j := i + x.upTo(len(l)-i)
		l[i], l[j] = l[j], l[i]
	}
	return l[:1+x.upTo(len(l))]
}

// tree is a Set of so many of Of over nodes of l, and it told plainly.
func (x *dice) tree(t *testing.T, parts int, l []int) (quor.Set, *plain) {
	t.Helper()
	if parts == 1 {
		nodes := x.some(l)
		k := 1 + x.upTo(len(nodes))
		return made(t, k, nodes...), &plain{k: k, nodes: nodes}
	}
	left := 1 + x.upTo(parts-1)
	a, p := x.tree(t, left, l)
	b, q := x.tree(t, parts-left, l)
	if x.upTo(2) == 0 {
		return quor.And(a, b), &plain{sign: "&", a: p, b: q}
	}
	return quor.Or(a, b), &plain{sign: "|", a: p, b: q}
}

// asPlain asks that s is as p tells.
func asPlain(t *testing.T, s quor.Set, p *plain) {
	t.Helper()
	if s.Text() != p.text() || !slices.Equal(s.Nodes(), p.all()) {
		t.Errorf("%s, %v; want %s, %v", s.Text(), s.Nodes(), p.text(), p.all())
	}
	if got := least(s); got != fmt.Sprint(p.least()) {
		t.Errorf("%s: %s, want %v", p.text(), got, p.least())
	}
	for bits := range 1 << len(p.all()) {
		if l := chosen(p.all(), bits); s.Has(l...) != p.has(l) {
			t.Errorf("%s: Has(%v) is %v", p.text(), l, !p.has(l))
		}
	}
}

// P6.1 to P6.3: many Sets, all as the plain ones tell.
func TestAsPlain(t *testing.T) {
	pools := [][]int{{0, 63}, {3, 1, 2}, {0, 1, 2, 3, 4, 5}, {9, 20, 31, 32, 40, 63}, {0, 7, 8, 15, 16, 55, 56, 62}}
	x := dice(6)
	for n := range 600 {
		a, p := x.tree(t, 1+x.upTo(16), pools[n%len(pools)])
		b, q := x.tree(t, 1+x.upTo(4), pools[x.upTo(len(pools))])
		asPlain(t, a, p)
		asPlain(t, b, q)
		if quor.Meets(a, b) != p.meets(q) || quor.Meets(b, a) != p.meets(q) {
			t.Errorf("%s and %s: not %v", p.text(), q.text(), p.meets(q))
		}
		if t.Failed() {
			t.Fatalf("pair %d", n)
		}
	}
}

// P0.1: the greatest ones end soon enough too.
func TestGreatest(t *testing.T) {
	s := made(t, 8, from(0, 16)...)
	for i := range 15 {
		x := made(t, 8, from(0, 16)...)
		if i%2 == 0 {
			s = quor.And(x, s)
		} else {
			s = quor.Or(s, x)
		}
	}
	n := 0
	for range s.Least() {
		n++
	}
	if n != 12870 || quor.Meets(s, s) || !quor.Meets(s, made(t, 9, from(0, 16)...)) {
		t.Errorf("%d of them", n)
	}
}
