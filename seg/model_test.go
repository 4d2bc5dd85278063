package seg_test

import (
	"fmt"
	"math/rand"
	"slices"
	"testing"

	"sextet/api"
	"sextet/conf"
	"sextet/disk"
	"sextet/hot"
	"sextet/msg"
	"sextet/page"
	"sextet/redo"
	"sextet/seg"
	"sextet/slog"
	"sextet/span"
)

// plain is a copy as the chapter's words have it, without a disk.
type plain struct {
	st   slog.State
	recs map[int64]api.Redo
	told map[int]api.Msg
}

// clone is a plain one of its own.
func (p *plain) clone() *plain {
	out := &plain{st: p.st, recs: map[int64]api.Redo{}, told: map[int]api.Msg{}}
	for k, r := range p.recs {
		out.recs[k] = r
	}
	for k, m := range p.told {
		out.told[k] = m
	}
	return out
}

// all are its records, rising.
func (p *plain) all() []api.Redo {
	var out []api.Redo
	for _, r := range p.recs {
		out = append(out, r)
	}
	return redo.Sort(out...)
}

// scl is the greatest LSN up to which all is there.
func (p *plain) scl() int64 {
	h := hot.New(group)
	for _, r := range p.recs {
		h.Add(r)
	}
	return h.SCL()
}

// take takes those of l that are not dead, and whose LSN no other one has.
func (p *plain) take(l []api.Redo) {
	for _, r := range l {
		if _, there := p.recs[r.LSN]; !there && !span.Dead(p.st.Spans, r.LSN, r.Epoch) {
			p.recs[r.LSN] = r
		}
	}
}

// cut takes away those that are dead by its spans.
func (p *plain) cut() {
	for lsn, r := range p.recs {
		if span.Dead(p.st.Spans, lsn, r.Epoch) {
			delete(p.recs, lsn)
		}
	}
}

// counted are those of m's records that are not left out of all messages.
func (p *plain) counted(m api.Msg) []api.Redo {
	var out []api.Redo
	for _, r := range m.Recs {
		if r.Group == group && r.Epoch <= m.Epoch {
			out = append(out, r)
		}
	}
	return out
}

// handle is what a valid message to it is answered, without what each answer has.
func (p *plain) handle(m api.Msg) api.Msg {
	if !p.st.Whole {
		if m.Kind == api.Whole && m.Seq == p.st.Inc && int(m.At) <= m.Epoch {
			p.told[m.From] = m
		}
		return api.Msg{}
	}
	refuse := api.Msg{Kind: api.Refuse, Epoch: p.st.Promise, Inc: p.st.Inc}
	switch m.Kind {
	case api.Write:
		if m.Epoch < p.st.Promise {
			return refuse
		}
		if m.Epoch != p.st.Installed || m.Epoch != p.st.Promise {
			return api.Msg{}
		}
		for _, r := range p.counted(m) {
			if r.Epoch == m.Epoch {
				p.take([]api.Redo{r})
			}
		}
		return api.Msg{Kind: api.Ack, Epoch: m.Epoch, Inc: p.st.Inc, LSN: p.scl()}
	case api.Prepare:
		if m.Epoch < p.st.Promise {
			return refuse
		}
		p.st.Promise = m.Epoch
		return api.Msg{Kind: api.Promise, Epoch: m.Epoch, Inc: p.st.Inc, At: int64(p.st.Installed), LSN: p.st.Floor, Spans: p.st.Spans, Recs: p.all()}
	case api.Install:
		if m.Inc != p.st.Inc {
			return api.Msg{}
		}
		if m.Epoch < p.st.Promise {
			return refuse
		}
		if m.Epoch > p.st.Promise {
			return api.Msg{}
		}
		if p.st.Installed != m.Epoch {
			p.st.Installed, p.st.Spans = m.Epoch, m.Spans
			p.cut()
		}
		p.take(p.counted(m))
		return api.Msg{Kind: api.Done, Epoch: m.Epoch, Inc: p.st.Inc, LSN: p.scl()}
	case api.Read:
		if m.Epoch < p.st.Promise {
			return refuse
		}
		if m.Epoch != p.st.Installed || p.scl() < m.LSN || m.At < p.st.Floor {
			return api.Msg{Kind: api.Behind, Epoch: m.Epoch, Page: m.Page, At: m.At}
		}
		body := page.New(m.Page)
		for _, r := range p.all() {
			if r.LSN <= m.At {
				body = page.Apply(body, r)
			}
		}
		return api.Msg{Kind: api.Give, Epoch: m.Epoch, Page: m.Page, At: m.At, Body: body}
	}
	return p.aside(m)
}

// aside is handle of a whole one, for the kinds that no promise refuses.
func (p *plain) aside(m api.Msg) api.Msg {
	if m.Kind == api.Hydrate {
		return api.Msg{Kind: api.Whole, Epoch: p.st.Promise, At: int64(p.st.Installed), LSN: p.st.Floor, Spans: p.st.Spans, Recs: p.all()}
	}
	if m.Epoch != p.st.Installed {
		return api.Msg{}
	}
	switch m.Kind {
	case api.Ask:
		var out []api.Redo
		for _, r := range p.all() {
			if r.LSN > m.LSN && len(out) < 8 {
				out = append(out, r)
			}
		}
		if len(out) > 0 {
			return api.Msg{Kind: api.Fill, Epoch: m.Epoch, Recs: out}
		}
	case api.Fill:
		p.take(p.counted(m))
	case api.Floor:
		p.st.Floor = max(p.st.Floor, min(m.LSN, p.scl()))
	}
	return api.Msg{}
}

// tick is what it asks the others.
func (p *plain) tick(c api.Config) []api.Msg {
	var from []api.Msg
	old := 0
	for _, node := range conf.Members(c) {
		if m, is := p.told[node]; is {
			from = append(from, m)
			if slices.Contains(c.Old, node) {
				old++
			}
		}
	}
	if !p.st.Whole && old >= 3 {
		p.hydrate(from)
	}
	var out []api.Msg
	for _, node := range conf.Members(c) {
		switch {
		case node == self:
		case p.st.Whole:
			out = append(out, api.Msg{Kind: api.Ask, From: self, To: node, Group: group, Epoch: p.st.Installed, LSN: p.scl()})
		default:
			out = append(out, api.Msg{Kind: api.Hydrate, From: self, To: node, Group: group, Seq: p.st.Inc})
		}
	}
	return out
}

// hydrate makes it whole of accounts, by node, rising.
func (p *plain) hydrate(from []api.Msg) {
	p.st.Whole = true
	at := int64(-1)
	for _, m := range from {
		p.st.Promise, p.st.Floor = max(p.st.Promise, m.Epoch), max(p.st.Floor, m.LSN)
		if m.At > at {
			at, p.st.Installed, p.st.Spans = m.At, int(m.At), m.Spans
		}
	}
	best := map[int64]api.Redo{}
	for _, m := range from {
		for _, r := range p.counted(m) {
			if was, is := best[r.LSN]; !is || was.Epoch < r.Epoch {
				best[r.LSN] = r
			}
		}
	}
	for _, r := range best {
		p.take([]api.Redo{r})
	}
}

// look is what a copy of the same tells of itself.
func (p *plain) look() string { return fmt.Sprint(self, group, p.st, p.all()) }

// some are few records, many of which have an LSN in common; some are of another group.
func some(random *rand.Rand, epoch int) []api.Redo {
	var out []api.Redo
	for range random.Intn(6) {
		lsn := random.Int63n(14) + 1
		r := with(rec(lsn, lsn-1, max(0, epoch-random.Intn(3)+random.Intn(2))), func(r *api.Redo) { r.Page = random.Intn(3) })
		if random.Intn(9) == 0 {
			r.Back = random.Int63n(lsn)
		}
		if random.Intn(15) == 0 {
			r.Group = 0
		}
		out = append(out, r)
	}
	return out
}

// cuts are few spans, right ones.
func cuts(random *rand.Rand, epoch int) []api.Span {
	var out []api.Span
	to := int64(0)
	for e := max(1, epoch-1); e <= epoch; e++ {
		if random.Intn(2) == 0 {
			from := random.Int63n(12)
			to = max(to, from) + 1 + random.Int63n(3)
			out = append(out, api.Span{Epoch: e, From: from, To: to})
		}
	}
	return out
}

// message is one that is valid, mostly one that counts where st is.
func message(random *rand.Rand, st slog.State) api.Msg {
	epoch := max(0, st.Promise+random.Intn(4)-1)
	if random.Intn(2) == 0 {
		epoch = st.Promise
	}
	if random.Intn(4) == 0 {
		epoch = st.Installed
	}
	m := api.Msg{
		Kind: random.Intn(api.Floor) + 1, From: random.Intn(9), To: self, Group: group, Epoch: epoch, Inc: inc, Page: random.Intn(3),
		LSN: random.Int63n(16), At: random.Int63n(16), Seq: inc, Recs: some(random, epoch), Spans: cuts(random, epoch),
	}
	switch random.Intn(20) {
	case 0:
		m.Inc++
	case 1:
		m.Seq--
	case 2:
		m.Done, m.Seq = 7, 8
	}
	if !st.Whole && random.Intn(3) > 0 {
		m.Kind, m.At = api.Whole, min(m.At, int64(m.Epoch))
	}
	return m
}

// config is one of few configurations.
func config(random *rand.Rand) api.Config {
	switch random.Intn(4) {
	case 0:
		return next()
	case 1:
		return api.Config{Epoch: 2, Old: []int{0, 1, 2, 3, 4, self}}
	case 2:
		return api.Config{Epoch: 3, Old: []int{7, 8, 0, 1, 2, self}, New: []int{7, 8, 0, 1, 2, 3}}
	}
	return old()
}

// run is a copy, and the plain one that it has to be like.
type run struct {
	t      *testing.T
	random *rand.Rand
	what   string
	seen   map[string]int // what came how often
	d      *disk.Disk
	s      *seg.Seg
	p      *plain
}

// step lets both do one thing.
func (x *run) step() {
	was := x.s.State()
	ahead := x.p.clone()
	var got, want []api.Msg
	var err error
	var m api.Msg
	if x.random.Intn(6) == 0 {
		c := config(x.random)
		got, err = x.s.Tick(c)
		want = x.p.tick(c)
	} else {
		m = message(x.random, was)
		if msg.Valid(m) != nil {
			x.t.Fatal(x.what, m)
		}
		got, err = x.s.Handle(m)
		if out := x.p.handle(m); out.Kind > 0 {
			out.From, out.To, out.Group, out.Seq = self, m.From, group, m.Seq
			want = []api.Msg{out}
		}
	}
	if err != nil {
		if err != api.ErrCrash || got != nil || look(x.s) != ahead.look() {
			x.t.Fatalf("%s: %v, %v, %s, want %s", x.what, got, err, look(x.s), ahead.look())
		}
		x.behind(ahead)
		return
	}
	if !slices.EqualFunc(got, want, msg.Same) {
		x.t.Fatalf("%s: of %v it answers %v, want %v", x.what, m, got, want)
	}
	if look(x.s) != x.p.look() {
		x.t.Fatalf("%s: behind %v it is %s, want %s", x.what, m, look(x.s), x.p.look())
	}
	x.never(m, was, ahead)
	for _, out := range got {
		x.seen[msg.Name(m.Kind)+" "+msg.Name(out.Kind)]++
	}
	if !was.Whole && x.p.st.Whole {
		x.seen["made whole"]++
	}
	if x.random.Intn(3) == 0 {
		kept(x.t, x.what, x.s, x.d)
	}
}

// behind asks what is there behind a crash: what was there ahead of the call, or behind it.
func (x *run) behind(ahead *plain) {
	x.d.Crash(x.random.Perm(7)...)
	x.s = risen(x.t, x.d)
	switch look(x.s) {
	case x.p.look():
		x.seen["behind"]++
	case ahead.look():
		x.seen["ahead"]++
		x.p = ahead
	default:
		x.t.Fatalf("%s: behind a crash it is %s, want %s or %s", x.what, look(x.s), ahead.look(), x.p.look())
	}
	// What a blank one was told is gone.
	x.p.told = map[int]api.Msg{}
}

// P13.4: never is what may not be, behind m.
func (x *run) never(m api.Msg, was slog.State, ahead *plain) {
	st := x.s.State()
	if st.Promise < was.Promise || st.Installed < was.Installed || st.Installed > st.Promise || was.Whole && !st.Whole || st.Inc != was.Inc {
		x.t.Fatalf("%s: behind %v State is %v, was %v", x.what, m, st, was)
	}
	for r := range x.s.Hot().All() {
		if _, there := ahead.recs[r.LSN]; !there && m.Kind == api.Write && r.Epoch < was.Promise {
			x.t.Fatalf("%s: a Write has brought %v, though %d is promised", x.what, r, was.Promise)
		}
	}
}

// P13.2 to P13.4: a copy answers as the words have it, whatever comes, blank at first or whole, and from crash to crash.
func TestAsTheWords(t *testing.T) {
	seen := map[string]int{}
	for seed := range int64(300) {
		x := &run{t: t, random: rand.New(rand.NewSource(seed)), what: fmt.Sprint("seed ", seed), seen: seen, p: &plain{recs: map[int64]api.Redo{}, told: map[int]api.Msg{}}}
		if seed%3 == 0 {
			x.s, x.d = blank(t)
		} else {
			x.s, x.d = whole(t, 0, 0)
		}
		x.p.st = x.s.State()
		for range 120 {
			if seed%2 == 0 && x.random.Intn(4) == 0 {
				x.d.Arm(x.random.Intn(5))
			}
			x.step()
		}
	}
	for _, what := range []string{
		"write ack", "write refuse", "read refuse", "read give", "read behind", "prepare refuse", "prepare promise",
		"install refuse", "install done", "ask fill", "hydrate whole", " hydrate", " ask", "made whole", "behind", "ahead",
	} {
		if seen[what] < 20 {
			t.Errorf("%s: just %d times", what, seen[what])
		}
	}
}
