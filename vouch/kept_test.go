package vouch_test

import (
	"fmt"
	"math/rand"
	"slices"
	"testing"

	"vouch/api"
	"vouch/vouch"
)

// history is what a server, and those that were opened on its journal one
// behind the other, have promised and published.
type history struct {
	given []api.Promise
	heads []api.Head
}

const tick = "tick"

// ask tells whether the server was still up behind what was asked.
func (h *history) ask(b both, what string) bool {
	b.t.Helper()
	if what == tick {
		head, e := b.tick()
		if e == api.OK {
			h.heads = append(h.heads, head)
		}
		return e != api.ErrDown
	}
	p, e := b.submit(what)
	if e == api.OK {
		h.given = append(h.given, p)
	}
	return e != api.ErrDown
}

// askAgain asks it of a server that is opened on what was written, if the
// journal stops at it.
func (h *history) askAgain(b both, what string) both {
	b.t.Helper()
	for !h.ask(b, what) {
		b = b.reopened()
	}
	return b
}

// reopened is a server on what a server has written.
func (b both) reopened() both {
	b.t.Helper()
	on, ok := opens(b.t, b.m.c.Key, b.s.Journal())
	if !ok {
		b.t.Fatalf("no server on %x", b.s.Journal())
	}
	return on
}

// holds sees that the last server keeps all that was promised, by the head of
// the deadline and by the last one, and that all heads are in order.
func (h *history) holds(b both) {
	b.t.Helper()
	last := h.heads[len(h.heads)-1]
	for i, head := range h.heads {
		if head.Tick != i+1 {
			b.t.Fatalf("head %d is of tick %d", i, head.Tick)
		}
		if got, e := b.s.Head(head.Tick); got != head || e != api.OK {
			b.t.Fatalf("Head(%d): %#v, %d, want %#v", head.Tick, got, e, head)
		}
		b.inOrder(h.heads[max(i-1, 0)], head)
		b.inOrder(head, last)
	}
	for _, p := range h.given {
		b.keeps(p, h.heads[p.Deadline-1])
		b.keeps(p, last)
	}
}

// holdsAll looks at every promise by every head from its deadline on, and at
// every two heads.
func (h *history) holdsAll(b both) {
	b.t.Helper()
	h.holds(b)
	for i, head := range h.heads {
		for _, p := range h.given {
			if head.Tick >= p.Deadline {
				b.keeps(p, head)
			}
		}
		for _, old := range h.heads[:i+1] {
			b.inOrder(old, head)
		}
	}
}

func (b both) keeps(p api.Promise, h api.Head) {
	b.t.Helper()
	i, list, e := b.s.Inclusion(p.Leaf, h.Size)
	if v := vouch.Audit(b.m.c.Key, p, h, i, list); v != api.Kept || e != api.OK {
		b.t.Fatalf("a promise by tick %d, by the head of tick %d: %d, %d", p.Deadline, h.Tick, v, e)
	}
}

func (b both) inOrder(old, now api.Head) {
	b.t.Helper()
	list, _ := b.s.Consistency(old.Size, now.Size)
	if v := vouch.Compare(b.m.c.Key, old, now, list); v != api.Kept {
		b.t.Fatalf("heads %#v and %#v: %d", old, now, v)
	}
}

// asks is a row of what may be asked: the queue is full now and then, and some is asked twice.
func asks() []string {
	var all []string
	for i := range 24 {
		all = append(all, request(i*i%4, fmt.Sprint("entry ", i-i%5/4)))
		if i%3 == 2 || i > 18 {
			all = append(all, tick)
		}
	}
	return append(all, tick, tick, tick, tick)
}

// One stop, at every byte; who is answered ErrDown asks again.
func TestP13AndP14AtEveryStop(t *testing.T) {
	whole := begin(t, tight)
	for _, what := range asks() {
		new(history).ask(whole, what)
	}
	stops := len(whole.s.Journal()) - len(ofTight)
	if stops < 300 {
		t.Fatalf("only %d stops", stops)
	}
	for after := range stops {
		h, b := &history{}, begin(t, tight)
		b.stop(after)
		for _, what := range asks() {
			b = h.askAgain(b, what)
		}
		if after%13 == 0 {
			h.holdsAll(b)
		}
		h.holds(b)
		if b.s.Journal() != whole.s.Journal() {
			t.Fatalf("Stop(%d): asked again, what is written is another", after)
		}
		if len(h.given) < 10 || len(h.heads) < 10 {
			t.Fatalf("%d promises, %d heads", len(h.given), len(h.heads))
		}
	}
}

// One stop, at every byte; what was answered ErrDown is not asked again, and a
// new server promises, publishes and writes from there on.
func TestP13AndP14GoOnBehindEveryStop(t *testing.T) {
	for after := range 300 {
		h, b := &history{}, begin(t, tight)
		b.stop(after)
		for _, what := range asks() {
			if !h.ask(b, what) {
				b = b.reopened()
				b.everything()
				h.ask(b, request(after%4, "another"))
			}
		}
		b.everything()
		h.holds(b)
	}
}

// Every server of a row stops; each writes a little more than the one before it.
func TestP13AndP14WithStopsAllOver(t *testing.T) {
	for step := range 30 {
		h, b, stops := &history{}, begin(t, tight), 0
		b.stop(step)
		for _, what := range asks() {
			for !h.ask(b, what) {
				stops++
				b = b.reopened()
				b.stop(step + 3*stops)
			}
		}
		h.holdsAll(b)
		if stops < 6 {
			t.Errorf("only %d stops", stops)
		}
	}
}

// Many stops, one behind the other, at any bytes; with any configuration, and to the end of time.
func TestP13AndP14AcrossManyStops(t *testing.T) {
	r := rand.New(rand.NewSource(13))
	for range 30 {
		h, b := &history{}, begin(t, anyConfig(r))
		share, stops := 1+r.Intn(9), 0
		for range 150 {
			if r.Intn(4) == 0 {
				b.stop(r.Intn(60) - 5)
			}
			what := request(r.Intn(4), fmt.Sprint("entry ", r.Intn(120)))
			if r.Intn(10) >= share {
				what = tick
			}
			if !h.ask(b, what) {
				stops++
				b = b.reopened()
			}
		}
		for range b.m.c.Delay {
			b = h.askAgain(b, tick)
		}
		h.holds(b)
		if stops < 5 {
			t.Errorf("only %d stops", stops)
		}
	}
}

// A promise that was answered with ErrDown was not given: nothing of it is in the log.
func TestP13OnlyOfWhatWasAnswered(t *testing.T) {
	for after := range 14 {
		b := begin(t, tight)
		b.stop(after)
		b.answers(api.ErrDown, "S0\x01a")
		b = opened(t, key, b.s.Journal(), ofTight)
		b.ticks("")
		b.takes("0a")
		b.ticks("a")
		if p, _ := b.submit("S1\x01a"); p.Deadline != 4 {
			t.Errorf("Stop(%d): deadline %d", after, p.Deadline)
		}
	}
}

// A full queue with the least Delay, where every tick counts, stopped at every tick.
func TestP13AtTheLeastDelay(t *testing.T) {
	for _, c := range []api.Config{
		{Batch: 1, Queue: 24, Quota: 24, Delay: 25, Key: key},
		{Batch: 8, Queue: 24, Quota: 24, Delay: 4, Key: key},
		{Batch: 7, Queue: 24, Quota: 6, Delay: 5, Key: key},
		{Batch: 1, Queue: 1, Quota: 1, Delay: 2, Key: ""},
	} {
		h, b := &history{}, begin(t, c)
		for i := range 100 {
			b = h.askAgain(b, request(i%4, fmt.Sprint(i)))
			if b.s.Waiting() == c.Queue {
				b.stop(i % 11)
				b = h.askAgain(b, tick)
			}
		}
		for range c.Delay {
			b.stop(9)
			b = h.askAgain(b, tick)
		}
		if len(h.given) < 24 {
			t.Errorf("%d promises", len(h.given))
		}
		h.holds(b)
	}
}

// same sees that two servers answer the same, without a change.
func same(t *testing.T, a, b *vouch.Server, leaves []string) {
	t.Helper()
	if a.Journal() != b.Journal() || a.Waiting() != b.Waiting() {
		t.Fatalf("%x and %x, %d and %d wait", a.Journal(), b.Journal(), a.Waiting(), b.Waiting())
	}
	for n := range 14 {
		h, e := a.Head(n)
		g, f := b.Head(n)
		if h != g || e != f {
			t.Fatalf("Head(%d): %#v, %d and %#v, %d", n, h, e, g, f)
		}
		for m := range 14 {
			list, e := a.Consistency(m, n)
			other, f := b.Consistency(m, n)
			if !slices.Equal(list, other) || e != f {
				t.Fatalf("Consistency(%d, %d): %x, %d and %x, %d", m, n, list, e, other, f)
			}
		}
		for _, leaf := range leaves {
			i, list, e := a.Inclusion(leaf, n)
			j, other, f := b.Inclusion(leaf, n)
			if i != j || !slices.Equal(list, other) || e != f {
				t.Fatalf("Inclusion: %d, %x, %d and %d, %x, %d", i, list, e, j, other, f)
			}
		}
	}
}

// At each call a server is opened on the journal; all go on beside each other.
func TestP15(t *testing.T) {
	var leaves []string
	for i := range 12 {
		leaves = append(leaves, vouch.Leaf(fmt.Sprint("entry ", i)))
	}
	s, _ := vouch.New(tight)
	var all []*vouch.Server
	for _, what := range asks()[:16] {
		x, e := vouch.Open(key, s.Journal())
		if x == nil || e != api.OK {
			t.Fatalf("Open: %d", e)
		}
		all = append(all, x)
		p, e, h, f := askOne(s, what)
		for _, x := range all {
			if q, g, i, k := askOne(x, what); q != p || g != e || i != h || k != f {
				t.Fatalf("%q: %#v, %d, %#v, %d, want %#v, %d, %#v, %d", what, q, g, i, k, p, e, h, f)
			}
			same(t, s, x, leaves)
		}
	}
}

func askOne(s *vouch.Server, what string) (p api.Promise, e api.Errno, h api.Head, f api.Errno) {
	if what == tick {
		h, f = s.Tick()
	} else {
		p, e = s.Submit(what)
	}
	return p, e, h, f
}

// A server that is opened on the journal of one that is down is as that one was
// ahead of the call at which its journal stopped.
func TestP15BehindAStop(t *testing.T) {
	for after := range 200 {
		b := begin(t, tight)
		b.stop(after)
		var was *model
		for _, what := range asks() {
			was = b.m.copied()
			if !new(history).ask(b, what) {
				break
			}
		}
		on := opened(t, key, b.s.Journal(), was.journal)
		was.end = -1
		on.m = was
		on.everything()
		on.submit(request(after%4, "new"))
		on.tick()
		on.everything()
	}
}
