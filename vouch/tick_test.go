package vouch_test

import (
	"fmt"
	"math/rand"
	"runtime"
	"testing"
	"time"

	"vouch/api"
	"vouch/vouch"
)

func TestP11Example(t *testing.T) {
	b := begin(t, api.Config{Batch: 2, Queue: 4, Quota: 3, Delay: 3, Key: key})
	for _, x := range []string{"S0\x01a", "S0\x01b", "S1\x01c"} {
		if p, e := b.submit(x); p.Deadline != 3 || e != api.OK {
			t.Errorf("%q: deadline %d, %d", x, p.Deadline, e)
		}
	}
	b.ticks("a c")
	if b.s.Waiting() != 1 {
		t.Errorf("%d wait", b.s.Waiting())
	}
	if p, e := b.submit("S2\x01a"); p != promise(vouch.Leaf("a"), 3) || e != api.OK {
		t.Errorf("the first promise again: %#v, %d", p, e)
	}
	for _, x := range []string{"X", "S4\x01a", "S0\x00", "S0\x02a"} {
		b.answers(api.ErrRequest, x)
	}
	b.ticks("a c b")
}

// The journal and the heads of a few ticks, written out.
func TestP11WrittenOut(t *testing.T) {
	b := begin(t, api.Config{Batch: 2, Queue: 4, Quota: 3, Delay: 3, Key: key})
	b.takes("1a", "1b", "0c")
	one, _ := b.s.Tick()
	two, _ := b.s.Tick()
	three, _ := b.s.Tick()
	want := framed("VOUCH\x02\x04\x03\x03"+sum(key)) +
		framed("S1\x01a") + framed("S1\x01b") + framed("S0\x01c") +
		framed("T\x02\x00") + framed("T\x01") + framed("T")
	if got := b.s.Journal(); got != want {
		t.Errorf("the journal is %x, want %x", got, want)
	}
	l := []string{"c", "a", "b"}
	if one != head(2, 1, rootOf(l[:2])) || two != head(3, 2, rootOf(l)) || three != head(3, 3, rootOf(l)) {
		t.Errorf("heads: %#v, %#v, %#v", one, two, three)
	}
}

func TestP11Counts(t *testing.T) {
	for _, batch := range []int{1, 2, 7, 8} {
		for _, waiting := range []int{0, 1, batch - 1, batch, batch + 1, 2 * batch, 2*batch + 1} {
			b := begin(t, api.Config{Batch: batch, Queue: 24, Quota: 24, Delay: 25, Key: key})
			for i := range waiting {
				b.answers(api.OK, request(i*i%4, fmt.Sprint(i)))
			}
			for tick := 1; tick <= 4; tick++ {
				want := min(tick*batch, waiting)
				if h, e := b.tick(); e != api.OK || h.Tick != tick || h.Size != want || b.s.Waiting() != waiting-want {
					t.Errorf("Batch %d of %d: %d in the log, %d wait, %d", batch, waiting, h.Size, b.s.Waiting(), e)
				}
			}
		}
	}
}

func TestP11OrderAmongTenants(t *testing.T) {
	b := begin(t, api.Config{Batch: 1, Queue: 8, Quota: 5, Delay: 60, Key: key})
	b.takes("3a", "3b", "3c", "1d", "1e", "2f", "0g")
	b.ticks("g")
	b.ticks("g d")
	b.ticks("g d f")
	b.ticks("g d f a")
	b.ticks("g d f a e") // second, though the first of its tenant waits no more
	b.ticks("g d f a e b")
	b.ticks("g d f a e b c")
	b.ticks("g d f a e b c")
}

func TestP11OrderAmongDeadlines(t *testing.T) {
	b := begin(t, api.Config{Batch: 1, Queue: 8, Quota: 5, Delay: 9, Key: key})
	b.takes("3a", "3b", "2c")
	b.ticks("c")
	b.takes("0d", "0e", "3f") // the lesser tenant, but a later deadline
	b.ticks("c a")
	b.takes("0g", "1h")
	b.ticks("c a b") // second of its deadline, ahead of the first of a later one
	b.ticks("c a b d")
	b.ticks("c a b d f")
	b.ticks("c a b d f e")
	b.ticks("c a b d f e g")
	b.ticks("c a b d f e g h")
}

// An entry that is handed in again, or refused, is no turn of its tenant.
func TestP11OnlyWhatIsNewCounts(t *testing.T) {
	b := begin(t, api.Config{Batch: 1, Queue: 4, Quota: 2, Delay: 9, Key: key})
	b.takes("0a", "1a", "1a", "0a", "1b", "2c", "2d")
	b.answers(api.ErrBusy, request(2, "e"))
	b.ticks("a")
	b.takes("2c", "1b", "2d", "3x")
	b.answers(api.ErrBusy, request(2, "f"))
	b.ticks("a b")
	b.takes("1g")
	b.ticks("a b c")
	b.ticks("a b c d")
	b.ticks("a b c d x")
	b.ticks("a b c d x g")
}

func TestP11LastTick(t *testing.T) {
	b := begin(t, api.Config{Batch: 1, Queue: 2, Quota: 2, Delay: 3, Key: key})
	b.takes("0a")
	b.ticksTo(299)
	if h, e := b.tick(); h.Tick != 300 || e != api.OK {
		t.Errorf("the last tick: %#v, %d", h, e)
	}
	for range 3 {
		if h, e := b.tick(); h != (api.Head{}) || e != api.ErrFull {
			t.Errorf("behind the last tick: %#v, %d", h, e)
		}
	}
	b.everything()
}

// anyConfig is one that may be; half of them with the least Delay.
func anyConfig(r *rand.Rand) api.Config {
	c := api.Config{Batch: 1 + r.Intn(8), Queue: 1 + r.Intn(24), Key: keyOf(r.Intn(17))}
	c.Quota = 1 + r.Intn(c.Queue)
	least := (c.Queue+c.Batch-1)/c.Batch + 1
	c.Delay = least + r.Intn(2)*r.Intn(61-least)
	return c
}

// Any calls, held against the model; and every promise is kept by its deadline.
func TestP10ToP12AtRandom(t *testing.T) {
	r := rand.New(rand.NewSource(5))
	for range 40 {
		b := begin(t, anyConfig(r))
		var given []api.Promise
		share := r.Intn(10)
		for range 50 + r.Intn(400) {
			if r.Intn(10) >= share {
				b.tick()
				continue
			}
			p, e := b.submit(request(r.Intn(4), fmt.Sprint("entry ", r.Intn(120))))
			if e == api.OK {
				given = append(given, p)
			}
		}
		b.ticksTo(300)
		for _, p := range given {
			b.kept(p)
		}
		b.looks(r)
	}
}

// kept tells whether what Inclusion tells at the deadline shows a promise's entry.
func (b both) kept(p api.Promise) {
	b.t.Helper()
	h, e := b.s.Head(p.Deadline)
	i, list, f := b.s.Inclusion(p.Leaf, h.Size)
	if v := vouch.Audit(b.m.c.Key, p, h, i, list); v != api.Kept || e != api.OK || f != api.OK {
		b.t.Errorf("a promise by tick %d: %d, %d, %d", p.Deadline, v, e, f)
	}
}

// looks asks some of what P12 tells.
func (b both) looks(r *rand.Rand) {
	b.t.Helper()
	for range 20 {
		b.head(r.Intn(310) - 5)
		b.consistency(r.Intn(110)-5, r.Intn(110)-5)
		b.inclusion(vouch.Leaf(fmt.Sprint("entry ", r.Intn(120))), r.Intn(110)-5)
	}
}

func TestP11AllHaveEnded(t *testing.T) {
	began := runtime.NumGoroutine()
	b := begin(t, api.Config{Batch: 3, Queue: 24, Quota: 24, Delay: 60, Key: key})
	for i := range 20 {
		b.answers(api.OK, request(i%4, fmt.Sprint(i)))
	}
	b.ticksTo(300)
	for range 1000 {
		if runtime.NumGoroutine() <= began {
			return
		}
		time.Sleep(time.Millisecond)
	}
	t.Errorf("%d goroutines, %d at first", runtime.NumGoroutine(), began)
}
