package vouch_test

import (
	"fmt"
	"slices"
	"testing"

	"vouch/api"
	"vouch/vouch"
)

// isDown asks every call of a server that must be down, with all that this was
// written, and sees that nothing comes of them.
func isDown(t *testing.T, s *vouch.Server, journal string) {
	t.Helper()
	for _, n := range []int{-1, 0, 1, 2, 1000} {
		for _, text := range []string{"", "S0\x01a", request(3, "never seen"), "any", vouch.Leaf("a")} {
			downCalls(t, s, n, text)
			if s.Journal() != journal {
				t.Fatalf("the journal is %x, want %x", s.Journal(), journal)
			}
		}
	}
}

// downCalls are the calls that answer ErrDown, or nothing, once each.
func downCalls(t *testing.T, s *vouch.Server, n int, text string) {
	t.Helper()
	p, a := s.Submit(text)
	h, b := s.Tick()
	g, c := s.Head(n)
	i, list, d := s.Inclusion(text, n)
	other, e := s.Consistency(n, n)
	if got, want := []api.Errno{a, b, c, d, e, s.Stop(n)}, slices.Repeat([]api.Errno{api.ErrDown}, 6); !slices.Equal(got, want) {
		t.Fatalf("the calls answer %d", got)
	}
	if p != (api.Promise{}) || h != (api.Head{}) || g != h || i != 0 || len(list) > 0 || len(other) > 0 || s.Waiting() != 0 {
		t.Fatal("something beside ErrDown")
	}
}

// Less than a frame, just a frame, and more.
func TestP9AroundAFrame(t *testing.T) {
	for _, c := range []struct {
		name  string
		frame string
		call  func(b both) api.Errno
	}{
		{"Submit", framed("S2\x01z"), func(b both) api.Errno { _, e := b.submit("S2\x01z"); return e }},
		{"Tick", framed("T\x00\x02"), func(b both) api.Errno { _, e := b.tick(); return e }},
	} {
		for _, after := range []int{-1 << 62, -100, -1, 0, 1, 2, 5, 6, 7, len(c.frame) - 5, len(c.frame) - 1} {
			b := begin(t, tight)
			b.takes("0a", "0b", "1c")
			begun := b.s.Journal()
			b.stop(after)
			b.everything()
			if e := c.call(b); e != api.ErrDown {
				t.Errorf("%s behind Stop(%d): %d", c.name, after, e)
			}
			b.everything()
			isDown(t, b.s, begun+c.frame[:max(after, 0)])
		}
		for _, more := range []int{0, 1, 2, 9, 11} {
			b := begin(t, tight)
			b.takes("0a", "0b", "1c")
			begun := b.s.Journal()
			b.stop(len(c.frame) + more)
			if e := c.call(b); e != api.OK || b.s.Journal() != begun+c.frame {
				t.Errorf("%s, %d bytes more than it needs: %d, %x", c.name, more, e, b.s.Journal())
			}
			b.everything()
			b.tick()
			isDown(t, b.s, b.m.journal)
			if got := len(b.s.Journal()); got != len(begun)+len(c.frame)+more {
				t.Errorf("%d bytes are written, %d more than %d", got, more, len(begun)+len(c.frame))
			}
		}
	}
}

// All calls in one row, the journal stopping at each byte; every call is held
// against the model on both sides of the stop.
func TestP9AtEveryByte(t *testing.T) {
	for after := -1; after <= 250; after++ {
		b := begin(t, tight)
		b.stop(after)
		for i := range 18 {
			if i%3 == 2 {
				b.tick()
			} else {
				b.submit(request(i%4, fmt.Sprint(i)))
			}
			b.submit(request(3, "0"))
			b.submit("none")
			b.everything()
		}
		if !b.m.down || len(b.s.Journal()) != len(ofTight)+max(after, 0) {
			t.Errorf("Stop(%d): %d bytes are written", after, len(b.s.Journal()))
		}
		isDown(t, b.s, b.m.journal)
	}
}

// Between Stop(0) and the call that would write all is as ever.
func TestP9NothingLeft(t *testing.T) {
	b := begin(t, tight)
	b.takes("0a", "0b", "0c", "1d")
	b.tick()
	b.takes("0e")
	b.stop(0)
	for range 3 {
		b.everything()
		b.takes("0a", "3a", "1d", "0e", "2b")
		b.answers(api.ErrRequest, "none")
		b.answers(api.ErrRequest, "S4\x01z")
		b.answers(api.ErrBusy, request(0, "z"))
		b.stop(0)
		b.stop(-5)
	}
	if b.s.Waiting() != 3 {
		t.Errorf("%d wait", b.s.Waiting())
	}
	b.answers(api.ErrDown, request(1, "z"))
	isDown(t, b.s, b.m.journal)
}

// A call that is refused writes nothing, and so does not find that the journal has stopped.
func TestP9RefusedAheadOfTheStop(t *testing.T) {
	b := begin(t, tight)
	b.takes("1a")
	b.ticksTo(300)
	b.stop(0)
	for range 3 {
		if _, e := b.tick(); e != api.ErrFull {
			t.Errorf("Tick: %d, want %d", e, api.ErrFull)
		}
		b.answers(api.ErrFull, request(0, "z"))
		b.answers(api.OK, request(0, "a"))
	}
	b.everything()

	full := grown(t, 100)
	full.stop(0)
	full.answers(api.ErrFull, request(0, "z"))
	full.everything()
	full.tick()
	isDown(t, full.s, full.m.journal)

	queue := begin(t, tight)
	queue.takes("0a", "0b", "1c", "2d")
	queue.stop(13)
	queue.answers(api.ErrBusy, request(3, "z"))
	queue.everything()
	queue.tick()
	queue.answers(api.ErrDown, request(3, "z"))
	isDown(t, queue.s, queue.m.journal)
}

func TestP9LaterStop(t *testing.T) {
	for _, c := range []struct {
		stops []int
		takes int // how many requests, of 14 bytes each, are taken before the next is cut
		part  int // how much is written of that
	}{
		{[]int{0, 14}, 1, 0},
		{[]int{0, 27}, 1, 13},
		{[]int{500, 0}, 0, 0},
		{[]int{500, 13}, 0, 13},
		{[]int{14, 14}, 1, 0},
		{[]int{5, 500, 30}, 2, 2},
		{[]int{28, -1}, 0, 0},
		{[]int{1 << 62, 3}, 0, 3},
		{[]int{3, -1 << 62, 1 << 62, 17}, 1, 3},
	} {
		b := begin(t, roomy)
		for _, after := range c.stops {
			b.stop(after)
		}
		for i := range c.takes {
			b.takes(fmt.Sprint("0", i))
		}
		was := b.s.Journal()
		b.answers(api.ErrDown, "S0\x01z")
		isDown(t, b.s, was+framed("S0\x01z")[:c.part])
	}
}

// A later Stop counts from what is written by then.
func TestP9LaterStopCountsAnew(t *testing.T) {
	b := begin(t, roomy)
	b.stop(20)
	b.takes("0a")
	b.stop(20)
	b.takes("0b")
	b.stop(40)
	b.takes("0c", "0d")
	b.answers(api.ErrDown, "S0\x01e")
	isDown(t, b.s, joined("VOUCH\x08\x18\x18\x04"+sum(key), "S0\x01a", "S0\x01b", "S0\x01c", "S0\x01d")+framed("S0\x01e")[:12])
}

// Far off is the same as never.
func TestP9FarOff(t *testing.T) {
	for _, after := range []int{1 << 31, 1 << 32, 1<<63 - 1} {
		b := begin(t, tight)
		b.stop(after)
		b.takes("0a", "1b")
		b.ticksTo(300)
		b.everything()
	}
}

func TestP9StopIsOfOneServer(t *testing.T) {
	a, b := begin(t, tight), begin(t, tight)
	a.takes("0a")
	a.stop(3)
	on := opened(t, key, a.s.Journal(), a.s.Journal())
	a.tick()
	for _, other := range []both{b, on, opened(t, key, a.s.Journal(), on.s.Journal())} {
		other.takes("0b", "1c")
		other.tick()
		other.everything()
	}
	isDown(t, a.s, a.m.journal)
}

// The calls that name no server answer as ever behind a stop.
func TestP9WithoutAServer(t *testing.T) {
	b := begin(t, tight)
	p, _ := b.submit("S0\x01a")
	h, _ := b.tick()
	b.stop(0)
	b.tick()
	if got := vouch.Audit(key, p, h, 0, nil); got != api.Kept {
		t.Errorf("Audit: %d", got)
	}
	if got := vouch.Compare(key, h, h, nil); got != api.Kept {
		t.Errorf("Compare: %d", got)
	}
	if vouch.Leaf("a") != p.Leaf || vouch.Root([]string{"a"}) != h.Root || vouch.Tag(key, "P"+p.Leaf+number(3)) != p.Tag {
		t.Error("Leaf, Root or Tag")
	}
	begin(t, tight).takes("0a")
	opened(t, key, b.s.Journal(), b.s.Journal()).everything()
}

// An opened server can be stopped, at any byte, as any other.
func TestP9OfAnOpenedServer(t *testing.T) {
	whole := lively(t).s.Journal()
	for after := range 39 {
		b := opened(t, key, whole, whole)
		b.stop(after)
		b.tick()
		b.submit("S0\x01z")
		b.tick()
		b.everything()
		isDown(t, b.s, b.m.journal)
	}
}
