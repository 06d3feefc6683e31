package vouch_test

import (
	"fmt"
	"strings"
	"testing"

	"vouch/api"
	"vouch/vouch"
)

var roomy = api.Config{Batch: 8, Queue: 24, Quota: 24, Delay: 4, Key: key}

func TestP10Requests(t *testing.T) {
	for _, n := range []int{1, 2, 23, 24} {
		for tenant := range 4 {
			b := begin(t, roomy)
			b.answers(api.OK, request(tenant, strings.Repeat("\x00", n)))
			b.answers(api.OK, request(tenant, strings.Repeat("\xff", n)))
			b.answers(api.OK, request(tenant, strings.Repeat("S0\x01", n)[:n]))
		}
	}
}

func TestP10WrongRequests(t *testing.T) {
	b := begin(t, roomy)
	long := strings.Repeat("a", 300)
	for _, text := range []string{
		"", "S", "S0", "S0\x00", "S0\x00a", "S0\x01", "S0\x02a", "S0\x01ab", "S0\x01a\x00",
		"S/\x01a", "S4\x01a", "S\x00\x01a", "S\x03\x01a", "S\xff\x01a", "S:\x01a",
		"X", "s0\x01a", "R0\x01a", "T0\x01a", "T", "\x000\x01a", " S0\x01a", "S 0\x01a", "S01a",
		"S0\x17" + long[:24], "S0\x18" + long[:23], "S0\x18" + long[:25],
		"S0\x19" + long[:25], "S0\x19" + long[:24], "S0\xff" + long[:255], "S0\x80" + long[:128],
		"S0\x01aS0\x01b", "VOUCH", long, framed("S0\x01a"), "Š0\x01a",
	} {
		b.answers(api.ErrRequest, text)
	}
	b.takes("0a")
	b.answers(api.ErrRequest, "S0\x01ab")
	b.answers(api.ErrRequest, "S4\x01a")
	b.everything()
}

// Every text that begins like a request with one byte changed, and every end of one.
func TestP10RequestsByteByByte(t *testing.T) {
	right := request(2, "abc")
	for i := range len(right) {
		for x := range 256 {
			b := begin(t, roomy)
			b.submit(right[:i] + string([]byte{byte(x)}) + right[i+1:])
		}
	}
	for n := range len(right) {
		begin(t, roomy).answers(api.ErrRequest, right[:n])
	}
}

func TestP10PromiseWrittenOut(t *testing.T) {
	for _, c := range []struct{ delay, ticks, deadline int }{{2, 0, 2}, {60, 0, 60}, {60, 240, 300}, {2, 255, 257}} {
		b := begin(t, api.Config{Batch: 1, Queue: 1, Quota: 1, Delay: c.delay, Key: key})
		b.ticksTo(c.ticks)
		if p, e := b.submit(request(3, "entry")); p != promise(vouch.Leaf("entry"), c.deadline) || e != api.OK {
			t.Errorf("Delay %d at %d: %#v, %d", c.delay, c.ticks, p, e)
		}
	}
}

func TestP10TakenBefore(t *testing.T) {
	b := begin(t, api.Config{Batch: 1, Queue: 2, Quota: 2, Delay: 3, Key: key})
	again := func(entry string, deadline int) {
		t.Helper()
		journal, waiting := b.s.Journal(), b.s.Waiting()
		for tenant := range 4 {
			if p, e := b.submit(request(tenant, entry)); p != promise(vouch.Leaf(entry), deadline) || e != api.OK {
				t.Errorf("%q of %d again: %#v, %d", entry, tenant, p, e)
			}
		}
		if b.s.Journal() != journal || b.s.Waiting() != waiting {
			t.Errorf("%q again is written, or waits", entry)
		}
	}
	b.takes("1a")
	again("a", 3)
	b.takes("1b")
	again("a", 3) // though Queue and Quota are reached
	again("b", 3)
	b.answers(api.ErrBusy, request(1, "c"))
	b.ticks("a")
	again("a", 3) // though it waits no more
	again("b", 3) // though a new one would have a later deadline
	b.takes("2c")
	again("c", 4)
	b.ticksTo(300)
	again("a", 3) // though time is at its end
	b.answers(api.ErrFull, request(0, "d"))
}

// What was refused has not been taken: it is new when it is handed in again.
func TestP10RefusedIsNotTaken(t *testing.T) {
	b := begin(t, api.Config{Batch: 1, Queue: 1, Quota: 1, Delay: 2, Key: key})
	b.takes("0a")
	b.answers(api.ErrBusy, request(0, "b"))
	b.answers(api.ErrBusy, request(1, "b"))
	b.ticks("a")
	if p, e := b.submit(request(1, "b")); p.Deadline != 3 || e != api.OK {
		t.Errorf("deadline %d, %d, want 3", p.Deadline, e)
	}
	b.ticks("a b")
}

// Entries that are like others, but not the same bytes.
func TestP10LikeEntriesAreNew(t *testing.T) {
	b := begin(t, roomy)
	list := []string{"a", "A", "a\x00", "\x00a", "aa", " a", "é", "e\u0301", "\xff", "\xfe", "0", "\x00", "\x00\x00"}
	for i, entry := range list {
		b.answers(api.OK, request(i%4, entry))
	}
	if b.s.Waiting() != len(list) {
		t.Errorf("%d wait, want %d", b.s.Waiting(), len(list))
	}
}

func TestP10Queue(t *testing.T) {
	for _, queue := range []int{1, 2, 23, 24} {
		b := begin(t, api.Config{Batch: 8, Queue: queue, Quota: queue, Delay: 4, Key: key})
		for i := range queue {
			b.answers(api.OK, request(i%4, fmt.Sprint(i)))
		}
		for tenant := range 4 {
			b.answers(api.ErrBusy, request(tenant, "more"))
		}
		b.tick()
		b.answers(api.OK, request(0, "more"))
	}
}

func TestP10Quota(t *testing.T) {
	b := begin(t, api.Config{Batch: 2, Queue: 9, Quota: 2, Delay: 6, Key: key})
	for tenant := range 4 {
		b.answers(api.OK, request(tenant, fmt.Sprint("one of ", tenant)))
		b.answers(api.OK, request(tenant, fmt.Sprint("two of ", tenant)))
		b.answers(api.ErrBusy, request(tenant, "more"))
	}
	b.tick() // takes one of 0 and one of 1
	for tenant, want := range []api.Errno{api.OK, api.OK, api.ErrBusy, api.ErrBusy} {
		b.answers(want, request(tenant, fmt.Sprint("three of ", tenant)))
		b.answers(api.ErrBusy, request(tenant, "more"))
	}
}

// MaxLog entries, wherever they are: the error is ErrFull, though Queue entries wait.
func TestP10LogAtItsEnd(t *testing.T) {
	b := begin(t, roomy)
	for i := range 76 {
		b.answers(api.OK, request(i%4, fmt.Sprint(i)))
		if i%8 == 7 {
			b.tick()
		}
	}
	b.tick()
	for i := 76; i < 99; i++ {
		b.answers(api.OK, request(1, fmt.Sprint(i)))
	}
	b.answers(api.OK, request(3, "the last"))
	for b.s.Waiting() > 0 {
		b.answers(api.ErrFull, request(0, "more"))
		b.answers(api.OK, request(0, "the last"))
		b.answers(api.ErrRequest, "more")
		b.tick()
	}
	b.answers(api.ErrFull, request(0, "more"))
	if h, e := b.tick(); h.Size != 100 || e != api.OK {
		t.Errorf("%d entries, %d", h.Size, e)
	}
}

func TestP10TimeAtItsEnd(t *testing.T) {
	for _, delay := range []int{3, 4, 59, 60} {
		b := begin(t, api.Config{Batch: 1, Queue: 2, Quota: 1, Delay: delay, Key: key})
		b.ticksTo(300 - delay)
		b.takes("0in time", "1in time too")
		b.answers(api.ErrBusy, request(0, "more"))
		b.tick()
		b.answers(api.ErrFull, request(0, "late"))
		b.answers(api.ErrFull, request(1, "late")) // though Quota of it wait
		b.answers(api.OK, request(1, "in time"))
		b.answers(api.ErrRequest, "late")
		b.tick()
		b.answers(api.ErrFull, request(0, "late"))
	}
}
