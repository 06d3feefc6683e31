package vouch_test

import (
	"fmt"
	"testing"

	"vouch/api"
	"vouch/vouch"
)

// grown is a server with so many entries in its log, one behind the other.
func grown(t *testing.T, n int) both {
	t.Helper()
	b := begin(t, api.Config{Batch: 1, Queue: 1, Quota: 1, Delay: 2, Key: key})
	for i := range n {
		b.answers(api.OK, request(i%4, fmt.Sprint("entry ", i)))
		b.tick()
	}
	return b
}

func TestP12AtEverySize(t *testing.T) {
	for n := range 18 {
		grown(t, n).everything()
	}
	grown(t, 33).everything()
}

func TestP12OfAFullLog(t *testing.T) {
	b := grown(t, 100)
	for _, n := range []int{0, 1, 2, 3, 31, 32, 33, 63, 64, 65, 99, 100, 101, 102} {
		for _, m := range []int{0, 1, 2, 3, 31, 32, 33, 63, 64, 65, 99, 100, 101, 102} {
			b.consistency(m, n)
			b.inclusion(vouch.Leaf(fmt.Sprint("entry ", m)), n)
		}
	}
}

func TestP12Heads(t *testing.T) {
	b := begin(t, roomy)
	b.head(1)
	for tick := 1; tick <= 300; tick++ {
		b.tick()
		b.head(0)
		b.head(tick)
		b.head(tick + 1)
		b.head(1)
	}
}

// A head stays as it was published, though the log has grown since.
func TestP12HeadsStay(t *testing.T) {
	b := begin(t, roomy)
	var heads []api.Head
	for i := range 12 {
		b.takes(fmt.Sprint("1", i), fmt.Sprint("2more ", i))
		h, _ := b.tick()
		heads = append(heads, h)
		for k, want := range heads {
			if got, e := b.s.Head(k + 1); got != want || e != api.OK {
				t.Errorf("Head(%d) at %d: %#v, %d", k+1, i+1, got, e)
			}
		}
	}
}

func TestP12Waiting(t *testing.T) {
	b := begin(t, api.Config{Batch: 2, Queue: 5, Quota: 3, Delay: 4, Key: key})
	waits := func(want int) {
		t.Helper()
		if got := b.s.Waiting(); got != want {
			t.Errorf("%d wait, want %d", got, want)
		}
	}
	waits(0)
	b.takes("0a", "0b", "0c", "1d", "2e")
	waits(5)
	b.answers(api.ErrBusy, request(3, "f"))
	waits(5)
	b.tick()
	waits(3)
	b.tick()
	b.tick()
	waits(0)
	b.tick()
	waits(0)
}

// What waits is not in the log: it is found when a tick has taken it, and not
// among the entries ahead of it.
func TestP12InclusionFindsOnlyTheLog(t *testing.T) {
	b := begin(t, api.Config{Batch: 1, Queue: 4, Quota: 4, Delay: 5, Key: key})
	b.takes("0a", "0b")
	none := func(leaf string, size int) {
		t.Helper()
		if i, list, e := b.s.Inclusion(leaf, size); i != 0 || list != nil || e != api.ErrNone {
			t.Errorf("Inclusion(%x, %d): %d, %x, %d", leaf, size, i, list, e)
		}
	}
	a, c := vouch.Leaf("a"), vouch.Leaf("b")
	none(a, 0)
	none(a, 1)
	b.tick()
	none(c, 1)
	none(c, 2)
	none(a, 2)
	b.inclusion(a, 1)
	b.tick()
	none(c, 1)
	none(c, 3)
	b.inclusion(c, 2)
	for _, leaf := range []string{"", "a", "b", a[:31], a + "\x00", a + c, rootOf([]string{"a", "b"}), sum("a"), vouch.Leaf(a)} {
		none(leaf, 1)
		none(leaf, 2)
	}
}

func TestP12AtOddNumbers(t *testing.T) {
	b := grown(t, 5)
	for _, n := range oddNumbers {
		b.head(n)
		b.inclusion(vouch.Leaf("entry 0"), n)
		for _, m := range oddNumbers {
			b.consistency(m, n)
		}
	}
	b.everything()
}

// What is told holds for who looks: with the heads, for every two sizes.
func TestP12IsKept(t *testing.T) {
	b := grown(t, 20)
	for n := 1; n <= 20; n++ {
		now, _ := b.s.Head(n)
		for m := 1; m <= n; m++ {
			old, _ := b.s.Head(m)
			list, _ := b.s.Consistency(m, n)
			compare(t, "told", api.Kept, old, now, list)
			p := promise(vouch.Leaf(fmt.Sprint("entry ", m-1)), n)
			i, list, _ := b.s.Inclusion(p.Leaf, n)
			audit(t, "told", api.Kept, p, now, i, list)
		}
	}
}
