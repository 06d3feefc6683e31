package vouch_test

import (
	"math"
	"strings"
	"testing"

	"vouch/api"
	"vouch/vouch"
)

func keyOf(n int) string { return strings.Repeat("k", n) }

func TestP7AtItsLimits(t *testing.T) {
	for _, c := range []struct {
		batch, queue, quota, delay, key int
		may                             bool
	}{
		{1, 1, 1, 2, 0, true},
		{0, 1, 1, 2, 0, false},
		{-1, 1, 1, 2, 0, false},
		{8, 24, 24, 60, 16, true},
		{9, 24, 24, 60, 16, false},
		{8, 25, 24, 60, 16, false},
		{8, 0, 0, 60, 16, false},
		{8, 0, 1, 60, 16, false},
		{8, -1, -1, 60, 16, false},
		{8, 24, 25, 60, 16, false},
		{8, 24, 0, 60, 16, false},
		{8, 24, 1, 60, 16, true},
		{8, 24, -1, 60, 16, false},
		{8, 5, 5, 60, 16, true},
		{8, 5, 6, 60, 16, false},
		{8, 24, 24, 61, 16, false},
		{8, 24, 24, 60, 17, false},
		{8, 24, 24, 60, 1000, false},
		// the least delay: where the division is even, and beside it
		{8, 24, 24, 4, 0, true},
		{8, 24, 24, 3, 0, false},
		{8, 17, 1, 4, 0, true},
		{8, 17, 1, 3, 0, false},
		{8, 16, 1, 3, 0, true},
		{8, 16, 1, 2, 0, false},
		{8, 15, 1, 3, 0, true},
		{8, 15, 1, 2, 0, false},
		{8, 7, 1, 2, 0, true},
		{8, 7, 1, 1, 0, false},
		{1, 24, 1, 25, 0, true},
		{1, 24, 1, 24, 0, false},
		{2, 5, 1, 4, 0, true},
		{2, 5, 1, 3, 0, false},
		{1, 1, 1, 1, 0, false},
		{1, 1, 1, 0, 0, false},
		{1, 1, 1, -1, 0, false},
	} {
		config := api.Config{Batch: c.batch, Queue: c.queue, Quota: c.quota, Delay: c.delay, Key: keyOf(c.key)}
		if c.may {
			begin(t, config)
		} else {
			refused(t, config)
		}
	}
}

func refused(t *testing.T, c api.Config) {
	t.Helper()
	if s, e := vouch.New(c); s != nil || e != api.ErrConfig {
		t.Errorf("New(%#v): %d, want %d", c, e, api.ErrConfig)
	}
}

// Numbers whose lowest byte would pass, and the ends of what a number can be.
func TestP7OfOddNumbers(t *testing.T) {
	right := api.Config{Batch: 2, Queue: 4, Quota: 3, Delay: 3, Key: key}
	for _, odd := range []int{256, -256, 1 << 32, math.MinInt, math.MaxInt, math.MinInt + 1, math.MaxInt - 5} {
		for i := range 4 {
			c := right
			field := []*int{&c.Batch, &c.Queue, &c.Quota, &c.Delay}[i]
			*field = odd
			refused(t, c)
			*field += 3
			refused(t, c)
		}
	}
}

func TestP7NewServerIsEmpty(t *testing.T) {
	for _, k := range []string{"", key, "\x00", strings.Repeat("\xff", 16)} {
		b := begin(t, api.Config{Batch: 8, Queue: 24, Quota: 7, Delay: 60, Key: k})
		b.everything()
		if got, want := b.s.Journal(), framed("VOUCH\x08\x18\x07\x3c"+sum(k)); got != want {
			t.Errorf("the journal is %x, want %x", got, want)
		}
		if b.s.Waiting() != 0 {
			t.Errorf("%d wait", b.s.Waiting())
		}
		b.ticks("")
	}
}
