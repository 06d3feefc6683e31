package vouch_test

import (
	"math"
	"math/rand"
	"strings"
	"testing"

	"vouch/api"
	"vouch/vouch"
)

func compare(t *testing.T, what string, want api.Verdict, old, now api.Head, list []string) {
	t.Helper()
	if got := vouch.Compare(key, old, now, list); got != want {
		t.Errorf("%s: %d to %d with %d hashes: %d, want %d", what, old.Size, now.Size, len(list), got, want)
	}
}

func TestP6KeptAtEverySize(t *testing.T) {
	for _, n := range sizes {
		l := entries(n)
		for m := 1; m <= n; m++ {
			compare(t, "kept", api.Kept, head(m, 3, rootOf(l[:m])), head(n, 5, rootOf(l)), showsStart(m, l, true))
		}
	}
}

// Which of the two heads has the lesser tick is nothing that Compare looks at.
func TestP6TicksDoNotCount(t *testing.T) {
	l := entries(3)
	compare(t, "later first", api.Kept, head(2, 9, rootOf(l[:2])), head(3, 1, rootOf(l)), showsStart(2, l, true))
}

func TestP4CompareOfSpoiledLists(t *testing.T) {
	for _, n := range sizes {
		l := entries(n)
		for m := 1; m <= n; m++ {
			for _, list := range spoiled(showsStart(m, l, true)) {
				compare(t, "spoiled", api.Broken, head(m, 3, rootOf(l[:m])), head(n, 5, rootOf(l)), list)
			}
		}
	}
}

func TestP4CompareOfWrongRoots(t *testing.T) {
	for _, n := range sizes {
		l := entries(n)
		for m := 1; m <= n; m++ {
			old, now, list := head(m, 3, rootOf(l[:m])), head(n, 5, rootOf(l)), showsStart(m, l, true)
			compare(t, "old root", api.Broken, head(m, 3, sum("other")), now, list)
			compare(t, "no old root", api.Broken, head(m, 3, ""), now, list)
			compare(t, "new root", api.Broken, old, head(n, 5, sum("other")), list)
			if m < n {
				compare(t, "swapped roots", api.Broken, head(m, 3, now.Root), head(n, 5, old.Root), list)
				compare(t, "swapped heads", api.Broken, now, old, list)
				compare(t, "the old root in the list", api.Broken, old, now, with(list, 0, old.Root))
			}
		}
	}
}

// A log that was written anew from some place on can't be shown to have grown.
func TestP6RewrittenLog(t *testing.T) {
	for m := 1; m <= 8; m++ {
		was, is := entries(8), entries(8)
		was[m-1] = "taken back"
		compare(t, "rewritten", api.Broken, head(m, 3, rootOf(was[:m])), head(8, 5, rootOf(is)), showsStart(m, is, true))
		compare(t, "rewritten", api.Broken, head(m, 3, rootOf(was[:m])), head(8, 5, rootOf(is)), showsStart(m, was, true))
	}
}

func TestP6FromNothing(t *testing.T) {
	empty := head(0, 1, rootOf(nil))
	for _, n := range append(sizes, 0, -1, 1<<30+1, math.MaxInt, math.MinInt) {
		now := head(n, 5, "any")
		compare(t, "no list", api.Kept, empty, now, nil)
		compare(t, "an empty list", api.Kept, empty, now, []string{})
		compare(t, "an old root that is none", api.Kept, head(0, 1, "any"), now, nil)
		compare(t, "a hash", api.Broken, empty, now, []string{"any"})
		compare(t, "an empty hash", api.Broken, empty, now, []string{""})
	}
}

func TestP6SizesAtTheirEdges(t *testing.T) {
	r := rand.New(rand.NewSource(2))
	for _, n := range []int{1<<30 - 1, 1 << 30} {
		for _, m := range []int{1, 2, 3, 1<<29 - 1, 1 << 29, 1<<29 + 1, n / 3, n - 1, n} {
			list, old, now := fittingStartList(r, m, n)
			compare(t, "great sizes", api.Kept, head(m, 3, old), head(n, 5, now), list)
			compare(t, "great sizes, one more", api.Broken, head(m, 3, old), head(n, 5, now), with(list, 0, "x"))
			if len(list) > 0 {
				compare(t, "great sizes, one fewer", api.Broken, head(m, 3, old), head(n, 5, now), without(list, 0))
			}
		}
	}
	for _, n := range []int{1<<30 + 1, 1 << 31, 1<<32 + 1, 1 << 40} {
		for _, m := range []int{1, 3, 1 << 30, n - 1, n} {
			list, old, now := fittingStartList(r, m, n)
			compare(t, "too great a size", api.Broken, head(m, 3, old), head(n, 5, now), list)
		}
	}
	for _, m := range []int{-1, -2, 4, 1 << 30, math.MaxInt, math.MinInt} {
		compare(t, "old size out of range", api.Broken, head(m, 3, "any"), head(3, 5, "any"), nil)
	}
	for _, n := range []int{0, -1, math.MinInt} {
		compare(t, "new size below old", api.Broken, head(1, 3, "any"), head(n, 5, "any"), nil)
		compare(t, "both below 0", api.Broken, head(-1, 3, "any"), head(n, 5, "any"), nil)
	}
}

// fittingStartList is a list of as many strings as there must be, and the two roots that it makes.
func fittingStartList(r *rand.Rand, m, n int) (list []string, old, now string) {
	for count := 0; ; count++ {
		list = anyStrings(r, count)
		if old, now, ok := climbStart(list, "old", m, n); ok {
			return list, old, now
		}
	}
}

// A size of more than 32 bits has the tag of its lowest 32, and is not taken for them.
func TestP6SizesAreNotCutTo32Bits(t *testing.T) {
	big := 1 << 32
	one, none := head(1, 3, "any"), head(0, 3, "any")
	compare(t, "one to one", api.Kept, one, one, nil)
	great, less := one, one
	great.Size, less.Size = 1+big, 1-big
	compare(t, "one to 1<<32 more", api.Broken, one, great, nil)
	compare(t, "both 1<<32 more", api.Broken, great, great, nil)
	compare(t, "from 1<<32 less", api.Broken, less, one, nil)
	none.Size = big
	compare(t, "from 1<<32", api.Broken, none, one, nil)
	none.Size = -big
	compare(t, "from -1<<32", api.Broken, none, one, nil)
}

func TestP6BadHead(t *testing.T) {
	l := entries(2)
	old, now, list := head(1, 3, rootOf(l[:1])), head(2, 5, rootOf(l)), showsStart(1, l, true)
	empty := head(0, 1, rootOf(nil))
	for _, spoil := range []func(h *api.Head){
		func(h *api.Head) { h.Size++ },
		func(h *api.Head) { h.Tick-- },
		func(h *api.Head) { h.Root += "\x00" },
		func(h *api.Head) { h.Tag = "" },
		func(h *api.Head) { h.Tag = h.Tag[:31] },
		func(h *api.Head) { h.Tag = mac("other", "H"+number(h.Size)+number(h.Tick)+h.Root) },
		func(h *api.Head) { h.Tag = mac(key, "P"+number(h.Size)+number(h.Tick)+h.Root) },
		func(h *api.Head) { *h = api.Head{} },
	} {
		badOld, badNow, badEmpty := old, now, empty
		spoil(&badOld)
		spoil(&badNow)
		spoil(&badEmpty)
		compare(t, "old", api.BadHead, badOld, now, list)
		compare(t, "now", api.BadHead, old, badNow, list)
		compare(t, "both", api.BadHead, badOld, badNow, nil)
		compare(t, "from nothing", api.BadHead, badEmpty, now, nil)
		compare(t, "to a bad one from nothing", api.BadHead, empty, badNow, nil)
	}
}

func TestP6AnyKey(t *testing.T) {
	for _, n := range []int{0, 16, 17, 63, 64, 65, 200} {
		k := strings.Repeat("k", n)
		h := api.Head{Size: 1, Tick: -1, Root: "", Tag: mac(k, "H"+"\x00\x00\x00\x01"+"\xff\xff\xff\xff")}
		if got := vouch.Compare(k, h, h, nil); got != api.Kept {
			t.Errorf("key of %d bytes: %d", n, got)
		}
		if got := vouch.Compare(k+"x", h, h, nil); got != api.BadHead {
			t.Errorf("another key than that of %d bytes: %d", n, got)
		}
	}
}
