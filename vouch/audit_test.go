package vouch_test

import (
	"math"
	"math/rand"
	"strings"
	"testing"

	"vouch/api"
	"vouch/vouch"
)

func audit(t *testing.T, what string, want api.Verdict, p api.Promise, h api.Head, index int, list []string) {
	t.Helper()
	if got := vouch.Audit(key, p, h, index, list); got != want {
		t.Errorf("%s: index %d of size %d with %d hashes, tick %d, deadline %d: %d, want %d",
			what, index, h.Size, len(list), h.Tick, p.Deadline, got, want)
	}
}

func TestP5KeptAtEverySize(t *testing.T) {
	for _, n := range sizes {
		l := entries(n)
		for i := range n {
			for _, deadline := range []int{1, 5, 9} {
				audit(t, "kept", api.Kept, promise(vouch.Leaf(l[i]), deadline), head(n, 5, rootOf(l)), i, showsEntry(i, l))
			}
		}
	}
}

func TestP4AuditOfSpoiledLists(t *testing.T) {
	for _, n := range sizes {
		l := entries(n)
		h := head(n, 5, rootOf(l))
		for i := range n {
			p := promise(vouch.Leaf(l[i]), 6)
			for _, list := range spoiled(showsEntry(i, l)) {
				audit(t, "spoiled", api.Open, p, h, i, list)
			}
		}
	}
}

func TestP4AuditAtWrongPlaces(t *testing.T) {
	for _, n := range sizes {
		l := entries(n)
		h := head(n, 5, rootOf(l))
		for i := range n {
			p := promise(vouch.Leaf(l[i]), 5)
			for _, index := range []int{-1, n, i + n, i - n, i + 1, i - 1, i + 1<<32, i - 1<<32, math.MaxInt, math.MinInt} {
				audit(t, "wrong place", api.Broken, p, h, index, showsEntry(i, l))
			}
			audit(t, "wrong leaf", api.Broken, promise(vouch.Leaf("none"), 5), h, i, showsEntry(i, l))
			audit(t, "entry for leaf", api.Broken, promise(l[i], 5), h, i, showsEntry(i, l))
			audit(t, "wrong root", api.Broken, p, head(n, 5, sum("other")), i, showsEntry(i, l))
			audit(t, "no root", api.Broken, p, head(n, 5, ""), i, showsEntry(i, l))
		}
	}
}

// At a size that is too small or too great nothing is shown, whatever the list makes.
func TestP5SizesAtTheirEdges(t *testing.T) {
	r := rand.New(rand.NewSource(1))
	for _, size := range []int{1<<30 - 1, 1 << 30} {
		for _, index := range []int{0, 1, 1<<29 - 1, 1 << 29, size / 3, size - 2, size - 1} {
			list := fittingEntryList(r, index, size)
			root, _ := climbEntry(list, "leaf", index, size)
			audit(t, "great size", api.Kept, promise("leaf", 5), head(size, 5, root), index, list)
			audit(t, "great size, one more", api.Broken, promise("leaf", 5), head(size, 5, root), index, with(list, 0, "x"))
			audit(t, "great size, one fewer", api.Broken, promise("leaf", 5), head(size, 5, root), index, without(list, 0))
		}
	}
	for _, size := range []int{1<<30 + 1, 1 << 31, 1<<32 + 1, 1 << 40} {
		for _, index := range []int{0, size - 1} {
			list := fittingEntryList(r, index, size)
			root, _ := climbEntry(list, "leaf", index, size)
			audit(t, "too great a size", api.Broken, promise("leaf", 5), head(size, 5, root), index, list)
		}
	}
	for _, size := range []int{0, -1, -1 << 30, math.MinInt} {
		for _, index := range []int{-1, 0, size, size - 1} {
			audit(t, "too small a size", api.Broken, promise("leaf", 5), head(size, 5, "leaf"), index, nil)
		}
	}
}

// fittingEntryList is a list of as many strings as there must be.
func fittingEntryList(r *rand.Rand, index, size int) []string {
	for n := 0; ; n++ {
		list := anyStrings(r, n)
		if _, ok := climbEntry(list, "", index, size); ok {
			return list
		}
	}
}

// A size of more than 32 bits has the tag of its lowest 32, and is not taken for them.
func TestP5SizeIsNotCutTo32Bits(t *testing.T) {
	h := head(1, 5, "leaf")
	audit(t, "one entry", api.Kept, promise("leaf", 5), h, 0, nil)
	h.Size += 1 << 32
	audit(t, "one entry and 1<<32", api.Broken, promise("leaf", 5), h, 0, nil)
	h.Size -= 1 << 33
	audit(t, "one entry less 1<<32", api.Broken, promise("leaf", 5), h, 0, nil)
}

func TestP5BrokenOrOpen(t *testing.T) {
	big := 1 << 32
	for _, c := range []struct {
		tick, deadline int
		want           api.Verdict
	}{
		{4, 5, api.Open}, {5, 5, api.Broken}, {6, 5, api.Broken},
		{0, 0, api.Broken}, {-1, 0, api.Open}, {-2, -1, api.Open}, {-1, -2, api.Broken},
		{big, 5, api.Broken}, {5, big, api.Open}, {big + 9, big + 9, api.Broken}, {big + 8, big + 9, api.Open},
		{1, -big, api.Broken}, {-big, 1, api.Open},
		{math.MaxInt, math.MinInt, api.Broken}, {math.MinInt, math.MaxInt, api.Open},
	} {
		audit(t, "not shown", c.want, promise("leaf", c.deadline), head(1, c.tick, "other"), 0, nil)
		audit(t, "shown", api.Kept, promise("leaf", c.deadline), head(1, c.tick, "leaf"), 0, nil)
	}
}

func TestP5BadPromiseComesFirst(t *testing.T) {
	p, h := promise("leaf", 5), head(1, 5, "leaf")
	for what, bad := range map[string]api.Promise{
		"nothing":         {},
		"no tag":          {Leaf: "leaf", Deadline: 5},
		"short tag":       {Leaf: "leaf", Deadline: 5, Tag: p.Tag[:31]},
		"long tag":        {Leaf: "leaf", Deadline: 5, Tag: p.Tag + "\x00"},
		"other leaf":      {Leaf: "Leaf", Deadline: 5, Tag: p.Tag},
		"later":           {Leaf: "leaf", Deadline: 6, Tag: p.Tag},
		"a head's":        {Leaf: "leaf", Deadline: 5, Tag: h.Tag},
		"a head's letter": {Leaf: "leaf", Deadline: 5, Tag: mac(key, "H"+"leaf"+number(5))},
		"lowest first":    {Leaf: "leaf", Deadline: 5, Tag: mac(key, "P"+"leaf"+"\x05\x00\x00\x00")},
		"deadline first":  {Leaf: "leaf", Deadline: 5, Tag: mac(key, "P"+number(5)+"leaf")},
		"another key's":   {Leaf: "leaf", Deadline: 5, Tag: mac(key+"x", "P"+"leaf"+number(5))},
	} {
		audit(t, what, api.BadPromise, bad, h, 0, nil)
		audit(t, what+", and a bad head", api.BadPromise, bad, api.Head{}, 0, nil)
	}
}

func TestP5BadHead(t *testing.T) {
	p, h := promise("leaf", 5), head(1, 5, "leaf")
	for what, bad := range map[string]api.Head{
		"nothing":       {},
		"no tag":        {Size: 1, Tick: 5, Root: "leaf"},
		"short tag":     {Size: 1, Tick: 5, Root: "leaf", Tag: h.Tag[:31]},
		"other size":    {Size: 2, Tick: 5, Root: "leaf", Tag: h.Tag},
		"other tick":    {Size: 1, Tick: 4, Root: "leaf", Tag: h.Tag},
		"other root":    {Size: 1, Tick: 5, Root: "Leaf", Tag: h.Tag},
		"swapped":       {Size: 5, Tick: 1, Root: "leaf", Tag: h.Tag},
		"a promise's":   {Size: 1, Tick: 5, Root: "leaf", Tag: p.Tag},
		"tick first":    {Size: 1, Tick: 5, Root: "leaf", Tag: mac(key, "H"+number(5)+number(1)+"leaf")},
		"root first":    {Size: 1, Tick: 5, Root: "leaf", Tag: mac(key, "H"+"leaf"+number(1)+number(5))},
		"another key's": {Size: 1, Tick: 5, Root: "leaf", Tag: mac("", "H"+number(1)+number(5)+"leaf")},
	} {
		audit(t, what, api.BadHead, p, bad, 0, nil)
	}
}

func TestP5AnyKey(t *testing.T) {
	for _, n := range []int{0, 1, 16, 17, 63, 64, 65, 200} {
		k := strings.Repeat("k", n)
		p := api.Promise{Leaf: "leaf", Deadline: -3, Tag: mac(k, "P"+"leaf"+"\xff\xff\xff\xfd")}
		h := api.Head{Size: 1, Tick: 1<<32 + 258, Root: "leaf", Tag: mac(k, "H"+"\x00\x00\x00\x01"+"\x00\x00\x01\x02"+"leaf")}
		if got := vouch.Audit(k, p, h, 0, nil); got != api.Kept {
			t.Errorf("key of %d bytes: %d", n, got)
		}
		if got := vouch.Audit(k+"x", p, h, 0, nil); got != api.BadPromise {
			t.Errorf("another key than that of %d bytes: %d", n, got)
		}
	}
}
