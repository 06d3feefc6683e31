package vouch_test

import (
	"math"
	"math/rand"
	"slices"
	"testing"

	"vouch/api"
	"vouch/vouch"
)

var oddNumbers = []int{
	math.MinInt, -1 << 40, -1 << 32, -1<<31 - 1, -1 << 31, -1 << 30, -2, -1, 0, 1, 2, 3, 4, 7,
	1<<29 + 1, 1<<30 - 1, 1 << 30, 1<<30 + 1, 1<<31 - 1, 1 << 31, 1 << 32, 1<<32 + 1, 1 << 62, math.MaxInt,
}

func oddLists() [][]string {
	r := rand.New(rand.NewSource(3))
	lists := [][]string{nil, {}}
	for _, n := range []int{1, 2, 3, 29, 30, 31, 32, 64, 100000} {
		lists = append(lists, make([]string, n), anyStrings(r, n))
	}
	return lists
}

// wantAudit is P5 told another way than the program tells it, of a promise and a head that are right.
func wantAudit(p api.Promise, h api.Head, index int, list []string) api.Verdict {
	if index >= 0 && index < h.Size && h.Size <= 1<<30 {
		if root, ok := climbEntry(list, p.Leaf, index, h.Size); ok && root == h.Root {
			return api.Kept
		}
	}
	if p.Deadline <= h.Tick {
		return api.Broken
	}
	return api.Open
}

// wantCompare is P6 told another way, of heads that are right.
func wantCompare(old, now api.Head, list []string) api.Verdict {
	if old.Size == 0 && len(list) == 0 {
		return api.Kept
	}
	if old.Size >= 1 && old.Size <= now.Size && now.Size <= 1<<30 {
		was, is, ok := climbStart(list, old.Root, old.Size, now.Size)
		if ok && was == old.Root && is == now.Root {
			return api.Kept
		}
	}
	return api.Broken
}

func TestP1AtAllNumbersAndLists(t *testing.T) {
	lists := oddLists()
	for _, a := range oddNumbers {
		for _, b := range oddNumbers {
			p, h := promise("any", b), head(a, b-1, "any")
			old, now := head(a, 1, "any"), head(b, 2, "any")
			for _, list := range lists {
				audit(t, "odd", wantAudit(p, h, b, list), p, h, b, list)
				compare(t, "odd", wantCompare(old, now, list), old, now, list)
			}
		}
	}
}

func TestP1OfLongListsAndTexts(t *testing.T) {
	l := entries(100001)
	if got := vouch.Root(l); got != rootOf(l) {
		t.Errorf("Root of %d entries: %x", len(l), got)
	}
	long := string(make([]byte, 1<<22))
	if vouch.Leaf(long) != sum("\x00", long) || vouch.Tag(long, long) != mac(long, long) {
		t.Error("a long text")
	}
	audit(t, "long hashes", api.Kept, promise(long, 1), head(2, 1, pair(long, long)), 1, []string{long})
}

// Lists of the right count and any others, held against the other way of looking.
func TestP4AtRandom(t *testing.T) {
	r := rand.New(rand.NewSource(4))
	kept := 0
	for range 20000 {
		size := 1 + r.Intn(1<<uint(r.Intn(31)))
		index, m := r.Intn(size), 1+r.Intn(size)
		list := anyStrings(r, r.Intn(12))
		root, _ := climbEntry(list, "any", index, size)
		was, is, _ := climbStart(list, "any", m, size)
		p, h := promise("any", 1), head(size, 1, root)
		old, now := head(m, 1, was), head(size, 1, is)
		want, other := wantAudit(p, h, index, list), wantCompare(old, now, list)
		audit(t, "random", want, p, h, index, list)
		compare(t, "random", other, old, now, list)
		if want == api.Kept || other == api.Kept {
			kept++
		}
	}
	if kept < 1000 {
		t.Errorf("only %d of the lists showed something", kept)
	}
}

func TestP2NothingIsWrittenInto(t *testing.T) {
	l := entries(13)
	h := head(13, 5, rootOf(l))
	for m := 1; m <= 13; m++ {
		for _, list := range [][]string{l, showsEntry(m-1, l), showsStart(m, l, true)} {
			room := append(slices.Clone(list), "spare", "room")
			whole := slices.Clone(room)
			given := room[:len(list)]
			vouch.Root(given)
			vouch.Audit(key, promise(vouch.Leaf(l[m-1]), 5), h, m-1, given)
			vouch.Compare(key, head(m, 3, rootOf(l[:m])), h, given)
			if !slices.Equal(room, whole) {
				t.Fatalf("a list of %d hashes was written into", len(list))
			}
		}
	}
}

// What was answered once is answered again, whatever was asked in between.
func TestP2NothingIsKept(t *testing.T) {
	l := entries(5)
	leaf, root, tag := vouch.Leaf("a"), vouch.Root(l), vouch.Tag(key, "a")
	vouch.Leaf("b")
	vouch.Root(l[:4])
	vouch.Tag("other", "b")
	l[0] = "changed"
	if vouch.Root(l) == root {
		t.Error("Root holds to a list that has changed")
	}
	l[0] = entries(1)[0]
	if vouch.Leaf("a") != leaf || vouch.Root(l) != root || vouch.Tag(key, "a") != tag {
		t.Error("another answer to the same arguments")
	}
}
