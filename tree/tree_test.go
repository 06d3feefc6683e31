package tree

import (
	"crypto/sha256"
	"math"
	"slices"
	"testing"
)

func sum(text string) string {
	h := sha256.Sum256([]byte(text))
	return string(h[:])
}

func TestSplit(t *testing.T) {
	for _, c := range []struct{ n, want int }{
		{2, 1}, {3, 2}, {4, 2}, {5, 4}, {7, 4}, {8, 4}, {9, 8},
		{1<<30 - 1, 1 << 29}, {1 << 30, 1 << 29}, {1<<30 + 1, 1 << 30}, {math.MaxInt, math.MaxInt/2 + 1},
	} {
		if got := split(c.n); got != c.want {
			t.Errorf("split(%d): %d, want %d", c.n, got, c.want)
		}
	}
}

func TestRootWrittenOut(t *testing.T) {
	a, b, c := sum("\x00a"), sum("\x00b"), sum("\x00c")
	ab := sum("\x01" + a + b)
	for _, c := range []struct {
		entries []string
		want    string
	}{
		{nil, sum("")},
		{[]string{}, sum("")},
		{[]string{""}, sum("\x00")},
		{[]string{"a"}, a},
		{[]string{"a", "b"}, ab},
		{[]string{"b", "a"}, sum("\x01" + b + a)},
		{[]string{"a", "b", "c"}, sum("\x01" + ab + c)},
		{[]string{"a", "b", "c", "a"}, sum("\x01" + ab + sum("\x01"+c+a))},
		{[]string{"a", "b", "a", "b", "c"}, sum("\x01" + sum("\x01"+ab+ab) + c)},
	} {
		if got := Root(c.entries); got != c.want {
			t.Errorf("Root(%q): %x, want %x", c.entries, got, c.want)
		}
	}
}

func TestShowsWrittenOut(t *testing.T) {
	a, b, c := sum("\x00a"), sum("\x00b"), sum("\x00c")
	ab := sum("\x01" + a + b)
	abc := sum("\x01" + ab + c)
	for i, got := range []bool{
		ShowsEntry(nil, a, 0, 1, a),
		ShowsEntry([]string{b}, a, 0, 2, ab),
		ShowsEntry([]string{a}, b, 1, 2, ab),
		ShowsEntry([]string{b, c}, a, 0, 3, abc),
		ShowsEntry([]string{a, c}, b, 1, 3, abc),
		ShowsEntry([]string{ab}, c, 2, 3, abc),
		ShowsStart(nil, 3, abc, 3, abc),
		ShowsStart([]string{b}, 1, a, 2, ab),
		ShowsStart([]string{b, c}, 1, a, 3, abc),
		ShowsStart([]string{c}, 2, ab, 3, abc),
		ShowsStart([]string{c, b, ab}, 3, abc, 4, sum("\x01"+ab+sum("\x01"+c+b))),
	} {
		if !got {
			t.Errorf("case %d is not shown", i)
		}
	}
}

func TestWhatShowsWrittenOut(t *testing.T) {
	l := []string{"a", "b", "c", "d"}
	a, b, c, d := sum("\x00a"), sum("\x00b"), sum("\x00c"), sum("\x00d")
	ab, cd := sum("\x01"+a+b), sum("\x01"+c+d)
	for i, c := range []struct{ got, want []string }{
		{WhatShowsEntry(l[:1], 0), nil},
		{WhatShowsEntry(l[:2], 0), []string{b}},
		{WhatShowsEntry(l[:2], 1), []string{a}},
		{WhatShowsEntry(l[:3], 0), []string{b, c}},
		{WhatShowsEntry(l[:3], 1), []string{a, c}},
		{WhatShowsEntry(l[:3], 2), []string{ab}},
		{WhatShowsEntry(l, 2), []string{d, ab}},
		{WhatShowsEntry(l, 3), []string{c, ab}},
		{WhatShowsStart(l[:1], 1), nil},
		{WhatShowsStart(l, 4), nil},
		{WhatShowsStart(l[:2], 1), []string{b}},
		{WhatShowsStart(l[:3], 1), []string{b, c}},
		{WhatShowsStart(l[:3], 2), []string{c}},
		{WhatShowsStart(l, 2), []string{cd}},
		{WhatShowsStart(l, 3), []string{c, d, ab}},
	} {
		if !slices.Equal(c.got, c.want) {
			t.Errorf("case %d: %x, want %x", i, c.got, c.want)
		}
	}
}

func TestWhatShowsIsShown(t *testing.T) {
	var l []string
	for n := 1; n <= 40; n++ {
		l = append(l, string(rune('a'+n)))
		for i := range n {
			if !ShowsEntry(WhatShowsEntry(l, i), Leaf(l[i]), i, n, Root(l)) {
				t.Errorf("entry %d of %d is not shown", i, n)
			}
			if !ShowsStart(WhatShowsStart(l, i+1), i+1, Root(l[:i+1]), n, Root(l)) {
				t.Errorf("that %d begin with %d is not shown", n, i+1)
			}
		}
	}
}
