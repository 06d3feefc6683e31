package tree

// WhatShowsEntry is what shows that entry i, from 0 on, is among the entries.
// It must be one of them.
func WhatShowsEntry(entries []string, i int) []string {
	if len(entries) == 1 {
		return nil
	}
	k := split(len(entries))
	if i < k {
		return append(WhatShowsEntry(entries[:k], i), Root(entries[k:]))
	}
	return append(WhatShowsEntry(entries[k:], i-k), Root(entries[:k]))
}

// WhatShowsStart is what shows that the entries begin with their first m, of
// which there must be at least 1.
func WhatShowsStart(entries []string, m int) []string {
	return whatShowsPart(entries, m, true)
}

// whatShowsPart is for a part of the tree; while all holds, its first m are the
// whole old list, whose root who looks has already.
func whatShowsPart(entries []string, m int, all bool) []string {
	if m == len(entries) && all {
		return nil
	}
	if m == len(entries) {
		return []string{Root(entries)}
	}
	k := split(len(entries))
	if m <= k {
		return append(whatShowsPart(entries[:k], m, all), Root(entries[k:]))
	}
	return append(whatShowsPart(entries[k:], m-k, false), Root(entries[:k]))
}
