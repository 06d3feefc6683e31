package tree

// MaxSize is how many entries a tree may have of which something is shown.
const MaxSize = 1 << 30

// ShowsEntry tells whether the list shows that the entry with the hash leaf is
// the index-th, from 0 on, of size, whose root is root.
func ShowsEntry(list []string, leaf string, index, size int, root string) bool {
	if index < 0 || index >= size || size > MaxSize {
		return false
	}
	made, ok := rootFromLeaf(list, leaf, index, size)
	return ok && made == root
}

// rootFromLeaf makes the root of size entries. The list's last hash is the
// outermost one, so each level takes it off and leaves the rest to the level
// below; it is not ok if the list is too short or too long.
func rootFromLeaf(list []string, leaf string, index, size int) (string, bool) {
	if size == 1 {
		return leaf, len(list) == 0
	}
	if len(list) == 0 {
		return "", false
	}
	rest, beside := takeLast(list)
	k := split(size)
	if index < k {
		left, ok := rootFromLeaf(rest, leaf, index, k)
		if !ok {
			return "", false
		}
		return node(left, beside), true
	}
	right, ok := rootFromLeaf(rest, leaf, index-k, size-k)
	if !ok {
		return "", false
	}
	return node(beside, right), true
}

// ShowsStart tells whether the list shows that a list of n entries, whose root
// is now, begins with its first m, whose root is old.
func ShowsStart(list []string, m int, old string, n int, now string) bool {
	if m < 1 || m > n || n > MaxSize {
		return false
	}
	made, ok := rootsFromOld(list, old, m, n, true)
	return ok && made.old == old && made.now == now
}

// roots are what a part of the tree comes to: with only those of its entries
// that the old list has, and with all.
type roots struct {
	old, now string
}

// rootsFromOld makes both roots of a part with n entries, m of which are old.
// While all holds, the part's old entries are the whole old list, so that its
// root is known and not in the list.
func rootsFromOld(list []string, old string, m, n int, all bool) (roots, bool) {
	if m == n {
		return rootsOfOld(list, old, all)
	}
	if len(list) == 0 {
		return roots{}, false
	}
	rest, beside := takeLast(list)
	k := split(n)
	if m <= k {
		left, ok := rootsFromOld(rest, old, m, k, all)
		if !ok {
			return roots{}, false
		}
		return roots{left.old, node(left.now, beside)}, true
	}
	right, ok := rootsFromOld(rest, old, m-k, n-k, false)
	if !ok {
		return roots{}, false
	}
	return roots{node(beside, right.old), node(beside, right.now)}, true
}

// rootsOfOld is for a part all of whose entries are old.
func rootsOfOld(list []string, old string, all bool) (roots, bool) {
	if all {
		return roots{old, old}, len(list) == 0
	}
	if len(list) != 1 {
		return roots{}, false
	}
	return roots{list[0], list[0]}, true
}

func takeLast(list []string) (rest []string, last string) {
	end := len(list) - 1
	return list[:end], list[end]
}
