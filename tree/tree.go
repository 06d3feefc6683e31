// Package tree makes the hash tree of a list of entries, and looks at what shows something of it.
package tree

import (
	"math/bits"

	"vouch/digest"
)

// A leaf and a node begin with different bytes, so that no entry can pass for a node.
const (
	leafMark = "\x00"
	nodeMark = "\x01"
)

// Leaf is the hash of an entry.
func Leaf(entry string) string {
	return digest.Sum(leafMark, entry)
}

// Root is the hash of a list of entries.
func Root(entries []string) string {
	switch n := len(entries); n {
	case 0:
		return digest.Sum()
	case 1:
		return Leaf(entries[0])
	default:
		k := split(n)
		return node(Root(entries[:k]), Root(entries[k:]))
	}
}

func node(left, right string) string {
	return digest.Sum(nodeMark, left, right)
}

// split is the greatest power of 2 below n, for n above 1.
func split(n int) int {
	return 1 << (bits.Len(uint(n-1)) - 1)
}
