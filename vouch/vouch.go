// Package vouch takes entries, promises by when they are in a log, and keeps its promises. See DOC.md.
package vouch

import (
	"vouch/api"
	"vouch/digest"
	"vouch/tree"
)

// Leaf is the hash of an entry (P3).
func Leaf(entry string) string { return tree.Leaf(entry) }

// Root is the hash of a list of entries (P3).
func Root(entries []string) string { return tree.Root(entries) }

// Tag is the mark of some bytes by a key (P3).
func Tag(key string, text string) string { return digest.Tag(key, text) }

// Audit looks at a promise (P5).
func Audit(key string, p api.Promise, h api.Head, index int, list []string) api.Verdict {
	switch {
	case p.Tag != promiseTag(key, p):
		return api.BadPromise
	case h.Tag != headTag(key, h):
		return api.BadHead
	case tree.ShowsEntry(list, p.Leaf, index, h.Size, h.Root):
		return api.Kept
	case h.Tick >= p.Deadline:
		return api.Broken
	}
	return api.Open
}

// Compare looks at two heads (P6).
func Compare(key string, old api.Head, now api.Head, list []string) api.Verdict {
	switch {
	case old.Tag != headTag(key, old), now.Tag != headTag(key, now):
		return api.BadHead
	case old.Size == 0 && len(list) == 0:
		return api.Kept
	case tree.ShowsStart(list, old.Size, old.Root, now.Size, now.Root):
		return api.Kept
	}
	return api.Broken
}
