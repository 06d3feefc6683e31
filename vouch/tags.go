package vouch

import (
	"vouch/api"
	"vouch/digest"
)

// Different first letters keep a promise's tag from passing for a head's.
const (
	promiseMark = "P"
	headMark    = "H"
)

// promiseTag is the tag that a promise must have by the key.
func promiseTag(key string, p api.Promise) string {
	return digest.Tag(key, promiseMark+p.Leaf+number(p.Deadline))
}

// headTag is the tag that a head must have by the key.
func headTag(key string, h api.Head) string {
	return digest.Tag(key, headMark+number(h.Size)+number(h.Tick)+h.Root)
}

// number is the lowest 32 bits of n in four bytes, the highest first.
func number(n int) string {
	return string([]byte{byte(n >> 24), byte(n >> 16), byte(n >> 8), byte(n)})
}
