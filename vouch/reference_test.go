package vouch_test

import (
	"crypto/hmac"
	"crypto/sha256"
	"encoding/binary"
	"fmt"
	"math/rand"
	"strings"

	"vouch/api"
)

const key = "a key"

// sizes are the sizes below, at and beside the powers of 2, as the document's edges ask.
var sizes = []int{1, 2, 3, 4, 5, 6, 7, 8, 9, 12, 15, 16, 17, 31, 32, 33}

func sum(parts ...string) string {
	h := sha256.Sum256([]byte(strings.Join(parts, "")))
	return string(h[:])
}

func pair(left, right string) string { return sum("\x01", left, right) }

func mac(key, text string) string {
	h := hmac.New(sha256.New, []byte(key))
	h.Write([]byte(text))
	return string(h.Sum(nil))
}

// number takes the lowest 32 bits another way than the program does.
func number(n int) string {
	return string(binary.BigEndian.AppendUint32(nil, uint32(n)))
}

func promise(leaf string, deadline int) api.Promise {
	return api.Promise{Leaf: leaf, Deadline: deadline, Tag: mac(key, "P"+leaf+number(deadline))}
}

func head(size, tick int, root string) api.Head {
	return api.Head{Size: size, Tick: tick, Root: root, Tag: mac(key, "H"+number(size)+number(tick)+root)}
}

func entries(n int) []string {
	l := make([]string, n)
	for i := range l {
		l[i] = fmt.Sprint("entry ", i)
	}
	return l
}

// before is the greatest power of 2 below n.
func before(n int) int {
	k := 1
	for 2*k < n {
		k *= 2
	}
	return k
}

func rootOf(l []string) string {
	switch len(l) {
	case 0:
		return sum()
	case 1:
		return sum("\x00", l[0])
	}
	k := before(len(l))
	return pair(rootOf(l[:k]), rootOf(l[k:]))
}

// showsEntry is what shows entry i of l, by the document's rule.
func showsEntry(i int, l []string) []string {
	if len(l) == 1 {
		return nil
	}
	k := before(len(l))
	if i < k {
		return append(showsEntry(i, l[:k]), rootOf(l[k:]))
	}
	return append(showsEntry(i-k, l[k:]), rootOf(l[:k]))
}

// showsStart is what shows that l begins with its first m, by the document's rule.
func showsStart(m int, l []string, all bool) []string {
	if m == len(l) && all {
		return nil
	}
	if m == len(l) {
		return []string{rootOf(l)}
	}
	k := before(len(l))
	if m <= k {
		return append(showsStart(m, l[:k], all), rootOf(l[k:]))
	}
	return append(showsStart(m-k, l[k:], false), rootOf(l[:k]))
}

// climbEntry makes the root from a leaf upward, level by level, as RFC 9162
// (2.1.3.2) looks at it: another way than the document's, to hold the program against.
func climbEntry(list []string, leaf string, index, size int) (string, bool) {
	at, last, made := index, size-1, leaf
	for _, hash := range list {
		if last == 0 {
			return "", false
		}
		if at%2 == 1 || at == last {
			made = pair(hash, made)
			for at%2 == 0 && at != 0 {
				at, last = at/2, last/2
			}
		} else {
			made = pair(made, hash)
		}
		at, last = at/2, last/2
	}
	return made, last == 0
}

// climbStart makes both roots upward, as RFC 9162 (2.1.4.2) does.
func climbStart(list []string, old string, m, n int) (was, is string, ok bool) {
	if m == n {
		return old, old, len(list) == 0
	}
	if m&(m-1) == 0 {
		list = append([]string{old}, list...)
	}
	if len(list) == 0 {
		return "", "", false
	}
	at, last := m-1, n-1
	for at%2 == 1 {
		at, last = at/2, last/2
	}
	was, is = list[0], list[0]
	for _, hash := range list[1:] {
		if last == 0 {
			return "", "", false
		}
		if at%2 == 1 || at == last {
			was, is = pair(hash, was), pair(hash, is)
			for at%2 == 0 && at != 0 {
				at, last = at/2, last/2
			}
		} else {
			is = pair(is, hash)
		}
		at, last = at/2, last/2
	}
	return was, is, last == 0
}

// anyStrings are n strings of any length, as a list of hashes may have.
func anyStrings(r *rand.Rand, n int) []string {
	l := make([]string, n)
	for i := range l {
		b := make([]byte, r.Intn(80))
		r.Read(b)
		l[i] = string(b)
	}
	return l
}

// spoiled are lists that differ from one by a hash: one fewer, one more, one changed, two that changed places.
func spoiled(list []string) [][]string {
	var all [][]string
	for i := range list {
		all = append(all, without(list, i), changed(list, i, list[i]+"\x00"), changed(list, i, ""), changed(list, i, sum(list[i])))
		if i > 0 && list[i] != list[i-1] {
			all = append(all, changed(changed(list, i, list[i-1]), i-1, list[i]))
		}
	}
	for i := range len(list) + 1 {
		all = append(all, with(list, i, ""), with(list, i, sum("more")))
	}
	return all
}

func without(list []string, i int) []string {
	return append(append([]string{}, list[:i]...), list[i+1:]...)
}

func with(list []string, i int, hash string) []string {
	return append(append(append([]string{}, list[:i]...), hash), list[i:]...)
}

func changed(list []string, i int, hash string) []string {
	l := append([]string{}, list...)
	l[i] = hash
	return l
}
