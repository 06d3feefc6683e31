// Package frame makes the frames of a journal.
package frame

import (
	"vouch/api"
	"vouch/digest"
)

const (
	firstMark = "VOUCH"
	tickMark  = 'T'
)

// First is the frame that a journal begins with. It holds the key's hash and
// not the key, so that who reads a journal cannot tag by it.
func First(c api.Config) string {
	limits := []byte{byte(c.Batch), byte(c.Queue), byte(c.Quota), byte(c.Delay)}
	return wrap(firstMark + string(limits) + digest.Sum(c.Key))
}

// Request is the frame of a request that was taken.
func Request(text string) string {
	return wrap(text)
}

// Tick is the frame of a tick that took the entries with these numbers.
func Tick(numbers []int) string {
	held := []byte{tickMark}
	for _, n := range numbers {
		held = append(held, byte(n))
	}
	return wrap(string(held))
}

// wrap gives the length a sum of its own, so that a length that is damaged is
// found before it is trusted.
func wrap(held string) string {
	length := string([]byte{byte(len(held)), byte(len(held) >> 8)})
	return length + sum(length) + held + sum(held)
}
