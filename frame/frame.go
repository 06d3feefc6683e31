// Package frame makes the frames of a journal, and reads them.
package frame

import (
	"vouch/api"
	"vouch/digest"
)

const (
	firstMark  = "VOUCH"
	limitBytes = 4
	firstBytes = len(firstMark) + limitBytes + api.HashBytes
	tickMark   = 'T'
)

// First is what a journal's first frame holds. It has the key's hash and not
// the key, so that who reads a journal cannot tag by it.
func First(c api.Config) string {
	limits := []byte{byte(c.Batch), byte(c.Queue), byte(c.Quota), byte(c.Delay)}
	return firstMark + string(limits) + digest.Sum(c.Key)
}

// ReadFirst is the configuration with the key for which a first frame holds
// this; not ok, if there is none. Whether it may be is not asked.
func ReadFirst(held, key string) (api.Config, bool) {
	if len(held) != firstBytes {
		return api.Config{}, false
	}
	limits := held[len(firstMark):]
	c := api.Config{
		Batch: int(limits[0]),
		Queue: int(limits[1]),
		Quota: int(limits[2]),
		Delay: int(limits[3]),
		Key:   key,
	}
	if held != First(c) {
		return api.Config{}, false
	}
	return c, true
}

// Tick is what the frame of a tick that took the entries with these numbers
// holds.
func Tick(numbers []int) string {
	held := []byte{tickMark}
	for _, n := range numbers {
		held = append(held, byte(n))
	}
	return string(held)
}
