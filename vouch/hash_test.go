package vouch_test

import (
	"fmt"
	"strings"
	"testing"

	"vouch/api"
	"vouch/vouch"
)

func TestP3Examples(t *testing.T) {
	if got := fmt.Sprintf("%x", vouch.Root(nil)); got != "e3b0c44298fc1c149afbf4c8996fb92427ae41e4649b934ca495991b7852b855" {
		t.Errorf("Root of nothing: %s", got)
	}
	if got := fmt.Sprintf("%x", vouch.Tag("key", "The quick brown fox jumps over the lazy dog")); got != "f7bc83f430538424b13298e6aa6fb143ef4d59a14946175997479dbc2d1a3cd8" {
		t.Errorf("Tag: %s", got)
	}
}

func TestP3LeafOfAnyLength(t *testing.T) {
	for n := range 300 {
		entry := strings.Repeat("\x00\xffé", n)[:n]
		got := vouch.Leaf(entry)
		if got != sum("\x00", entry) {
			t.Errorf("Leaf of %d bytes: %x", n, got)
		}
		if len(got) != api.HashBytes {
			t.Errorf("Leaf of %d bytes has %d bytes", n, len(got))
		}
	}
}

func TestP3RootOfAnyCount(t *testing.T) {
	for n := range 140 {
		if got := vouch.Root(entries(n)); got != rootOf(entries(n)) {
			t.Errorf("Root of %d entries: %x", n, got)
		}
	}
	for _, l := range [][]string{{}, {""}, {"", ""}, {"a", ""}, {"a", "a", "a"}, {strings.Repeat("long", 1000), "\xff"}} {
		if got := vouch.Root(l); got != rootOf(l) {
			t.Errorf("Root of %d odd entries: %x", len(l), got)
		}
	}
}

// A node's bytes, handed in as an entry, must not have the node's hash.
func TestP3NoEntryPassesForANode(t *testing.T) {
	l := entries(2)
	inner := "\x01" + vouch.Leaf(l[0]) + vouch.Leaf(l[1])
	if vouch.Root(l) == vouch.Root([]string{inner}) || vouch.Root(l) == vouch.Root([]string{inner[1:]}) {
		t.Error("an entry has the root of two")
	}
}

func TestP3TagByAnyKey(t *testing.T) {
	for n := range 200 {
		s := strings.Repeat("k\x00\xff", n)[:n]
		for _, text := range []string{"", "text", s, s + s} {
			if got := vouch.Tag(s, text); got != mac(s, text) {
				t.Errorf("Tag of %d bytes by a key of %d: %x", len(text), n, got)
			}
		}
	}
	long := strings.Repeat("k", 65)
	if vouch.Tag(long, "text") != vouch.Tag(sum(long), "text") {
		t.Error("a key of 65 bytes is not taken by its hash")
	}
	if full := long[:64]; vouch.Tag(full, "text") == vouch.Tag(sum(full), "text") {
		t.Error("a key of 64 bytes is taken by its hash")
	}
}
