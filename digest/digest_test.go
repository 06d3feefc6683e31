package digest

import (
	"crypto/hmac"
	"crypto/sha256"
	"encoding/hex"
	"strings"
	"testing"
)

func TestSumOfPublishedTexts(t *testing.T) {
	for _, c := range []struct{ text, want string }{
		{"", "e3b0c44298fc1c149afbf4c8996fb92427ae41e4649b934ca495991b7852b855"},
		{"abc", "ba7816bf8f01cfea414140de5dae2223b00361a396177a9cb410ff61f20015ad"},
		{"abcdbcdecdefdefgefghfghighijhijkijkljklmklmnlmnomnopnopq", "248d6a61d20638b8e5c026930c3e6039a33ce45964ff2167f6ecedd419db06c1"},
		{strings.Repeat("a", 1000000), "cdc76e5c9914fb9281a1c7e284d73e67f1809a48a497200e046d39ccc7112cd0"},
	} {
		if got := hex.EncodeToString([]byte(Sum(c.text))); got != c.want {
			t.Errorf("Sum of %d bytes: %s, want %s", len(c.text), got, c.want)
		}
	}
}

func TestSumOfParts(t *testing.T) {
	text := strings.Repeat("0123456789abcdef\x00\xff", 12)
	want := sha256.Sum256([]byte(text))
	for i := range text {
		for _, j := range []int{i, (i + len(text)) / 2, len(text)} {
			if got := Sum(text[:i], text[i:j], "", text[j:]); got != string(want[:]) {
				t.Fatalf("Sum of parts cut at %d and %d differs", i, j)
			}
		}
	}
}

// The count of bits needs its upper four bytes only from 512 MiB on.
func TestSumOfMoreBitsThanFitIn32(t *testing.T) {
	if testing.Short() {
		t.Skip("hashes more than 512 MiB")
	}
	part := strings.Repeat("vouch...", 1<<17)
	parts := make([]string, 513)
	reference := sha256.New()
	for i := range parts {
		parts[i] = part
		reference.Write([]byte(part))
	}
	if got := Sum(parts...); got != string(reference.Sum(nil)) {
		t.Errorf("Sum of 513 MiB: %x", got)
	}
}

// The cases 1, 2, 6 and 7 of RFC 4231.
func TestTagOfPublishedTexts(t *testing.T) {
	long := strings.Repeat("\xaa", 131)
	for _, c := range []struct{ key, text, want string }{
		{strings.Repeat("\x0b", 20), "Hi There", "b0344c61d8db38535ca8afceaf0bf12b881dc200c9833da726e9376c2e32cff7"},
		{"Jefe", "what do ya want for nothing?", "5bdcc146bf60754e6a042426089575c75a003f089d2739839dec58b964ec3843"},
		{long, "Test Using Larger Than Block-Size Key - Hash Key First", "60e431591ee0b67f0d8a26aacbf5b77f8e0bc6213728c5140546040f0ee37f54"},
		{long, "This is a test using a larger than block-size key and a larger than block-size data. The key needs to be hashed before being used by the HMAC algorithm.", "9b09ffa71b942fcb27635fbcd5b0e944bfdc63644f0713938a7f51535c3a35e2"},
	} {
		if got := hex.EncodeToString([]byte(Tag(c.key, c.text))); got != c.want {
			t.Errorf("Tag of %q: %s, want %s", c.text, got, c.want)
		}
	}
}

func FuzzTag(f *testing.F) {
	f.Add("", "")
	f.Add(strings.Repeat("k", 64), strings.Repeat("t", 64))
	f.Add(strings.Repeat("k", 65), "\x00")
	f.Fuzz(func(t *testing.T, key string, text string) {
		want := hmac.New(sha256.New, []byte(key))
		want.Write([]byte(text))
		if got := Tag(key, text); got != string(want.Sum(nil)) {
			t.Errorf("Tag(%q, %q): %x", key, text, got)
		}
	})
}
