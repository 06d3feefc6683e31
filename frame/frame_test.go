package frame

import (
	"crypto/sha256"
	"encoding/binary"
	"hash/crc32"
	"math/rand"
	"testing"

	"vouch/api"
)

func crc(text string) string {
	return string(binary.LittleEndian.AppendUint32(nil, crc32.ChecksumIEEE([]byte(text))))
}

func framed(held string) string {
	length := string(binary.LittleEndian.AppendUint16(nil, uint16(len(held))))
	return length + crc(length) + held + crc(held)
}

func TestSumIsAsPublished(t *testing.T) {
	if got := sum("123456789"); got != "\x26\x39\xf4\xcb" {
		t.Errorf("%x", got)
	}
	if got := sum(""); got != "\x00\x00\x00\x00" {
		t.Errorf("of nothing: %x", got)
	}
	r := rand.New(rand.NewSource(1))
	for n := range 500 {
		b := make([]byte, n)
		r.Read(b)
		if text := string(b); sum(text) != crc(text) {
			t.Errorf("of %d bytes: %x, want %x", n, sum(text), crc(text))
		}
	}
}

func TestFirstWrittenOut(t *testing.T) {
	for _, k := range []string{"", "key", "sixteen bytes :)"} {
		hash := sha256.Sum256([]byte(k))
		want := framed("VOUCH\x02\x18\x04\x3c" + string(hash[:]))
		if got := First(api.Config{Batch: 2, Queue: 24, Quota: 4, Delay: 60, Key: k}); got != want {
			t.Errorf("key %q: %x, want %x", k, got, want)
		}
	}
}

func TestRequestAndTick(t *testing.T) {
	for _, c := range []struct{ got, want string }{
		{Request("S0\x01a"), framed("S0\x01a")},
		{Request("S3\x18" + "abcdefghijklmnopqrstuvwx"), framed("S3\x18" + "abcdefghijklmnopqrstuvwx")},
		{Tick(nil), framed("T")},
		{Tick([]int{0}), framed("T\x00")},
		{Tick([]int{99, 3, 200}), framed("T\x63\x03\xc8")},
	} {
		if c.got != c.want {
			t.Errorf("%x, want %x", c.got, c.want)
		}
	}
}

// The lower byte of a length stands first, also where the higher one is not 0.
func TestWrapOfLongText(t *testing.T) {
	for _, n := range []int{0, 1, 255, 256, 257, 65535} {
		text := string(make([]byte, n))
		if wrap(text) != framed(text) {
			t.Errorf("a frame of %d bytes", n)
		}
	}
}
