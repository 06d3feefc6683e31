package frame

import (
	"crypto/sha256"
	"encoding/binary"
	"hash/crc32"
	"math/rand"
	"testing"

	"vouch/api"
)

func crc(text string) string {
	return string(binary.LittleEndian.AppendUint32(nil, crc32.ChecksumIEEE([]byte(text))))
}

func framed(held string) string {
	length := string(binary.LittleEndian.AppendUint16(nil, uint16(len(held))))
	return length + crc(length) + held + crc(held)
}

func TestSumIsAsPublished(t *testing.T) {
	if got := sum("123456789"); got != "\x26\x39\xf4\xcb" {
		t.Errorf("%x", got)
	}
	if got := sum(""); got != "\x00\x00\x00\x00" {
		t.Errorf("of nothing: %x", got)
	}
	r := rand.New(rand.NewSource(1))
	for n := range 500 {
		b := make([]byte, n)
		r.Read(b)
		if text := string(b); sum(text) != crc(text) {
			t.Errorf("of %d bytes: %x, want %x", n, sum(text), crc(text))
		}
	}
}

func TestFirstWrittenOut(t *testing.T) {
	for _, k := range []string{"", "key", "sixteen bytes :)"} {
		hash := sha256.Sum256([]byte(k))
		want := "VOUCH\x02\x18\x04\x3c" + string(hash[:])
		c := api.Config{Batch: 2, Queue: 24, Quota: 4, Delay: 60, Key: k}
		if got := First(c); got != want {
			t.Errorf("key %q: %x, want %x", k, got, want)
		}
		if got, ok := ReadFirst(want, k); got != c || !ok {
			t.Errorf("key %q: %#v, %t", k, got, ok)
		}
	}
}

// Each byte of the limits is a number from 0 to 255 of its own.
func TestReadFirstOfAllLimits(t *testing.T) {
	for n := range 256 {
		for _, c := range []api.Config{{Batch: n}, {Queue: n}, {Quota: n}, {Delay: n, Key: "key"}} {
			if got, ok := ReadFirst(First(c), c.Key); got != c || !ok {
				t.Errorf("%#v, %t, want %#v", got, ok, c)
			}
		}
	}
}

func TestReadFirstOfWrongText(t *testing.T) {
	right := First(api.Config{Batch: 2, Queue: 4, Quota: 3, Delay: 3, Key: "key"})
	wrong := func(held, key string) {
		t.Helper()
		if c, ok := ReadFirst(held, key); ok || c != (api.Config{}) {
			t.Errorf("%x with the key %q: %#v, %t", held, key, c, ok)
		}
	}
	for i := range right {
		wrong(right[:i], "key")
		if i < 5 || i >= 9 {
			wrong(right[:i]+string([]byte{right[i] ^ 1})+right[i+1:], "key")
		}
	}
	wrong(right+"\x00", "key")
	wrong("\x00"+right, "key")
	wrong(right+right, "key")
	for _, k := range []string{"", "kez", "ke", "key\x00", right, right[9:]} {
		wrong(right, k)
	}
}

func TestTick(t *testing.T) {
	for _, c := range []struct{ got, want string }{
		{Tick(nil), "T"},
		{Tick([]int{0}), "T\x00"},
		{Tick([]int{99, 3, 200}), "T\x63\x03\xc8"},
	} {
		if c.got != c.want {
			t.Errorf("%x, want %x", c.got, c.want)
		}
	}
}
