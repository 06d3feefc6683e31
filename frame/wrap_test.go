package frame

import (
	"math/rand"
	"strings"
	"testing"
)

// lengths are at, below and above where the higher byte of a length begins.
var lengths = []int{0, 1, 2, 4, 41, 255, 256, 257, 512, 65535}

func anyText(r *rand.Rand, n int) string {
	b := make([]byte, n)
	r.Read(b)
	return string(b)
}

func next(t *testing.T, text, held, rest string) {
	t.Helper()
	if h, r, ok := Next(text); h != held || r != rest || !ok {
		t.Errorf("of %d bytes: %d, and %d behind, %t, want %d and %d", len(text), len(h), len(r), ok, len(held), len(rest))
	}
}

func none(t *testing.T, what, text string) {
	t.Helper()
	if held, rest, ok := Next(text); held != "" || rest != "" || ok {
		t.Errorf("%s: %x, %x, %t", what, held, rest, ok)
	}
}

func TestWrapAndNext(t *testing.T) {
	r := rand.New(rand.NewSource(2))
	for _, n := range lengths {
		for _, held := range []string{anyText(r, n), strings.Repeat("\x00", n), strings.Repeat("\xff", n)} {
			if Wrap(held) != framed(held) {
				t.Errorf("a frame of %d bytes", n)
			}
			next(t, framed(held), held, "")
			next(t, framed(held)+"x", held, "x")
			next(t, framed(held)+framed("y"), held, framed("y"))
		}
	}
}

func TestNextOfAPart(t *testing.T) {
	whole := framed("S0\x03abc")
	for n := range whole {
		none(t, "a part", whole[:n])
		none(t, "without its beginning", whole[n+1:])
	}
	long := framed(strings.Repeat("a", 65535))
	none(t, "all but a byte", long[:len(long)-1])
}

// Every byte of a frame is in one of the two sums or is a sum's own.
func TestNextOfAChangedByte(t *testing.T) {
	whole := framed("S0\x03abc")
	for i := range whole {
		for x := 1; x < 256; x++ {
			none(t, "a changed byte", whole[:i]+string([]byte{whole[i] ^ byte(x)})+whole[i+1:])
		}
	}
}

// A length that has a right sum, and does not fit what stands behind it.
func TestNextOfAWrongLength(t *testing.T) {
	held := "S0\x03abc"
	for n := range 600 {
		length := string([]byte{byte(n), byte(n >> 8)})
		text := length + crc(length) + held + crc(held)
		if n == len(held) {
			next(t, text, held, "")
			continue
		}
		none(t, "a wrong length", text)
		none(t, "a wrong length, more behind", text+strings.Repeat("z", 700))
	}
}

func TestNextOfAnyBytes(t *testing.T) {
	r := rand.New(rand.NewSource(3))
	for n := range 300 {
		none(t, "any bytes", anyText(r, n))
		none(t, "zeros", strings.Repeat("\x00", n))
		none(t, "ones", strings.Repeat("\xff", n))
	}
}
