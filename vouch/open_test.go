package vouch_test

import (
	"fmt"
	"math/rand"
	"strings"
	"testing"

	"vouch/api"
	"vouch/vouch"
)

var tight = api.Config{Batch: 2, Queue: 4, Quota: 3, Delay: 3, Key: key}

// firstFrame is that of the limits and a key, also where they may not be.
func firstFrame(limits, key string) string {
	return framed("VOUCH" + limits + sum(key))
}

// ofTight is the first frame of tight.
var ofTight = firstFrame("\x02\x04\x03\x03", key)

// joined are frames that hold these, one behind the other.
func joined(held ...string) string {
	all := ""
	for _, h := range held {
		all += framed(h)
	}
	return all
}

func flipped(text string, i int, bits byte) string {
	return text[:i] + string([]byte{text[i] ^ bits}) + text[i+1:]
}

func TestP8WithoutAFirstFrame(t *testing.T) {
	for n := range ofTight {
		notOpened(t, "a part", key, ofTight[:n])
		notOpened(t, "without its beginning", key, ofTight[n+1:])
	}
	for i := range ofTight {
		for _, bits := range []byte{1, 2, 0x20, 0x80, 0xff} {
			notOpened(t, "a changed byte", key, flipped(ofTight, i, bits))
		}
	}
	held := "VOUCH\x02\x04\x03\x03" + sum(key)
	for _, wrong := range []string{
		"", "V", "VOUCH", "VOUCH\x02\x04\x03\x03", held[:40], held + "\x00", held + held, "\x00" + held,
		"vouch" + held[5:], "VOUCX" + held[5:], "S0\x01a", "T", held[:9] + key, held[:9] + sum(key+"\x00"),
		held[:9] + vouch.Leaf(key), held[:8] + sum(key), held[:9] + "\x00" + sum(key),
	} {
		notOpened(t, "held", key, framed(wrong))
		notOpened(t, "held, and a right one behind", key, framed(wrong)+ofTight)
	}
	for _, journal := range []string{held, "x" + ofTight, framed("T") + ofTight, strings.Repeat("\x00", 600), strings.Repeat("\xff", 600)} {
		notOpened(t, "no frame", key, journal)
	}
}

func TestP8FirstFrameAlone(t *testing.T) {
	for _, k := range []string{"", key, "\x00", strings.Repeat("\xff", 16)} {
		first := firstFrame("\x08\x18\x07\x3c", k)
		b := opened(t, k, first, first)
		b.everything()
		b.takes("0a", "1b")
		b.ticks("a b")
		b.everything()
	}
}

func TestP8AnotherKey(t *testing.T) {
	journal := ofTight + joined("S0\x01a", "T\x00")
	for _, k := range []string{"", "a kez", "A key", "a ke", "a key\x00", "\x00a key", sum(key), sum(key)[:16], keyOf(16), keyOf(1000)} {
		notOpened(t, "another key", k, journal)
	}
	opened(t, key, journal, journal)
}

// The key of a configuration that may be has at most 16 bytes, also if its hash fits.
func TestP8KeysOfAllLengths(t *testing.T) {
	for n := range 100 {
		first := firstFrame("\x02\x04\x03\x03", keyOf(n))
		if n <= 16 {
			opened(t, keyOf(n), first+framed("T"), first+framed("T"))
		} else {
			notOpened(t, "a long key", keyOf(n), first+framed("T"))
		}
	}
}

// Each limit at all numbers of a byte, the others right.
func TestP8LimitsThatMayNotBe(t *testing.T) {
	may := 0
	for _, right := range []string{"\x02\x04\x03\x03", "\x08\x18\x18\x04", "\x01\x01\x01\x02"} {
		for i := range right {
			for x := range 256 {
				limits := right[:i] + string([]byte{byte(x)}) + right[i+1:]
				if _, ok := opens(t, key, firstFrame(limits, key)); ok {
					may++
				}
			}
		}
	}
	if may < 200 {
		t.Errorf("only %d may be", may)
	}
	for _, limits := range []string{"\x00\x04\x03\x03", "\x02\x00\x00\x03", "\x02\x04\x00\x03", "\x02\x04\x05\x03", "\x02\x04\x03\x02", "\x09\x18\x18\x3c", "\x08\x19\x18\x3c", "\x08\x18\x19\x3c", "\x08\x18\x18\x3d"} {
		notOpened(t, "limits", key, firstFrame(limits, key)+framed("T"))
	}
}

// lively is a server in which some of everything has come to pass.
func lively(t *testing.T) both {
	b := begin(t, tight)
	b.takes("1a", "1b", "0cc", "2d")
	b.tick()
	b.takes("1eeeeeeeeeeeeeeeeeeeeeeee", "1f", "1a")
	b.answers(api.ErrBusy, request(3, "x"))
	b.tick()
	b.takes("3g")
	b.tick()
	b.tick()
	b.tick()
	b.takes("0h", "3i")
	return b
}

// On a journal that is cut anywhere, all whole frames ahead of the cut count.
func TestP8CutAtEveryByte(t *testing.T) {
	whole := lively(t).s.Journal()
	ends := []int{len(ofTight)}
	for i := len(ofTight); i < len(whole); {
		i += 10 + int(whole[i])
		ends = append(ends, i)
	}
	last := 0
	for n := range len(whole) + 1 {
		if last+1 < len(ends) && ends[last+1] == n {
			last++
		}
		if n < ends[0] {
			notOpened(t, "cut", key, whole[:n])
			continue
		}
		opened(t, key, whole[:n], whole[:ends[last]]).everything()
	}
	if last != 14 {
		t.Errorf("%d frames behind the first", last)
	}
}

// Behind a frame with a changed byte nothing counts, nor does it itself.
func TestP8ChangedAtEveryByte(t *testing.T) {
	whole := lively(t).s.Journal()
	for i := len(ofTight); i < len(whole); {
		end := i + 10 + int(whole[i])
		for at := i; at < end; at++ {
			for _, bits := range []byte{1, 3, 0x80, 0xff} {
				opened(t, key, flipped(whole, at, bits), whole[:i])
			}
		}
		i = end
	}
}

// A byte changed in what a frame holds, and its sum with it.
func TestP8ChangedWithItsSum(t *testing.T) {
	whole := lively(t).s.Journal()
	for i := len(ofTight); i < len(whole); {
		end := i + 10 + int(whole[i])
		held := whole[i+6 : end-4]
		for at := range held {
			for x := 1; x < 256; x++ {
				opens(t, key, whole[:i]+framed(flipped(held, at, byte(x)))+whole[end:])
			}
		}
		i = end
	}
}

func TestP8WrongFrames(t *testing.T) {
	right := ofTight + joined("S0\x01a", "S0\x01b")
	one := framed("S1\x01c")
	length := "\x04\x00"
	for what, wrong := range map[string]string{
		"no length":                   one[:1],
		"half a length's sum":         one[:4],
		"a length alone":              one[:6],
		"a wrong sum of the length":   length + crc("\x05\x00") + one[6:],
		"no sum of the length":        length + one[6:],
		"a length one less":           "\x03\x00" + crc("\x03\x00") + one[6:],
		"a length one more":           "\x05\x00" + crc("\x05\x00") + one[6:],
		"a length, the higher first":  "\x00\x04" + crc("\x00\x04") + one[6:],
		"a length 256 more":           "\x04\x01" + crc("\x04\x01") + one[6:],
		"a length beyond all":         "\xff\xff" + crc("\xff\xff") + one[6:],
		"a sum of all":                length + crc(length) + one[6:10] + crc(length+"S1\x01c"),
		"a sum, the highest first":    length + crc(length) + one[6:10] + one[13:14] + one[12:13] + one[11:12] + one[10:11],
		"no sum":                      one[:10],
		"a byte between":              "\x00" + one,
		"more bytes held":             framed("S1\x01cc"),
		"zeros held behind":           framed("S1\x01c\x00"),
		"two requests in one":         framed("S1\x01cS1\x01e"),
		"nothing held":                framed(""),
		"another letter":              framed("X"),
		"a small letter":              framed("s1\x01c"),
		"another tenant":              framed("S4\x01c"),
		"an entry of no bytes":        framed("S1\x00"),
		"an entry of 25 bytes":        framed("S1\x19" + strings.Repeat("c", 25)),
		"a part of an entry":          framed("S1\x02c"),
		"a first frame":               ofTight,
		"another first frame":         firstFrame("\x01\x04\x03\x05", key),
		"taken before":                framed("S0\x01a"),
		"taken before, of another":    framed("S3\x01b"),
		"a frame in a frame":          framed(framed("S1\x01c")),
		"a tick of nothing":           framed("T"),
		"a tick with one fewer":       framed("T\x00"),
		"a tick with another":         framed("T\x00\x02"),
		"a tick in another order":     framed("T\x01\x00"),
		"a tick with one twice":       framed("T\x00\x00"),
		"a tick with one more":        framed("T\x00\x01\x02"),
		"a tick with one more, again": framed("T\x00\x01\x01"),
		"a tick by digits":            framed("T01"),
		"a small tick":                framed("t\x00\x01"),
	} {
		t.Run(what, func(t *testing.T) {
			for _, behind := range []string{"", one, framed("T\x00\x01"), one + framed("T\x00\x02"), right, "x"} {
				b := opened(t, key, right+wrong+behind, right)
				b.takes("1c")
				b.ticks("a c")
				b.ticks("a c b")
				b.everything()
			}
		})
	}
	opened(t, key, right+one, right+one)
	opened(t, key, right+framed("T\x00\x01"), right+framed("T\x00\x01"))
}

// All lists of up to four of the numbers that there are, and of one that is not.
func TestP8TicksOfAllNumbers(t *testing.T) {
	b := begin(t, api.Config{Batch: 3, Queue: 6, Quota: 3, Delay: 5, Key: key})
	b.takes("2a", "1b", "1c", "0d")
	begun := b.s.Journal()
	right := 0
	var try func(held string)
	try = func(held string) {
		got, _ := opens(t, key, begun+framed(held)+framed("S3\x01z"))
		if got.s.Journal() != begun {
			right++
			if held != "T\x03\x01\x00" {
				t.Errorf("%x is right", held)
			}
		}
		for n := 0; n <= 4 && len(held) < 5; n++ {
			try(held + string([]byte{byte(n)}))
		}
	}
	try("T")
	if right != 1 {
		t.Errorf("%d are right", right)
	}
}

func TestP8RefusedAsBusy(t *testing.T) {
	b := begin(t, tight)
	b.takes("0a", "0b", "0c")
	quota := b.s.Journal()
	opened(t, key, quota+joined("S0\x01d", "S1\x01d"), quota)
	b.takes("1d")
	queue := b.s.Journal()
	opened(t, key, quota+framed("S1\x01d"), queue)
	for tenant := range 4 {
		opened(t, key, queue+joined(request(tenant, "e"), "T\x00\x03"), queue)
	}
	b.ticks("a d")
	b.takes("1e")
	opened(t, key, queue+joined("T\x00\x03", "S1\x01e"), b.s.Journal())
}

func TestP8RefusedAsFull(t *testing.T) {
	b := grown(t, 100)
	full := b.s.Journal()
	opened(t, key, full, full)
	opened(t, key, full+joined("S0\x03new", "T"), full)
	b.tick()
	opened(t, key, full+joined("T", "S0\x03new"), b.s.Journal())
	opened(t, key, b.s.Journal(), b.s.Journal()).answers(api.ErrFull, "S0\x03new")

	waits := grown(t, 99)
	waits.answers(api.OK, "S0\x04last")
	opened(t, key, waits.s.Journal()+joined("S1\x03new"), waits.s.Journal())
}

// The last tick at which an entry is taken, the one behind it, and the end of time.
func TestP8AtTheEndOfTime(t *testing.T) {
	for _, c := range []api.Config{tight, {Batch: 8, Queue: 24, Quota: 24, Delay: 60, Key: key}} {
		b := begin(t, c)
		b.ticksTo(300 - c.Delay)
		inTime := b.s.Journal()
		opened(t, key, inTime+framed("S0\x01a"), inTime+framed("S0\x01a"))
		late := inTime + framed("T")
		opened(t, key, late+framed("S0\x01a"), late)
		b.ticksTo(299)
		all := b.s.Journal() + framed("T")
		last := opened(t, key, all, all)
		opened(t, key, all+framed("T"), all)
		if _, e := last.tick(); e != api.ErrFull {
			t.Errorf("behind the last tick: %d", e)
		}
		last.everything()
	}
}

// What has come of a tenant with a deadline counts on, whether it waits or not.
func TestP8OrderGoesOn(t *testing.T) {
	for taken := range 4 {
		b := begin(t, api.Config{Batch: 1, Queue: 8, Quota: 4, Delay: 9, Key: key})
		b.tick()
		b.takes("2a", "2b", "1c", "2d")
		for range taken {
			b.tick()
		}
		b = opened(t, key, b.s.Journal(), b.s.Journal())
		b.takes("0e", "2f", "1g")
		for range 9 {
			b.tick()
		}
		b.everything()
	}
}

// Frames of any kinds, mostly right ones, held against the model.
func TestP8AtRandom(t *testing.T) {
	r := rand.New(rand.NewSource(8))
	for range 300 {
		b := begin(t, anyConfig(r))
		for range r.Intn(60) {
			if r.Intn(3) == 0 {
				b.tick()
			} else {
				b.submit(request(r.Intn(4), fmt.Sprint(r.Intn(40))))
			}
		}
		for range 10 {
			b.opensOn(r, spoilt(r, b.s.Journal()))
		}
	}
}

// spoilt is a journal with a few frames left out, told twice, made or broken.
func spoilt(r *rand.Rand, journal string) string {
	at := 10 + int(journal[0])
	all := journal[:at]
	for at < len(journal) {
		end := at + 10 + int(journal[at])
		one := journal[at:end]
		at = end
		switch r.Intn(60) {
		case 0:
		case 1:
			all += one + one
		case 2:
			all += one + framed("T")
		case 3:
			all += framed(request(r.Intn(4), fmt.Sprint(r.Intn(60)))) + one
		case 4:
			all += flipped(one, r.Intn(len(one)), byte(1+r.Intn(255)))
		default:
			all += one
		}
	}
	return all
}

// opensOn holds what is opened, and goes on for a while, against the model.
func (b both) opensOn(r *rand.Rand, journal string) {
	b.t.Helper()
	on, ok := opens(b.t, b.m.c.Key, journal)
	if !ok {
		b.t.Fatal("no server")
	}
	for range 5 {
		on.submit(request(r.Intn(4), fmt.Sprint(r.Intn(60))))
		on.tick()
	}
	on.looks(r)
}
