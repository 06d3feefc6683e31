package vouch_test

import (
	"fmt"
	"math/rand"
	"strings"
	"testing"
	"unsafe"

	"vouch/api"
	"vouch/vouch"
)

// A nil server, and one that neither New nor Open has made.
func TestP1WithoutAServer(t *testing.T) {
	for what, s := range map[string]*vouch.Server{"nil": nil, "zeros": {}} {
		for _, n := range oddNumbers {
			for _, text := range []string{"", "S0\x01a", "any"} {
				downCalls(t, s, n, text)
				if s.Journal() != "" {
					t.Errorf("%s: %q is written", what, s.Journal())
				}
			}
		}
	}
}

func TestP1StopAtOddNumbers(t *testing.T) {
	for _, n := range oddNumbers {
		b := begin(t, tight)
		b.stop(n)
		b.submit("S0\x01a")
		b.everything()
	}
}

// An error changes nothing: held against a model that only the other calls change.
func TestP1ErrorsChangeNothing(t *testing.T) {
	b := begin(t, api.Config{Batch: 2, Queue: 3, Quota: 2, Delay: 3, Key: key})
	wrong := func() {
		t.Helper()
		for _, n := range []int{-1, 0, 1000} {
			b.s.Head(n)
			b.s.Inclusion(vouch.Leaf("none"), n)
			b.s.Consistency(n, 2)
		}
		b.s.Submit("none")
		b.everything()
	}
	wrong()
	b.takes("0a", "0b", "1c")
	b.answers(api.ErrBusy, request(0, "x"))
	b.answers(api.ErrBusy, request(3, "x"))
	wrong()
	b.ticks("a c")
	wrong()
	b.ticksTo(300)
	b.answers(api.ErrFull, request(3, "x"))
	b.tick()
	wrong()
}

// Open ends and does not panic, whatever it is given.
func TestP1OpenOfAnyBytes(t *testing.T) {
	r := rand.New(rand.NewSource(11))
	long := string(make([]byte, 1<<22))
	for _, k := range []string{"", key, long} {
		for _, text := range append(anyStrings(r, 500), "", long, strings.Repeat(ofTight, 1000), strings.Repeat(framed(""), 1000)) {
			opens(t, k, text)
			opens(t, k, framed(text[:min(len(text), 65535)]))
			if k == key {
				opened(t, k, ofTight+text, ofTight)
				opened(t, k, ofTight+framed("T")+text, ofTight+framed("T"))
				opened(t, k, ofTight+framed(text[:min(len(text), 65535)]), ofTight)
			}
		}
	}
}

// Open changes neither the server whose journal it is given nor one that was
// opened on it before.
func TestP2OpenedServersAreApart(t *testing.T) {
	a := lively(t)
	journal := a.s.Journal()
	b := opened(t, key, journal, journal)
	c := opened(t, key, journal, journal)
	b.takes("3b", "1x")
	b.ticks("cc a d b eeeeeeeeeeeeeeeeeeeeeeee f g h x")
	c.takes("2y")
	c.stop(3)
	c.tick()
	a.takes("2z")
	a.tick()
	for _, x := range []both{a, b, c, opened(t, key, journal, journal)} {
		x.everything()
	}
}

func TestP2ServersAreApart(t *testing.T) {
	a := begin(t, roomy)
	b := begin(t, roomy)
	c := begin(t, api.Config{Batch: 1, Queue: 2, Quota: 1, Delay: 9, Key: "other"})
	for i := range 20 {
		a.submit(request(i%4, fmt.Sprint("entry ", i)))
		b.submit(request(1, fmt.Sprint("entry ", 2*i)))
		c.submit(request(i%3, fmt.Sprint("entry ", i)))
		if i%3 == 0 {
			a.tick()
			c.tick()
		}
	}
	b.tick()
	a.everything()
	b.everything()
	c.everything()
}

// text is a string whose bytes can be changed behind the program's back, to
// see that it has kept none of them.
func text(from string) (string, []byte) {
	b := []byte(from)
	return unsafe.String(&b[0], len(b)), b
}

func TestP2NothingHandedInIsKept(t *testing.T) {
	k, ofKey := text(key)
	s, _ := vouch.New(api.Config{Batch: 1, Queue: 4, Quota: 4, Delay: 5, Key: k})
	m := newModel(api.Config{Batch: 1, Queue: 4, Quota: 4, Delay: 5, Key: key})
	clear(ofKey)
	b := both{t, s, m}
	for _, entry := range []string{"a", "b", "c"} {
		r, ofRequest := text(request(1, entry))
		s.Submit(r)
		m.submit(request(1, entry))
		clear(ofRequest)
		b.everything()
	}
	b.ticks("a")
	leaf, ofLeaf := text(vouch.Leaf("a"))
	b.inclusion(leaf, 1)
	clear(ofLeaf)
	b.takes("0a", "2b", "0d")
	b.ticks("a b")
	b.ticks("a b c")
	b.ticks("a b c d")
	b.everything()
}

func TestP2NothingThatOpenIsGivenIsKept(t *testing.T) {
	whole := lively(t).s.Journal()
	k, ofKey := text(key)
	journal, ofJournal := text(whole)
	s, e := vouch.Open(k, journal)
	if e != api.OK || k != key || journal != whole {
		t.Fatalf("Open: %d, or what it is given was written into", e)
	}
	clear(ofKey)
	clear(ofJournal)
	b := both{t, s, openModel(key, whole)}
	b.everything()
	b.takes("0a", "3b", "1eeeeeeeeeeeeeeeeeeeeeeee", "0new")
	b.tick()
	b.tick()
	b.everything()
}

// A journal stays as it was told, also when it has stopped since.
func TestP2JournalIsNewMemoryAtAStop(t *testing.T) {
	for after := range 40 {
		b := begin(t, roomy)
		b.takes("0a")
		b.stop(after)
		told := b.s.Journal()
		whole := strings.Clone(told)
		b.submit("S1\x01b")
		b.tick()
		b.tick()
		if told != whole || !strings.HasPrefix(b.s.Journal(), told) {
			t.Errorf("Stop(%d): the journal has changed", after)
		}
	}
}

// Lists that are written into, spare room too, change no later answer.
func TestP2ListsAreNewMemory(t *testing.T) {
	b := grown(t, 13)
	spoil := func(list []string) {
		list = list[:cap(list)]
		for i := range list {
			list[i] = "spoiled"
		}
	}
	for m := 1; m <= 13; m++ {
		for n := m; n <= 13; n++ {
			_, list, _ := b.s.Inclusion(vouch.Leaf(fmt.Sprint("entry ", m-1)), n)
			other, _ := b.s.Consistency(m, n)
			whole := strings.Join(other, "")
			spoil(list)
			if strings.Join(other, "") != whole {
				t.Fatalf("the lists of (%d, %d) share memory", m, n)
			}
			spoil(other)
		}
	}
	b.everything()
	b.submit(request(0, "more"))
	b.tick()
	b.everything()
}

// A journal that was told stays as it was when more is written.
func TestP2JournalIsNewMemory(t *testing.T) {
	b := begin(t, roomy)
	var told, copies []string
	for i := range 40 {
		told = append(told, b.s.Journal())
		copies = append(copies, strings.Clone(b.s.Journal()))
		b.submit(request(i%4, fmt.Sprint(i)))
		if i%5 == 0 {
			b.tick()
		}
	}
	for i := range told {
		if told[i] != copies[i] {
			t.Errorf("journal %d has changed", i)
		}
	}
}

// What is answered hangs on the calls alone, not on how maps or goroutines go.
func TestP2SameCallsSameAnswers(t *testing.T) {
	first := ""
	for range 40 {
		s, _ := vouch.New(api.Config{Batch: 3, Queue: 24, Quota: 12, Delay: 10, Key: key})
		all := ""
		for i := range 60 {
			p, e := s.Submit(request(i*i%3, fmt.Sprint("entry ", i)))
			all += fmt.Sprint(p, e)
			if i%4 == 3 {
				h, e := s.Tick()
				all += fmt.Sprint(h, e)
			}
		}
		all += s.Journal()
		if first == "" {
			first = all
		}
		if all != first {
			t.Fatal("other answers to the same calls")
		}
	}
}
