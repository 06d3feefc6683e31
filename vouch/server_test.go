package vouch_test

import (
	"fmt"
	"strings"
	"testing"
	"unsafe"

	"vouch/api"
	"vouch/vouch"
)

// A nil server, and one that New has not made.
func TestP1WithoutAServer(t *testing.T) {
	for what, s := range map[string]*vouch.Server{"nil": nil, "zeros": {}} {
		for _, n := range oddNumbers {
			for _, text := range []string{"", "S0\x01a", "any"} {
				nothing(t, what, s, n, text)
			}
		}
	}
}

func nothing(t *testing.T, what string, s *vouch.Server, n int, text string) {
	t.Helper()
	if s.Journal() != "" || s.Waiting() != 0 {
		t.Errorf("%s: %q is written, %d wait", what, s.Journal(), s.Waiting())
	}
	p, a := s.Submit(text)
	h, b := s.Tick()
	g, c := s.Head(n)
	i, list, d := s.Inclusion(text, n)
	other, e := s.Consistency(n, n)
	for _, got := range []api.Errno{a, b, c, d, e, s.Stop(n)} {
		if got != api.ErrDown {
			t.Errorf("%s: %d, want %d", what, got, api.ErrDown)
		}
	}
	if p != (api.Promise{}) || h != (api.Head{}) || g != h || i != 0 || len(list) > 0 || len(other) > 0 {
		t.Errorf("%s: something beside ErrDown", what)
	}
}

// An error changes nothing: held against a model that only the other calls change.
func TestP1ErrorsChangeNothing(t *testing.T) {
	b := begin(t, api.Config{Batch: 2, Queue: 3, Quota: 2, Delay: 3, Key: key})
	wrong := func() {
		t.Helper()
		for _, n := range []int{-1, 0, 1000} {
			b.s.Head(n)
			b.s.Inclusion(vouch.Leaf("none"), n)
			b.s.Consistency(n, 2)
		}
		b.s.Submit("none")
		b.everything()
	}
	wrong()
	b.takes("0a", "0b", "1c")
	b.answers(api.ErrBusy, request(0, "x"))
	b.answers(api.ErrBusy, request(3, "x"))
	wrong()
	b.ticks("a c")
	wrong()
	b.ticksTo(300)
	b.answers(api.ErrFull, request(3, "x"))
	b.tick()
	wrong()
}

func TestP2ServersAreApart(t *testing.T) {
	a := begin(t, roomy)
	b := begin(t, roomy)
	c := begin(t, api.Config{Batch: 1, Queue: 2, Quota: 1, Delay: 9, Key: "other"})
	for i := range 20 {
		a.submit(request(i%4, fmt.Sprint("entry ", i)))
		b.submit(request(1, fmt.Sprint("entry ", 2*i)))
		c.submit(request(i%3, fmt.Sprint("entry ", i)))
		if i%3 == 0 {
			a.tick()
			c.tick()
		}
	}
	b.tick()
	a.everything()
	b.everything()
	c.everything()
}

// text is a string whose bytes can be changed behind the program's back, to
// see that it has kept none of them.
func text(from string) (string, []byte) {
	b := []byte(from)
	return unsafe.String(&b[0], len(b)), b
}

func TestP2NothingHandedInIsKept(t *testing.T) {
	k, ofKey := text(key)
	s, _ := vouch.New(api.Config{Batch: 1, Queue: 4, Quota: 4, Delay: 5, Key: k})
	m := newModel(api.Config{Batch: 1, Queue: 4, Quota: 4, Delay: 5, Key: key})
	clear(ofKey)
	b := both{t, s, m}
	for _, entry := range []string{"a", "b", "c"} {
		r, ofRequest := text(request(1, entry))
		s.Submit(r)
		m.submit(request(1, entry))
		clear(ofRequest)
		b.everything()
	}
	b.ticks("a")
	leaf, ofLeaf := text(vouch.Leaf("a"))
	b.inclusion(leaf, 1)
	clear(ofLeaf)
	b.takes("0a", "2b", "0d")
	b.ticks("a b")
	b.ticks("a b c")
	b.ticks("a b c d")
	b.everything()
}

// Lists that are written into, spare room too, change no later answer.
func TestP2ListsAreNewMemory(t *testing.T) {
	b := grown(t, 13)
	spoil := func(list []string) {
		list = list[:cap(list)]
		for i := range list {
			list[i] = "spoiled"
		}
	}
	for m := 1; m <= 13; m++ {
		for n := m; n <= 13; n++ {
			_, list, _ := b.s.Inclusion(vouch.Leaf(fmt.Sprint("entry ", m-1)), n)
			other, _ := b.s.Consistency(m, n)
			whole := strings.Join(other, "")
			spoil(list)
			if strings.Join(other, "") != whole {
				t.Fatalf("the lists of (%d, %d) share memory", m, n)
			}
			spoil(other)
		}
	}
	b.everything()
	b.submit(request(0, "more"))
	b.tick()
	b.everything()
}

// A journal that was told stays as it was when more is written.
func TestP2JournalIsNewMemory(t *testing.T) {
	b := begin(t, roomy)
	var told, copies []string
	for i := range 40 {
		told = append(told, b.s.Journal())
		copies = append(copies, strings.Clone(b.s.Journal()))
		b.submit(request(i%4, fmt.Sprint(i)))
		if i%5 == 0 {
			b.tick()
		}
	}
	for i := range told {
		if told[i] != copies[i] {
			t.Errorf("journal %d has changed", i)
		}
	}
}

// What is answered hangs on the calls alone, not on how maps or goroutines go.
func TestP2SameCallsSameAnswers(t *testing.T) {
	first := ""
	for range 40 {
		s, _ := vouch.New(api.Config{Batch: 3, Queue: 24, Quota: 12, Delay: 10, Key: key})
		all := ""
		for i := range 60 {
			p, e := s.Submit(request(i*i%3, fmt.Sprint("entry ", i)))
			all += fmt.Sprint(p, e)
			if i%4 == 3 {
				h, e := s.Tick()
				all += fmt.Sprint(h, e)
			}
		}
		all += s.Journal()
		if first == "" {
			first = all
		}
		if all != first {
			t.Fatal("other answers to the same calls")
		}
	}
}
