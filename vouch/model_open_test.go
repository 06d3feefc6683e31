package vouch_test

import (
	"slices"
	"strings"
	"testing"

	"vouch/api"
	"vouch/vouch"
)

// may tells whether a configuration may be, with the division told another way.
func may(c api.Config) bool {
	ticks := 0
	for room := 0; c.Batch > 0 && room < c.Queue; room += c.Batch {
		ticks++
	}
	return c.Batch >= 1 && c.Batch <= 8 && c.Queue >= 1 && c.Queue <= 24 &&
		c.Quota >= 1 && c.Quota <= c.Queue && c.Delay > ticks && c.Delay <= 60 && len(c.Key) <= 16
}

// openModel is the model of a server that is opened on a journal; nil, if none can be.
func openModel(key, journal string) *model {
	if len(journal) < 15 {
		return nil
	}
	limits := journal[11:15]
	m := newModel(api.Config{Batch: int(limits[0]), Queue: int(limits[1]), Quota: int(limits[2]), Delay: int(limits[3]), Key: key})
	if !may(m.c) || !strings.HasPrefix(journal, m.journal) {
		return nil
	}
	for {
		next := m.goesOn(journal)
		if next == nil {
			return m
		}
		m = next
	}
}

// goesOn asks of copies what may have been asked, until what one of them has
// written is what the journal goes on with; nil, if none has.
func (m *model) goesOn(journal string) *model {
	ticked := m.copied()
	ticked.tick()
	if ticked.wrote(m, journal) {
		return ticked
	}
	rest := journal[len(m.journal):]
	if len(rest) < 9 || len(rest) < 9+int(rest[8]) {
		return nil
	}
	asked := m.copied()
	asked.submit(rest[6 : 9+int(rest[8])])
	if asked.wrote(m, journal) {
		return asked
	}
	return nil
}

func (m *model) copied() *model {
	other := *m
	other.taken = slices.Clone(m.taken)
	other.log = slices.Clone(m.log)
	other.heads = slices.Clone(m.heads)
	return &other
}

// wrote tells whether more is written than in m, and all of it as in the journal.
func (m *model) wrote(old *model, journal string) bool {
	return len(m.journal) > len(old.journal) && strings.HasPrefix(journal, m.journal)
}

// opens holds Open against the model; it is not ok where there is no server.
func opens(t *testing.T, key, journal string) (both, bool) {
	t.Helper()
	s, e := vouch.Open(key, journal)
	m := openModel(key, journal)
	if m == nil {
		if s != nil || e != api.ErrBytes {
			t.Fatalf("Open(%q, %x): %d, want %d", key, journal, e, api.ErrBytes)
		}
		return both{}, false
	}
	if s == nil || e != api.OK {
		t.Fatalf("Open(%q, %x): %d, want %d", key, journal, e, api.OK)
	}
	b := both{t, s, m}
	b.state()
	return b, true
}

// opened is a server on all of what is right, which must be this.
func opened(t *testing.T, key, journal, right string) both {
	t.Helper()
	b, ok := opens(t, key, journal)
	if !ok {
		t.Fatalf("no server on %x", journal)
	}
	if got := b.s.Journal(); got != right {
		t.Fatalf("opened on %x: %x, want %x", journal, got, right)
	}
	return b
}

func notOpened(t *testing.T, what, key, journal string) {
	t.Helper()
	if s, e := vouch.Open(key, journal); s != nil || e != api.ErrBytes {
		t.Errorf("%s: Open(%q, %x): %d, want %d", what, key, journal, e, api.ErrBytes)
	}
	opens(t, key, journal)
}
