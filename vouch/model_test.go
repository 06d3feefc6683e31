package vouch_test

import (
	"encoding/binary"
	"fmt"
	"hash/crc32"
	"slices"
	"strings"
	"testing"

	"vouch/api"
	"vouch/vouch"
)

// model is a server told another way: it keeps all that was taken in one list,
// and asks the document's rules of it anew each time.
type model struct {
	c       api.Config
	taken   []taken // as they came
	log     []string
	heads   []api.Head // from tick 1 on
	journal string
	end     int // how long the journal may become; -1, if it has no end
	down    bool
}

type taken struct {
	tenant   int
	entry    string
	deadline int
	waits    bool
}

func newModel(c api.Config) *model {
	limits := string([]byte{byte(c.Batch), byte(c.Queue), byte(c.Quota), byte(c.Delay)})
	return &model{c: c, journal: framed("VOUCH" + limits + sum(c.Key)), end: -1}
}

func crc(text string) string {
	return string(binary.LittleEndian.AppendUint32(nil, crc32.ChecksumIEEE([]byte(text))))
}

func framed(held string) string {
	length := string(binary.LittleEndian.AppendUint16(nil, uint16(len(held))))
	return length + crc(length) + held + crc(held)
}

func request(tenant int, entry string) string {
	return fmt.Sprintf("S%d", tenant) + string([]byte{byte(len(entry))}) + entry
}

func isRequest(text string) bool {
	for tenant := range 4 {
		for n := 1; n <= 24; n++ {
			if len(text) == 3+n && text == request(tenant, text[3:]) {
				return true
			}
		}
	}
	return false
}

// waits is how many entries of the tenants wait.
func (m *model) waits(tenants ...int) int {
	n := 0
	for _, x := range m.taken {
		if x.waits && slices.Contains(tenants, x.tenant) {
			n++
		}
	}
	return n
}

func (m *model) stop(after int) api.Errno {
	if m.down {
		return api.ErrDown
	}
	m.end = len(m.journal)
	if after > 0 {
		m.end += min(after, 1<<40)
	}
	return api.OK
}

// writes tells whether the journal has room for a frame.
func (m *model) writes(held string) bool {
	m.journal += framed(held)
	if m.end >= 0 && len(m.journal) > m.end {
		m.journal = m.journal[:m.end]
		m.down = true
	}
	return !m.down
}

func (m *model) submit(text string) (api.Promise, api.Errno) {
	if m.down {
		return api.Promise{}, api.ErrDown
	}
	if !isRequest(text) {
		return api.Promise{}, api.ErrRequest
	}
	tenant, entry := int(text[1]-'0'), text[3:]
	for _, x := range m.taken {
		if x.entry == entry {
			return m.promise(x), api.OK
		}
	}
	x := taken{tenant, entry, len(m.heads) + m.c.Delay, true}
	switch {
	case len(m.taken) == 100 || x.deadline > 300:
		return api.Promise{}, api.ErrFull
	case m.waits(0, 1, 2, 3) == m.c.Queue || m.waits(tenant) == m.c.Quota:
		return api.Promise{}, api.ErrBusy
	}
	if !m.writes(text) {
		return api.Promise{}, api.ErrDown
	}
	m.taken = append(m.taken, x)
	return m.promise(x), api.OK
}

func (m *model) promise(x taken) api.Promise {
	leaf := sum("\x00", x.entry)
	return api.Promise{Leaf: leaf, Deadline: x.deadline, Tag: mac(m.c.Key, "P"+leaf+number(x.deadline))}
}

func (m *model) tick() (api.Head, api.Errno) {
	if m.down {
		return api.Head{}, api.ErrDown
	}
	if len(m.heads) == 300 {
		return api.Head{}, api.ErrFull
	}
	held := "T"
	for range min(m.c.Batch, m.waits(0, 1, 2, 3)) {
		i := m.next()
		m.taken[i].waits = false
		m.log = append(m.log, m.taken[i].entry)
		held += string([]byte{byte(i)})
	}
	if !m.writes(held) {
		return api.Head{}, api.ErrDown
	}
	size, tick, root := len(m.log), len(m.heads)+1, rootOf(m.log)
	h := api.Head{Size: size, Tick: tick, Root: root, Tag: mac(m.c.Key, "H"+number(size)+number(tick)+root)}
	m.heads = append(m.heads, h)
	return h, api.OK
}

// next is the number of the first of what waits.
func (m *model) next() int {
	best := -1
	for i, x := range m.taken {
		if x.waits && (best < 0 || slices.Compare(m.order(i), m.order(best)) < 0) {
			best = i
		}
	}
	return best
}

func (m *model) order(i int) []int {
	x, ahead := m.taken[i], 0
	for _, y := range m.taken[:i] {
		if y.tenant == x.tenant && y.deadline == x.deadline {
			ahead++
		}
	}
	return []int{x.deadline, ahead, x.tenant}
}

func (m *model) head(tick int) (api.Head, api.Errno) {
	if m.down {
		return api.Head{}, api.ErrDown
	}
	if tick < 1 || tick > len(m.heads) {
		return api.Head{}, api.ErrNone
	}
	return m.heads[tick-1], api.OK
}

func (m *model) inclusion(leaf string, size int) (int, []string, api.Errno) {
	if m.down {
		return 0, nil, api.ErrDown
	}
	for i, entry := range m.log {
		if i < size && size <= len(m.log) && sum("\x00", entry) == leaf {
			return i, showsEntry(i, m.log[:size]), api.OK
		}
	}
	return 0, nil, api.ErrNone
}

func (m *model) consistency(old, now int) ([]string, api.Errno) {
	if m.down {
		return nil, api.ErrDown
	}
	if old < 1 || old > now || now > len(m.log) {
		return nil, api.ErrNone
	}
	return showsStart(old, m.log[:now], true), api.OK
}

// both is a server and the model of it: what is asked is asked of both.
type both struct {
	t *testing.T
	s *vouch.Server
	m *model
}

func begin(t *testing.T, c api.Config) both {
	t.Helper()
	s, e := vouch.New(c)
	if s == nil || e != api.OK {
		t.Fatalf("New(%#v): %d", c, e)
	}
	return both{t, s, newModel(c)}
}

func (b both) stop(after int) api.Errno {
	b.t.Helper()
	e, want := b.s.Stop(after), b.m.stop(after)
	if e != want {
		b.t.Fatalf("Stop(%d): %d, want %d", after, e, want)
	}
	b.state()
	return e
}

func (b both) submit(text string) (api.Promise, api.Errno) {
	b.t.Helper()
	got, e := b.s.Submit(text)
	want, f := b.m.submit(text)
	if got != want || e != f {
		b.t.Fatalf("Submit(%q): %#v, %d, want %#v, %d", text, got, e, want, f)
	}
	b.state()
	return got, e
}

// takes hands entries in, each with its tenant's digit ahead; all must be taken.
func (b both) takes(list ...string) {
	b.t.Helper()
	for _, x := range list {
		b.answers(api.OK, request(int(x[0]-'0'), x[1:]))
	}
}

func (b both) answers(want api.Errno, text string) {
	b.t.Helper()
	if _, e := b.submit(text); e != want {
		b.t.Fatalf("Submit(%q): %d, want %d", text, e, want)
	}
}

func (b both) tick() (api.Head, api.Errno) {
	b.t.Helper()
	got, e := b.s.Tick()
	want, f := b.m.tick()
	if got != want || e != f {
		b.t.Fatalf("Tick: %#v, %d, want %#v, %d", got, e, want, f)
	}
	b.state()
	return got, e
}

// ticks lets a tick go by, behind which the log is as told.
func (b both) ticks(log string) {
	b.t.Helper()
	h, e := b.tick()
	if want := strings.Fields(log); e != api.OK || h.Size != len(want) || h.Root != rootOf(want) {
		b.t.Fatalf("Tick: %d, the log is %q, want %q", e, b.m.log, want)
	}
}

// ticksTo lets time go on to a tick.
func (b both) ticksTo(tick int) {
	b.t.Helper()
	for len(b.m.heads) < tick && !b.m.down {
		b.tick()
	}
}

// state holds what waits and what is written against the model.
func (b both) state() {
	b.t.Helper()
	want := b.m.waits(0, 1, 2, 3)
	if b.m.down {
		want = 0
	}
	if got := b.s.Waiting(); got != want {
		b.t.Fatalf("%d wait, want %d", got, want)
	}
	if got := b.s.Journal(); got != b.m.journal {
		b.t.Fatalf("the journal is %x, want %x", got, b.m.journal)
	}
}

func (b both) head(tick int) {
	b.t.Helper()
	got, e := b.s.Head(tick)
	want, f := b.m.head(tick)
	if got != want || e != f {
		b.t.Errorf("Head(%d): %#v, %d, want %#v, %d", tick, got, e, want, f)
	}
}

func (b both) inclusion(leaf string, size int) {
	b.t.Helper()
	i, list, e := b.s.Inclusion(leaf, size)
	j, want, f := b.m.inclusion(leaf, size)
	if i != j || !slices.Equal(list, want) || e != f {
		b.t.Errorf("Inclusion(%x, %d) of %d: %d, %x, %d, want %d, %x, %d", leaf, size, len(b.m.log), i, list, e, j, want, f)
	}
}

func (b both) consistency(old, now int) {
	b.t.Helper()
	list, e := b.s.Consistency(old, now)
	want, f := b.m.consistency(old, now)
	if !slices.Equal(list, want) || e != f {
		b.t.Errorf("Consistency(%d, %d) of %d: %x, %d, want %x, %d", old, now, len(b.m.log), list, e, want, f)
	}
}

// everything asks all that can be asked without a change.
func (b both) everything() {
	b.t.Helper()
	b.state()
	for tick := -1; tick <= len(b.m.heads)+1; tick++ {
		b.head(tick)
	}
	for n := -1; n <= len(b.m.log)+1; n++ {
		for m := -1; m <= n+1; m++ {
			b.consistency(m, n)
		}
		for _, x := range b.m.taken {
			b.inclusion(sum("\x00", x.entry), n)
		}
	}
}
