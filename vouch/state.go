package vouch

import (
	"strings"

	"vouch/api"
	"vouch/frame"
	"vouch/queue"
	"vouch/tree"
)

func (s *Server) down() bool {
	return s == nil || !s.up
}

func (s *Server) tick() int {
	return len(s.sizes)
}

// deadline is that of an entry which is taken now.
func (s *Server) deadline() int {
	return s.tick() + s.config.Delay
}

// write tells whether all of a frame could be written. If not, the journal has
// stopped, and is all that is kept of the server.
func (s *Server) write(held string) bool {
	whole := frame.Wrap(held)
	if len(whole) > s.left {
		*s = Server{journal: append(s.journal, whole[:s.left]...)}
		return false
	}
	s.journal = append(s.journal, whole...)
	s.left -= len(whole)
	return true
}

// refusal is why a new entry of a tenant is not taken; OK, if it is.
func (s *Server) refusal(tenant int) api.Errno {
	switch {
	case len(s.log)+s.waiting.Len() >= api.MaxLog, s.deadline() > api.MaxTick:
		return api.ErrFull
	case s.waiting.Len() >= s.config.Queue, s.waiting.Of(tenant) >= s.config.Quota:
		return api.ErrBusy
	}
	return api.OK
}

// take lets a new entry wait, if its request can be written. Its bytes are
// copied, for they are a piece of what was handed in.
func (s *Server) take(request string, a asked) bool {
	if !s.write(request) {
		return false
	}
	entry := strings.Clone(a.entry)
	number, deadline := len(s.promised), s.deadline()
	s.promised[entry] = deadline
	s.waiting.Add(queue.Item{Number: number, Tenant: a.tenant, Deadline: deadline, Entry: entry})
	return true
}

// settle ends a tick that takes a batch, if that can be written.
func (s *Server) settle(batch []queue.Item) bool {
	if !s.write(frame.Tick(numbers(batch))) {
		return false
	}
	s.waiting.Take(batch)
	for _, item := range batch {
		s.log = append(s.log, item.Entry)
	}
	s.sizes = append(s.sizes, len(s.log))
	return true
}

func numbers(batch []queue.Item) []int {
	var list []int
	for _, item := range batch {
		list = append(list, item.Number)
	}
	return list
}

// promise and head make what they answer anew each time: an entry and a size
// say all that is in it, so nothing more is kept.
func (s *Server) promise(entry string, deadline int) api.Promise {
	p := api.Promise{Leaf: tree.Leaf(entry), Deadline: deadline}
	p.Tag = promiseTag(s.config.Key, p)
	return p
}

func (s *Server) head(tick int) api.Head {
	size := s.sizes[tick-1]
	h := api.Head{Size: size, Tick: tick, Root: tree.Root(s.log[:size])}
	h.Tag = headTag(s.config.Key, h)
	return h
}
