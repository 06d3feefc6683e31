package vouch

import (
	"vouch/api"
	"vouch/frame"
)

// redoAll asks of the server anew what frames were written for, up to the first
// that it would not have written.
func (s *Server) redoAll(frames string) {
	held, rest, ok := frame.Next(frames)
	for ok && s.redo(held) {
		held, rest, ok = frame.Next(rest)
	}
}

// redo asks anew what a frame that holds this was written for. It is false, and
// nothing has changed, if the server would not have written that frame.
func (s *Server) redo(held string) bool {
	if asked, ok := readRequest(held); ok {
		return s.isNew(asked.entry) && s.refusal(asked.tenant) == api.OK && s.take(held, asked)
	}
	if s.tick() == api.MaxTick {
		return false
	}
	batch := s.waiting.First(s.config.Batch)
	return held == frame.Tick(numbers(batch)) && s.settle(batch)
}

func (s *Server) isNew(entry string) bool {
	_, before := s.promised[entry]
	return !before
}
