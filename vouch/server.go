package vouch

import (
	"math"
	"slices"
	"strings"

	"vouch/api"
	"vouch/frame"
	"vouch/queue"
	"vouch/tree"
)

// Server takes entries.
type Server struct {
	up       bool // not where the journal has stopped, nor where all is zeros
	config   api.Config
	journal  []byte
	left     int            // how many bytes more can be written: without a Stop, more than there will ever be
	promised map[string]int // by entry: its deadline
	waiting  queue.Queue
	log      []string
	sizes    []int // of the log, at each tick from 1 on
}

// New makes a server (P7).
func New(c api.Config) (*Server, api.Errno) {
	if !mayBe(c) {
		return nil, api.ErrConfig
	}
	c.Key = strings.Clone(c.Key)
	s := &Server{up: true, config: c, left: math.MaxInt, promised: map[string]int{}, waiting: queue.New()}
	s.write(frame.First(c))
	return s, api.OK
}

// Open makes a server of a journal (P8).
func Open(key string, journal string) (*Server, api.Errno) {
	held, rest, ok := frame.Next(journal)
	if !ok {
		return nil, api.ErrBytes
	}
	c, ok := frame.ReadFirst(held, key)
	if !ok {
		return nil, api.ErrBytes
	}
	s, e := New(c)
	if e != api.OK {
		return nil, api.ErrBytes
	}
	s.redoAll(rest)
	return s, api.OK
}

// Journal tells what the server is written as (P9).
func (s *Server) Journal() string {
	if s == nil {
		return ""
	}
	return string(s.journal)
}

// Stop lets the journal stop when so many bytes more have been written (P9).
func (s *Server) Stop(after int) api.Errno {
	if s.down() {
		return api.ErrDown
	}
	s.left = max(after, 0)
	return api.OK
}

// Submit takes an entry (P10).
func (s *Server) Submit(request string) (api.Promise, api.Errno) {
	if s.down() {
		return api.Promise{}, api.ErrDown
	}
	asked, ok := readRequest(request)
	if !ok {
		return api.Promise{}, api.ErrRequest
	}
	if deadline, ok := s.promised[asked.entry]; ok {
		return s.promise(asked.entry, deadline), api.OK
	}
	if refusal := s.refusal(asked.tenant); refusal != api.OK {
		return api.Promise{}, refusal
	}
	if !s.take(request, asked) {
		return api.Promise{}, api.ErrDown
	}
	return s.promise(asked.entry, s.deadline()), api.OK
}

// Tick lets time go on (P11).
func (s *Server) Tick() (api.Head, api.Errno) {
	if s.down() {
		return api.Head{}, api.ErrDown
	}
	if s.tick() == api.MaxTick {
		return api.Head{}, api.ErrFull
	}
	if !s.settle(s.waiting.First(s.config.Batch)) {
		return api.Head{}, api.ErrDown
	}
	return s.head(s.tick()), api.OK
}

// Head tells what was published at a tick (P12).
func (s *Server) Head(tick int) (api.Head, api.Errno) {
	if s.down() {
		return api.Head{}, api.ErrDown
	}
	if tick < 1 || tick > s.tick() {
		return api.Head{}, api.ErrNone
	}
	return s.head(tick), api.OK
}

// Waiting tells how many entries wait (P12).
func (s *Server) Waiting() int {
	if s.down() {
		return 0
	}
	return s.waiting.Len()
}

// Inclusion tells where an entry is, and what shows it (P12).
func (s *Server) Inclusion(leaf string, size int) (int, []string, api.Errno) {
	if s.down() {
		return 0, nil, api.ErrDown
	}
	if size < 1 || size > len(s.log) {
		return 0, nil, api.ErrNone
	}
	first := s.log[:size]
	i := slices.IndexFunc(first, func(entry string) bool { return tree.Leaf(entry) == leaf })
	if i < 0 {
		return 0, nil, api.ErrNone
	}
	return i, tree.WhatShowsEntry(first, i), api.OK
}

// Consistency tells what shows that the log has only grown (P12).
func (s *Server) Consistency(m int, n int) ([]string, api.Errno) {
	if s.down() {
		return nil, api.ErrDown
	}
	if m < 1 || m > n || n > len(s.log) {
		return nil, api.ErrNone
	}
	return tree.WhatShowsStart(s.log[:n], m), api.OK
}
