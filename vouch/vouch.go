// Package vouch takes entries, promises by when they are in a log, and keeps its promises. See DOC.md.
package vouch

import (
	"vouch/api"
	"vouch/digest"
	"vouch/tree"
)

// Leaf is the hash of an entry (P3).
func Leaf(entry string) string { return tree.Leaf(entry) }

// Root is the hash of a list of entries (P3).
func Root(entries []string) string { return tree.Root(entries) }

// Tag is the mark of some bytes by a key (P3).
func Tag(key string, text string) string { return digest.Tag(key, text) }

// Audit looks at a promise (P5).
func Audit(key string, p api.Promise, h api.Head, index int, list []string) api.Verdict {
	switch {
	case p.Tag != promiseTag(key, p):
		return api.BadPromise
	case h.Tag != headTag(key, h):
		return api.BadHead
	case tree.ShowsEntry(list, p.Leaf, index, h.Size, h.Root):
		return api.Kept
	case h.Tick >= p.Deadline:
		return api.Broken
	}
	return api.Open
}

// Compare looks at two heads (P6).
func Compare(key string, old api.Head, now api.Head, list []string) api.Verdict {
	switch {
	case old.Tag != headTag(key, old), now.Tag != headTag(key, now):
		return api.BadHead
	case old.Size == 0 && len(list) == 0:
		return api.Kept
	case tree.ShowsStart(list, old.Size, old.Root, now.Size, now.Root):
		return api.Kept
	}
	return api.Broken
}

// Server takes entries.
type Server struct{}

// New makes a server (P7).
func New(c api.Config) (*Server, api.Errno) { return nil, api.OK }

// Open makes a server of a journal (P8).
func Open(key string, journal string) (*Server, api.Errno) { return nil, api.OK }

// Journal tells what the server is written as (P9).
func (s *Server) Journal() string { return "" }

// Stop lets the journal stop when so many bytes more have been written (P9).
func (s *Server) Stop(after int) api.Errno { return api.OK }

// Submit takes an entry (P10).
func (s *Server) Submit(request string) (api.Promise, api.Errno) { return api.Promise{}, api.OK }

// Tick lets time go on (P11).
func (s *Server) Tick() (api.Head, api.Errno) { return api.Head{}, api.OK }

// Head tells what was published at a tick (P12).
func (s *Server) Head(tick int) (api.Head, api.Errno) { return api.Head{}, api.OK }

// Waiting tells how many entries wait (P12).
func (s *Server) Waiting() int { return 0 }

// Inclusion tells where an entry is, and what shows it (P12).
func (s *Server) Inclusion(leaf string, size int) (int, []string, api.Errno) { return 0, nil, api.OK }

// Consistency tells what shows that the log has only grown (P12).
func (s *Server) Consistency(m int, n int) ([]string, api.Errno) { return nil, api.OK }
