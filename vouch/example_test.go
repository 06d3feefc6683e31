package vouch_test

import (
	"fmt"

	"vouch/api"
	"vouch/vouch"
)

// The example of README.md.
func Example() {
	s, _ := vouch.New(api.Config{Batch: 2, Queue: 4, Quota: 3, Delay: 3, Key: "key"})
	p, _ := s.Submit("S0\x01a")
	s.Submit("S0\x01b")
	s.Submit("S1\x01c")

	old, _ := s.Tick()
	now, _ := s.Tick()
	fmt.Println(p.Deadline, old.Size, now.Size)

	index, list, _ := s.Inclusion(p.Leaf, now.Size)
	fmt.Println(vouch.Audit("key", p, now, index, list) == api.Kept)

	list, _ = s.Consistency(old.Size, now.Size)
	fmt.Println(vouch.Compare("key", old, now, list) == api.Kept)

	s.Stop(20)
	q, _ := s.Submit("S2\x01d")
	_, e := s.Tick()
	fmt.Println(e == api.ErrDown)

	s, _ = vouch.Open("key", s.Journal())
	last, _ := s.Tick()
	index, list, _ = s.Inclusion(q.Leaf, last.Size)
	fmt.Println(vouch.Audit("key", q, last, index, list) == api.Kept)
	// Output:
	// 3 2 3
	// true
	// true
	// true
	// true
}
