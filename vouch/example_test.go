package vouch_test

import (
	"fmt"

	"vouch/api"
	"vouch/vouch"
)

// The example of README.md.
func ExampleAudit() {
	a, b := vouch.Leaf("a"), vouch.Leaf("b")
	p := api.Promise{Leaf: b, Deadline: 3}
	p.Tag = vouch.Tag("key", "P"+b+"\x00\x00\x00\x03")
	h := api.Head{Size: 2, Tick: 3, Root: vouch.Root([]string{"a", "b"})}
	h.Tag = vouch.Tag("key", "H"+"\x00\x00\x00\x02"+"\x00\x00\x00\x03"+h.Root)

	fmt.Println(vouch.Audit("key", p, h, 1, []string{a}) == api.Kept)
	fmt.Println(vouch.Audit("key", p, h, 1, nil) == api.Broken)
	// Output:
	// true
	// true
}
