// Package queue holds what waits, and tells what is to be taken first.
package queue

import (
	"cmp"
	"maps"
	"slices"
)

// Item is an entry that waits. Turn is how many entries with its deadline its
// tenant had handed in before it.
type Item struct {
	Number, Tenant, Deadline, Turn int
	Entry                          string
}

// Queue is what waits.
type Queue struct {
	items map[int]Item // by number
	turns map[int]int  // by tenant: how many came since the last tick
}

// New is a queue in which nothing waits.
func New() Queue {
	return Queue{items: map[int]Item{}, turns: map[int]int{}}
}

// Len is how many entries wait.
func (q Queue) Len() int {
	return len(q.items)
}

// Of is how many entries of a tenant wait.
func (q Queue) Of(tenant int) int {
	n := 0
	for _, item := range q.items {
		if item.Tenant == tenant {
			n++
		}
	}
	return n
}

// Add lets an item wait, and gives it its turn.
func (q Queue) Add(item Item) {
	item.Turn = q.turns[item.Tenant]
	q.turns[item.Tenant]++
	q.items[item.Number] = item
}

// First is the first n, at least 1, of what waits; all, if there are fewer.
// They wait on until they are taken.
func (q Queue) First(n int) []Item {
	items := make(chan Item)
	more := make(chan bool)
	go q.send(items, more)
	var batch []Item
	for item := range items {
		batch = append(batch, item)
		more <- len(batch) < n
	}
	return batch
}

// send asks behind each item whether more is wanted. A channel that only says
// "enough" would leave it to chance whether one item more is sent.
func (q Queue) send(items chan<- Item, more <-chan bool) {
	defer close(items)
	for _, item := range q.inOrder() {
		items <- item
		if !<-more {
			return
		}
	}
}

func (q Queue) inOrder() []Item {
	return slices.SortedFunc(maps.Values(q.items), func(a, b Item) int {
		return cmp.Or(
			cmp.Compare(a.Deadline, b.Deadline),
			cmp.Compare(a.Turn, b.Turn),
			cmp.Compare(a.Tenant, b.Tenant),
		)
	})
}

// Take takes a tick's batch out. What comes behind a tick has a later deadline
// than all that came before it, so the turns begin anew.
func (q Queue) Take(batch []Item) {
	for _, item := range batch {
		delete(q.items, item.Number)
	}
	clear(q.turns)
}
