package queue

import (
	"math/rand"
	"runtime"
	"slices"
	"testing"
	"time"
)

func numbersOf(batch []Item) []int {
	list := []int{}
	for _, item := range batch {
		list = append(list, item.Number)
	}
	return list
}

// filled has an item for each tenant of the list, numbered from 0 on.
func filled(deadline int, tenants ...int) Queue {
	q := New()
	for i, tenant := range tenants {
		q.Add(Item{Number: i, Tenant: tenant, Deadline: deadline})
	}
	return q
}

func first(t *testing.T, q Queue, n int, want ...int) []Item {
	t.Helper()
	batch := q.First(n)
	if got := numbersOf(batch); !slices.Equal(got, want) {
		t.Errorf("First(%d): %v, want %v", n, got, want)
	}
	return batch
}

func TestFirst(t *testing.T) {
	first(t, New(), 1)
	first(t, New(), 8)
	q := filled(5, 3, 3, 1, 0, 3, 1)
	first(t, q, 1, 3)
	first(t, q, 2, 3, 2)
	first(t, q, 5, 3, 2, 0, 5, 1)
	first(t, q, 6, 3, 2, 0, 5, 1, 4)
	first(t, q, 7, 3, 2, 0, 5, 1, 4)
	if q.Len() != 6 {
		t.Errorf("%d wait, want 6: First takes nothing out", q.Len())
	}
}

func TestLesserDeadlineGoesAhead(t *testing.T) {
	q := New()
	for i, deadline := range []int{9, 7, 8} {
		q.Add(Item{Number: i, Tenant: i, Deadline: deadline})
	}
	first(t, q, 3, 1, 2, 0)
}

func TestTakeKeepsTurns(t *testing.T) {
	q := filled(5, 1, 1, 1, 2, 2)
	q.Take(first(t, q, 1, 0))
	first(t, q, 4, 3, 1, 4, 2)
	q.Take(first(t, q, 2, 3, 1))
	first(t, q, 2, 4, 2)
	if q.Len() != 2 {
		t.Errorf("%d wait, want 2", q.Len())
	}
}

func TestTakeBeginsTurnsAnew(t *testing.T) {
	q := filled(5, 1, 1)
	q.Take(q.First(2))
	q.Add(Item{Number: 2, Tenant: 2, Deadline: 6})
	q.Add(Item{Number: 3, Tenant: 1, Deadline: 6})
	first(t, q, 2, 3, 2)
	q.Take(nil)
	q.Add(Item{Number: 4, Tenant: 2, Deadline: 7})
	q.Add(Item{Number: 5, Tenant: 1, Deadline: 7})
	first(t, q, 4, 3, 2, 5, 4)
}

func TestOf(t *testing.T) {
	q := filled(5, 3, 3, 1, 0, 3, 1)
	check := func(want ...int) {
		t.Helper()
		for tenant, n := range want {
			if got := q.Of(tenant); got != n {
				t.Errorf("of tenant %d %d wait, want %d", tenant, got, n)
			}
		}
	}
	check(1, 2, 0, 3)
	q.Take(q.First(3))
	check(0, 1, 0, 2)
}

func TestQueuesAreApart(t *testing.T) {
	a, b := filled(5, 0, 0), filled(5, 1)
	a.Take(a.First(1))
	b.Add(Item{Number: 1, Tenant: 0, Deadline: 5})
	first(t, a, 2, 1)
	first(t, b, 2, 1, 0)
}

// Each answer is its own memory, spare room too.
func TestFirstIsNewMemory(t *testing.T) {
	q := filled(5, 0, 1, 2)
	batch := q.First(3)
	for i := range batch[:cap(batch)] {
		batch[:cap(batch)][i] = Item{Number: -1}
	}
	first(t, q, 3, 0, 1, 2)
}

func TestSenderHasEnded(t *testing.T) {
	began := runtime.NumGoroutine()
	r := rand.New(rand.NewSource(2))
	for range 200 {
		filled(5, make([]int, r.Intn(10))...).First(1 + r.Intn(8))
	}
	for range 1000 {
		if runtime.NumGoroutine() <= began {
			return
		}
		time.Sleep(time.Millisecond)
	}
	t.Errorf("%d goroutines, %d at first", runtime.NumGoroutine(), began)
}
