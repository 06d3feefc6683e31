package vouch

import "vouch/api"

// mayBe tells whether a configuration may be.
func mayBe(c api.Config) bool {
	return from(1, c.Batch, api.MaxBatch) &&
		from(1, c.Queue, api.MaxQueue) &&
		from(1, c.Quota, c.Queue) &&
		from(leastDelay(c), c.Delay, api.MaxDelay) &&
		len(c.Key) <= api.MaxKey
}

// leastDelay is the ticks that a full queue needs, and one to spare. Batch must
// be above 0.
func leastDelay(c api.Config) int {
	return (c.Queue+c.Batch-1)/c.Batch + 1
}

func from(least, n, most int) bool {
	return least <= n && n <= most
}
