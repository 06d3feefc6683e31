package digest

const (
	innerPad = 0x36
	outerPad = 0x5c
)

// Tag is the HMAC-SHA-256 of a text by a key.
func Tag(key string, text string) string {
	if len(key) > blockBytes {
		key = Sum(key)
	}
	inner := Sum(padKey(key, innerPad), text)
	return Sum(padKey(key, outerPad), inner)
}

// padKey fills a key of at most one block up with zeros, and turns its bits by a pad.
func padKey(key string, pad byte) string {
	block := make([]byte, blockBytes)
	copy(block, key)
	for i := range block {
		block[i] ^= pad
	}
	return string(block)
}
