package frame

const (
	lengthBytes = 2
	sumBytes    = 4
)

// Wrap is the frame that holds some bytes. The length has a sum of its own, so
// that one that is damaged is found before it is trusted.
func Wrap(held string) string {
	length := string([]byte{byte(len(held)), byte(len(held) >> 8)})
	return length + sum(length) + held + sum(held)
}

// Next is what the first frame of a text holds, and what stands behind that
// frame; not ok, if the text does not begin with a whole frame.
func Next(text string) (held, rest string, ok bool) {
	length, rest, ok := summed(text, lengthBytes)
	if !ok {
		return "", "", false
	}
	return summed(rest, int(length[0])|int(length[1])<<8)
}

// summed is the first n bytes of a text, and what stands behind their sum; not
// ok, if the sum is another one or not all is there.
func summed(text string, n int) (held, rest string, ok bool) {
	if len(text) < n+sumBytes {
		return "", "", false
	}
	held, rest = text[:n], text[n+sumBytes:]
	if text[n:n+sumBytes] != sum(held) {
		return "", "", false
	}
	return held, rest, true
}
