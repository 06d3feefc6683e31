package frame

const (
	polynomial = 0xEDB88320
	allOnes    = 0xFFFFFFFF
)

// sum is the CRC-32 of some bytes, the lowest byte first.
func sum(text string) string {
	crc := uint32(allOnes)
	for i := range len(text) {
		crc = shiftByte(crc ^ uint32(text[i]))
	}
	crc ^= allOnes
	return string([]byte{byte(crc), byte(crc >> 8), byte(crc >> 16), byte(crc >> 24)})
}

// shiftByte goes bit by bit: frames are so short that a table would not pay.
func shiftByte(crc uint32) uint32 {
	for range 8 {
		low := crc & 1
		crc >>= 1
		if low == 1 {
			crc ^= polynomial
		}
	}
	return crc
}
