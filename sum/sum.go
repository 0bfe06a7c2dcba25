// Package sum is layer 1, sums of texts: see shared/doc/01-sum.md.
package sum

// size is how many bytes a sum takes behind a text.
const size = 4

// halves holds what four bits that fall off leave behind: half a byte, so that the table stays short.
var halves = [16]uint32{
	0x00000000, 0x1DB71064, 0x3B6E20C8, 0x26D930AC,
	0x76DC4190, 0x6B6B51F4, 0x4DB26158, 0x5005713C,
	0xEDB88320, 0xF00F9344, 0xD6D6A3E8, 0xCB61B38C,
	0x9B64C2B0, 0x86D3D2D4, 0xA00AE278, 0xBDBDF21C,
}

// Of tells a text's sum.
func Of(s string) uint32 { return More(0, s) }

// More tells the sum of a text behind one whose sum is told.
func More(sum uint32, s string) uint32 {
	left := ^sum // a sum is the complement of what was left, so this takes up where it ended
	for i := range len(s) {
		left ^= uint32(s[i])
		left = left>>4 ^ halves[left&15]
		left = left>>4 ^ halves[left&15]
	}
	return ^left
}

// Bytes tells a sum as four bytes, the lowest one first.
func Bytes(sum uint32) string {
	return string([]byte{byte(sum), byte(sum >> 8), byte(sum >> 16), byte(sum >> 24)})
}

// Sealed tells a text with its sum behind it.
func Sealed(s string) string { return s + Bytes(Of(s)) }

// Open tells a text that its sum stands behind; false: none does.
func Open(s string) (string, bool) {
	end := len(s) - size
	if end < 0 {
		return "", false
	}
	text := s[:end]
	if s[end:] != Bytes(Of(text)) {
		return "", false
	}
	return text, true
}
