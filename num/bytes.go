package num

import (
	"lodestar/api"
)

// maxWidth is how many bytes a uint64 has.
const maxWidth = 8

// sumPoly is the polynomial of IEEE 802.3, reflected.
const sumPoly = 0xEDB88320

// Fix answers n in width bytes, the lowest first; ErrWidth, unless width is 1 to 8 and n fits.
func Fix(n uint64, width int) (string, api.Errno) {
	if width < 1 || width > maxWidth || n>>(8*width) != 0 {
		return "", api.ErrWidth
	}
	var b [maxWidth]byte
	for i := range width {
		b[i] = byte(n >> (8 * i))
	}
	return string(b[:width]), api.OK
}

// Unfix answers the number that Fix laid down in s; ErrWidth, unless s has 1 to 8 bytes.
func Unfix(s string) (uint64, api.Errno) {
	if len(s) < 1 || len(s) > maxWidth {
		return 0, api.ErrWidth
	}
	n := uint64(0)
	for i := range len(s) {
		n |= uint64(s[i]) << (8 * i)
	}
	return n, api.OK
}

// Sum answers the CRC-32 of s.
func Sum(s string) uint32 {
	table := sumTable()
	c := ^uint32(0)
	for i := range len(s) {
		c ^= uint32(s[i])
		c = c>>4 ^ table[c&15]
		c = c>>4 ^ table[c&15]
	}
	return ^c
}

// sumTable answers what each four bits do to a sum that they leave. It goes by four bits, not by eight, because it is made anew for each sum: of a short text a table of 256 would cost more than the sum.
func sumTable() [16]uint32 {
	var table [16]uint32
	for i := range len(table) {
		c := uint32(i)
		for range 4 {
			odd := c & 1
			c = c>>1 ^ odd*sumPoly
		}
		table[i] = c
	}
	return table
}
