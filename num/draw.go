package num

// The numbers of FNV-1a in 64 bits.
const (
	hashStart = 14695981039346656037
	hashPrime = 1099511628211
)

// The numbers of SplitMix64.
const (
	drawStep   = 0x9E3779B97F4A7C15
	drawFirst  = 0xBF58476D1CE4E5B9
	drawSecond = 0x94D049BB133111EB
)

// Hash answers a number of 52 bits, from 0 on, that hangs on each byte of s.
func Hash(s string) int {
	h := uint64(hashStart)
	for i := range len(s) {
		h ^= uint64(s[i])
		h *= hashPrime
	}
	// The lowest bits go, so that every hash is one of an int's numbers from 0 on.
	return int(h >> 12)
}

// Draw answers the number that seed draws, and the next seed.
func Draw(seed uint64) (uint64, uint64) {
	next := seed + drawStep
	z := next
	z = (z ^ z>>30) * drawFirst
	z = (z ^ z>>27) * drawSecond
	return z ^ z>>31, next
}

// Below answers a drawn number from 0 up to n without it, and the next seed; 0 and the seed itself, if n is below 1.
func Below(seed uint64, n int) (int, uint64) {
	if n < 1 {
		return 0, seed
	}
	z, next := Draw(seed)
	return int(z % uint64(n)), next
}
