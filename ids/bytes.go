package ids

import (
	"lodestar/api"
	"lodestar/num"
)

// How small bytes lie: in each stand smallBits of a number, the lowest first, and smallMore says that another byte follows. The greatest id has 53 bits, so maxSmall bytes are enough for each.
const (
	smallBits = 7
	smallMore = 1 << smallBits
	maxSmall  = 8
)

// countWidth is in how many bytes a list's length is laid.
const countWidth = 4

// Encode answers the bytes of l: how many ids there are, then of each what it is above the one ahead; ErrList, as Check.
func Encode(l []int) (string, api.Errno) {
	if e := Check(l); e != api.OK {
		return "", e
	}
	count, e := num.Fix(uint64(len(l)), countWidth)
	if e != api.OK {
		return "", api.ErrList
	}
	laid := []byte(count)
	last := 0
	for _, id := range l {
		laid = appendSmall(laid, id-last)
		last = id
	}
	return string(laid), api.OK
}

// appendSmall lays the small bytes of n, which is above 0, behind what is laid.
func appendSmall(laid []byte, n int) []byte {
	for n >= smallMore {
		laid = append(laid, byte(n)|smallMore)
		n >>= smallBits
	}
	return append(laid, byte(n))
}

// Decode answers the list whose bytes s is, all of it; ErrList, if s is not what Encode lays.
func Decode(s string) ([]int, api.Errno) {
	if len(s) < countWidth {
		return nil, api.ErrList
	}
	count, e := num.Unfix(s[:countWidth])
	l, ok := readSteps(s[countWidth:])
	// The steps tell how many ids there are; the count is only held against that, so that none lets room be taken for ids that do not stand there.
	if e != api.OK || !ok || uint64(len(l)) != count {
		return nil, api.ErrList
	}
	return l, api.OK
}

// readSteps answers the ids of which each is above the one ahead by what s has in small bytes; false, if s breaks off, or leads past the greatest id.
func readSteps(s string) ([]int, bool) {
	var l []int
	last := 0
	for s != "" {
		step, size := readSmall(s)
		if size == 0 || step > api.MaxId-last {
			return nil, false
		}
		last += step
		l = append(l, last)
		s = s[size:]
	}
	return l, true
}

// readSmall answers the number with whose small bytes s begins, and how many they are: 0, if it begins with none of an id.
func readSmall(s string) (int, int) {
	n := 0
	for i := range min(len(s), maxSmall) {
		n |= int(s[i]&^smallMore) << (smallBits * i)
		if s[i] >= smallMore {
			continue
		}
		if s[i] == 0 { // a number has no highest bits that are 0
			return 0, 0
		}
		return n, i + 1
	}
	return 0, 0
}
