package wal

import (
	"lodestar/api"
	"lodestar/num"
)

// How a frame lies: the head, which is the body's length, the Seq and their sum; the body; the sum of Seq and body. The head has a sum of its own, so that a length is believed before its body stands there.
const (
	lengthEnd = 4
	seqEnd    = 12
	headSize  = 16
	sumWidth  = 4
	maxBody   = 1 << 24
)

// Frame answers the bytes of a record; ErrArg, if it has none.
func Frame(r api.Record) (string, api.Errno) {
	if r.Seq < 1 || r.Seq > api.MaxId || len(r.Body) > maxBody {
		return "", api.ErrArg
	}
	length := fixed(len(r.Body), lengthEnd)
	seq := fixed(r.Seq, seqEnd-lengthEnd)
	return length + seq + sum(length+seq) + r.Body + sum(seq+r.Body), api.OK
}

// Scan answers the records that stand one behind the other from the beginning of s on, how many bytes they have, and why there are no more: OK, if that is all of s; ErrTorn, if s ends within the next; ErrWal, if what follows is no next one.
func Scan(s string) ([]api.Record, int, api.Errno) {
	var records []api.Record
	size := 0
	for size < len(s) {
		r, e := first(s[size:])
		if e != api.OK {
			return records, size, e
		}
		if n := len(records); n > 0 && r.Seq != records[n-1].Seq+1 {
			return records, size, api.ErrWal
		}
		records = append(records, r)
		size += headSize + len(r.Body) + sumWidth
	}
	return records, size, api.OK
}

// first answers the record with whose frame s begins; ErrTorn, if s ends within the frame; ErrWal, if it begins with none.
func first(s string) (api.Record, api.Errno) {
	if len(s) < headSize {
		return api.Record{}, api.ErrTorn
	}
	length, seq := unfixed(s[:lengthEnd]), unfixed(s[lengthEnd:seqEnd])
	if s[seqEnd:headSize] != sum(s[:seqEnd]) || length > maxBody || seq < 1 || seq > api.MaxId {
		return api.Record{}, api.ErrWal
	}
	end := headSize + int(length)
	if len(s) < end+sumWidth {
		return api.Record{}, api.ErrTorn
	}
	body := s[headSize:end]
	if s[end:end+sumWidth] != sum(s[lengthEnd:seqEnd]+body) {
		return api.Record{}, api.ErrWal
	}
	return api.Record{Seq: int(seq), Body: body}, api.OK
}

// sum answers the check sum of s, as it stands in a frame.
func sum(s string) string {
	return fixed(int(num.Sum(s)), sumWidth)
}

// fixed answers n in width bytes, into which it fits.
func fixed(n, width int) string {
	s, _ := num.Fix(uint64(n), width)
	return s
}

// unfixed answers the number that stands in s, which has 1 to 8 bytes.
func unfixed(s string) uint64 {
	n, _ := num.Unfix(s)
	return n
}
