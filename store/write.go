package store

import (
	"strings"

	"lodestar/api"
	"lodestar/num"
	"lodestar/payload"
)

// How a write's body lies: the letter U, how many points, and these; or the letter D, and the Id.
const (
	letterUpsert = "U"
	letterDelete = "D"
	countWidth   = 4
	idWidth      = 8
)

// upserted answers, in new memory, what the upsert of l with that number makes.
func upserted(seq int, l []api.Point) []api.Version {
	var made []api.Version
	for _, p := range l {
		made = append(made, api.Version{Seq: seq, Point: copied(p)})
	}
	return made
}

// deleted answers what the delete of id with that number makes.
func deleted(seq, id int) []api.Version {
	return []api.Version{{Seq: seq, Gone: true, Point: api.Point{Id: id}}}
}

// body answers the body of the write that made these versions, which upserted or deleted answered.
func body(made []api.Version) string {
	if made[0].Gone {
		return letterDelete + fixed(made[0].Point.Id, idWidth)
	}
	parts := []string{letterUpsert, fixed(len(made), countWidth)}
	for _, v := range made {
		// No error: payload.Check took the point.
		s, _ := payload.Encode(v.Point)
		parts = append(parts, s)
	}
	return strings.Join(parts, "")
}

// madeBy answers what the write with the record r made; false, if r's body is no write's.
func madeBy(r api.Record) ([]api.Version, bool) {
	if s, ok := strings.CutPrefix(r.Body, letterUpsert); ok {
		l, ok := pointsOf(s)
		return upserted(r.Seq, l), ok
	}
	if s, ok := strings.CutPrefix(r.Body, letterDelete); ok {
		id := unfixed(s, idWidth)
		return deleted(r.Seq, id), len(s) == idWidth && 1 <= id && id <= api.MaxId
	}
	return nil, false
}

// pointsOf answers the points that stand in s behind how many they are; false, if that is not just what s has.
func pointsOf(s string) ([]api.Point, bool) {
	count := unfixed(s, countWidth)
	if count < 1 || count > api.MaxPoints {
		return nil, false
	}
	var l []api.Point
	rest := s[countWidth:]
	for range count {
		p, size, e := payload.Decode(rest)
		if e != api.OK {
			return nil, false
		}
		l = append(l, p)
		rest = rest[size:]
	}
	return l, rest == ""
}

// fixed answers n in width bytes, into which it fits.
func fixed(n, width int) string {
	s, _ := num.Fix(uint64(n), width)
	return s
}

// unfixed answers the number with whose width bytes s begins; 0, if s has fewer. (Of 8 bytes it may be below 0.)
func unfixed(s string, width int) int {
	if len(s) < width {
		return 0
	}
	n, _ := num.Unfix(s[:width])
	return int(n)
}
