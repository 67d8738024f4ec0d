package store

import (
	"encoding/binary"
	"math"
	"runtime"
	"slices"
	"strings"
	"testing"

	"lodestar/api"
	"lodestar/disk"
	"lodestar/manifest"
	"lodestar/payload"
	"lodestar/wal"
)

// fix answers n in 4 or 8 bytes, by the library.
func fix(n uint64, width int) string {
	return string(binary.LittleEndian.AppendUint64(nil, n)[:width])
}

// bytesOf answers the bytes of p.
func bytesOf(p api.Point) string {
	s, e := payload.Encode(p)
	if e != api.OK {
		panic(e)
	}
	return s
}

// bodyOf answers the body of an upsert of l, and of a delete.
func bodyOf(l ...api.Point) string {
	s := "U" + fix(uint64(len(l)), 4)
	for _, p := range l {
		s += bytesOf(p)
	}
	return s
}

func goneBody(id uint64) string { return "D" + fix(id, 8) }

// logOf answers the bytes of a log of these bodies, the first of which has that Seq.
func logOf(seq int, bodies ...string) string {
	s := ""
	for i, b := range bodies {
		f, e := wal.Frame(api.Record{Seq: seq + i, Body: b})
		if e != api.OK {
			panic(e)
		}
		s += f
	}
	return s
}

// manifestOf answers the bytes of a manifest.
func manifestOf(m api.Manifest) string {
	s, e := manifest.Encode(m)
	if e != api.OK {
		panic(e)
	}
	return s
}

// fresh answers the bytes of a manifest over a log alone.
func fresh() string { return manifestOf(api.Manifest{Log: "l1", Next: 2}) }

func TestBodies(t *testing.T) { // Words: each write is one record
	d := disk.New()
	s := opened(t, d, config(0, 0))
	is(t, s.Upsert([]api.Point{at(8, 1), at(3, 2), at(8, 3)}), api.OK) // as they were handed in, each
	is(t, s.Delete(3), api.OK)
	is(t, s.Upsert([]api.Point{at(api.MaxId, 4)}), api.OK)
	is(t, s.Delete(api.MaxId), api.OK)
	want := logOf(1, bodyOf(at(8, 1), at(3, 2), at(8, 3)), goneBody(3), bodyOf(at(api.MaxId, 4)), goneBody(1<<52))
	if got, _ := d.Read("l1"); got != want {
		t.Fatalf("the log has %q, want %q", got, want)
	}
}

func TestBodiesAreRead(t *testing.T) { // 12.1, Words
	var many []api.Point
	for i := range api.MaxPoints {
		many = append(many, at(i+1, i))
	}
	for _, x := range []struct {
		bodies []string
		want   []api.Point
	}{
		{nil, nil},
		{[]string{bodyOf(at(5, 1))}, []api.Point{at(5, 1)}},
		{[]string{bodyOf(at(5, 1), at(4, 2), at(5, 3))}, []api.Point{at(4, 2), at(5, 3)}},
		{[]string{bodyOf(at(5, 1)), goneBody(5)}, nil},
		{[]string{goneBody(5), bodyOf(at(5, 1))}, []api.Point{at(5, 1)}}, // what was not there is deleted, too
		{[]string{goneBody(1), goneBody(1), goneBody(1 << 52)}, nil},
		{[]string{bodyOf(at(5, 1), at(6, 1)), bodyOf(at(6, 2)), goneBody(5)}, []api.Point{at(6, 2)}},
		{[]string{bodyOf(many...)}, many},
	} {
		d := on(t, "l1", logOf(1, x.bodies...), "manifest", fresh())
		has(t, opened(t, d, config(0, 0)), len(x.bodies), x.want...)
	}
}

// badBodies are texts that are no write's body.
func badBodies() []string {
	good, two := bodyOf(at(5, 1)), bodyOf(at(5, 1), at(6, 2))
	one := bytesOf(at(5, 1))
	l := []string{
		"u" + good[1:], "d" + goneBody(5)[1:], "\x00", "X", " " + good, fix(5, 8), fix(1, 4) + one, // no letter
		"U" + fix(0, 4), "U" + fix(0, 4) + one, // no points
		"U" + fix(257, 4) + strings.Repeat(one, 257), // too many
		"U" + fix(1<<32-1, 4) + one, "U" + fix(1<<31, 4), "U" + fix(256, 4) + strings.Repeat(one, 255),
		"U" + fix(2, 4) + one, "U" + fix(1, 4) + one + one, "U" + fix(1, 4), // fewer, or more than it says
		good + "\x00", good + good, two + "x", goneBody(5) + "\x00", goneBody(5) + goneBody(6), goneBody(5) + good, // something behind
		"D" + fix(5, 4), "D" + fix(5, 8)[:7], "D" + fix(0, 8), "D" + fix(1<<52+1, 8), "D" + fix(math.MaxUint64, 8), "D" + fix(1<<63, 8), "D" + fix(1<<63+5, 8), // no Id
		"U" + fix(1, 4) + fix(0, 8) + one[8:], "U" + fix(1, 4) + fix(1<<52+1, 8) + one[8:], // a point that may not be
		"U" + fix(2, 4) + one + fix(0, 8) + one[8:],
	}
	for i := range good { // what breaks off
		l = append(l, good[:i])
	}
	for i := range two {
		l = append(l, two[:i])
	}
	for i := range goneBody(5) {
		l = append(l, goneBody(5)[:i])
	}
	return l
}

func TestBodiesThatAreNone(t *testing.T) { // 12.1: wherever they stand
	for _, b := range badBodies() {
		for _, log := range []string{logOf(1, b), logOf(1, bodyOf(at(1, 1)), b), logOf(1, b, goneBody(1)), logOf(1, goneBody(2), b, goneBody(1))} {
			d := on(t, "l1", log, "manifest", fresh(), "x", "")
			notOpened(t, d, config(0, 0), api.ErrWal)
			named(t, d, "l1", "manifest", "x") // nothing is removed
			if s, _ := d.Read("l1"); s != log {
				t.Fatalf("%q was changed", log)
			}
		}
	}
}

func TestBodiesThatPromiseMuch(t *testing.T) { // R1: a count takes no room
	log := logOf(1, "U"+fix(1<<32-1, 4)+bytesOf(at(1, 1)), "U"+fix(256, 4))
	d := on(t, "l1", log, "manifest", fresh())
	var before, after runtime.MemStats
	runtime.ReadMemStats(&before)
	notOpened(t, d, config(0, 0), api.ErrWal)
	runtime.ReadMemStats(&after)
	if used := after.TotalAlloc - before.TotalAlloc; used > 1<<20 {
		t.Fatalf("%d bytes", used)
	}
}

func TestEachByteOfABody(t *testing.T) { // 12.1: every body is read as the model reads it
	good := []string{bodyOf(at(5, 1), at(6, 2)), goneBody(9)}
	for _, b := range good {
		for i := range b {
			for _, c := range []byte{0, 1, 2, 'D', 'U', b[i] + 1, b[i] ^ 128, 255} {
				turned := b[:i] + string([]byte{c}) + b[i+1:]
				want, may := modelBody(turned)
				d := on(t, "l1", logOf(1, turned), "manifest", fresh())
				s, e := Open(d, config(0, 0))
				switch {
				case !may:
					is(t, e, api.ErrWal)
				case e == api.ErrSchema: // a point that may be, but not by the schema
					if !slices.ContainsFunc(want.points, misfits) {
						t.Fatalf("%q: no point misfits", turned)
					}
				default:
					is(t, e, api.OK)
					if slices.ContainsFunc(want.points, misfits) || s.Seq() != 1 {
						t.Fatalf("%q: %v", turned, s.Points())
					}
					for _, p := range want.points {
						if got, ok := s.Get(p.Id); !ok || p.Id != want.points[0].Id && !payload.Same(got, p) {
							t.Fatalf("%q: %v", turned, got)
						}
					}
				}
			}
		}
	}
}

func misfits(p api.Point) bool { return payload.Check(config(0, 0).Schema, p) != api.OK }
