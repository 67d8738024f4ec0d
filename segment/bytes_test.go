package segment

import (
	"encoding/binary"
	"hash/crc32"
	"math/rand/v2"
	"runtime"
	"slices"
	"strings"
	"testing"

	"lodestar/api"
	"lodestar/payload"
)

// summed lays the sum of s behind it, by the library.
func summed(s string) string {
	return string(binary.LittleEndian.AppendUint32([]byte(s), crc32.ChecksumIEEE([]byte(s))))
}

// headed lays the letters and a count ahead of s, and the sum behind it, by the library.
func headed(count uint32, s string) string {
	return summed(string(binary.LittleEndian.AppendUint32([]byte("LSEG"), count)) + s)
}

// number lays n in 8 bytes, by the library.
func number(n uint64) string {
	return string(binary.LittleEndian.AppendUint64(nil, n))
}

// standing lays a version that stands, whatever its Seq, its point's bytes and the length said of them are.
func standing(seq uint64, length int, s string) string {
	return number(seq) + "\x00" + string(binary.LittleEndian.AppendUint32(nil, uint32(length))) + s
}

// goneBytes lays a version that is gone, whatever its Seq and its Id are.
func goneBytes(seq, id uint64) string {
	return number(seq) + "\x01" + number(id)
}

// pointBytes lays a point that may be.
func pointBytes(p api.Point) string {
	s, e := payload.Encode(p)
	if e != api.OK {
		panic(e)
	}
	return s
}

// modelEncode is what Encode is to answer for a segment that may be.
func modelEncode(s api.Segment) string {
	var laid strings.Builder
	for _, v := range s.Versions {
		if v.Gone {
			laid.WriteString(goneBytes(uint64(v.Seq), uint64(v.Point.Id)))
		} else {
			p := pointBytes(v.Point)
			laid.WriteString(standing(uint64(v.Seq), len(p), p))
		}
	}
	return headed(uint32(len(s.Versions)), laid.String())
}

// modelDecode is what Decode is to answer: it takes s apart by the library, and panics within where bytes lack.
func modelDecode(s string) (out api.Segment, e api.Errno) {
	defer func() {
		if recover() != nil {
			out, e = api.Segment{}, api.ErrSegment
		}
	}()
	b := []byte(s)
	head, tail := b[:8], b[len(b)-4:]
	rest := b[8 : len(b)-4]
	ahead := uint64(0)
	for range binary.LittleEndian.Uint32(head[4:]) {
		v := api.Version{Seq: int(binary.LittleEndian.Uint64(rest)), Gone: rest[8] == 1}
		if rest[8] > 1 || v.Seq < 1 || v.Seq > 1<<52 {
			panic("no version")
		}
		if v.Gone {
			v.Point.Id = int(binary.LittleEndian.Uint64(rest[9:]))
			rest = rest[17:]
		} else {
			end := 13 + int(binary.LittleEndian.Uint32(rest[9:]))
			p, n, e := payload.Decode(string(rest[13:end]))
			if e != api.OK || n != end-13 {
				panic("no point")
			}
			v.Point, rest = p, rest[end:]
		}
		if id := uint64(v.Point.Id); id <= ahead || id > 1<<52 {
			panic("no Id, or one that does not rise")
		}
		ahead = uint64(v.Point.Id)
		out.Versions = append(out.Versions, v)
	}
	if len(rest) != 0 || string(head[:4]) != "LSEG" || binary.LittleEndian.Uint32(tail) != crc32.ChecksumIEEE(b[:len(b)-4]) {
		panic("no segment")
	}
	return out, api.OK
}

// lays wants that the segment of l is laid as s, and s is read as it.
func lays(t *testing.T, s string, l ...api.Version) {
	t.Helper()
	if got, e := Encode(of(l...)); got != s || e != api.OK {
		t.Fatalf("Encode(%v) = %.300q, %d, want %.300q", l, got, e, s)
	}
	if got, e := Decode(s); !sameSegment(got, of(l...)) || e != api.OK {
		t.Fatalf("Decode(%.300q) = %v, %d, want %v", s, got, e, l)
	}
}

// refuses wants that no segment has these bytes.
func refuses(t *testing.T, s string) {
	t.Helper()
	if got, e := Decode(s); got.Versions != nil || e != api.ErrSegment {
		t.Fatalf("Decode(%.300q) = %v, %d", s, got, e)
	}
}

// asModel wants of Decode what the model answers.
func asModel(t *testing.T, s string) api.Errno {
	t.Helper()
	got, e := Decode(s)
	if want, f := modelDecode(s); !sameSegment(got, want) || e != f {
		t.Fatalf("Decode(%.300q) = %v, %d, want %v, %d", s, got, e, want, f)
	}
	return e
}

func TestEncodeFixed(t *testing.T) { // 10.2
	lays(t, "LSEG\x00\x00\x00\x00\x67\xe4\x6b\xbc") // the chapter's example
	p := api.Point{Id: 1, Vectors: []api.Vec{{Name: "v", V: []int{1, -1}}}}
	pointLaid := "\x01\x00\x00\x00\x00\x00\x00\x00" + "\x01" + "\x01v" + "\x02\x01\x80\xff\x7f" + "\x00"
	first := "\x02\x01\x00\x00\x00\x00\x00\x00" + "\x00" + "\x11\x00\x00\x00" + pointLaid
	second := "\x03\x00\x00\x00\x00\x00\x00\x00" + "\x01" + "\x04\x05\x00\x00\x00\x00\x00\x00"
	lays(t, summed("LSEG\x01\x00\x00\x00"+first), api.Version{Seq: 258, Point: p})
	lays(t, summed("LSEG\x01\x00\x00\x00"+second), gone(3, 1284))
	lays(t, summed("LSEG\x02\x00\x00\x00"+first+second), api.Version{Seq: 258, Point: p}, gone(3, 1284))
}

func TestEncodeAtEdges(t *testing.T) { // 10.2
	for _, seq := range []int{1, 255, 256, 1 << 32, api.MaxId - 1, api.MaxId} {
		for _, id := range []int{1, 255, 256, 1 << 32, api.MaxId - 1, api.MaxId} {
			lays(t, headed(1, goneBytes(uint64(seq), uint64(id))), gone(seq, id))
			p := at(seq, id, 3).Point
			lays(t, headed(1, standing(uint64(seq), 28, pointBytes(p))), at(seq, id, 3))
		}
	}
	great := greatestPoint()
	laid := pointBytes(great)
	lays(t, headed(2, goneBytes(1, 1)+standing(1<<52, len(laid), laid)), gone(1, 1), api.Version{Seq: 1 << 52, Point: great})
	var many []api.Version
	for i := range 70000 { // as many as have three bytes
		many = append(many, gone(70000-i, i+1))
	}
	lays(t, modelEncode(of(many...)), many...)
}

// greatestPoint is a point with as many bytes as one can have.
func greatestPoint() api.Point {
	p := api.Point{Id: api.MaxId}
	for i := range api.MaxVectors {
		v := api.Vec{Name: strings.Repeat("v", 31) + string(rune('a'+i))}
		for k := range api.MaxDim {
			v.V = append(v.V, k*512-32768+k)
		}
		p.Vectors = append(p.Vectors, v)
	}
	for i := range api.MaxFields {
		p.Fields = append(p.Fields, api.Field{Name: strings.Repeat("f", 31) + string(rune('a'+i)), Value: api.Value{Kind: api.KindWord, Text: strings.Repeat("w", api.MaxWord)}})
	}
	return p
}

func TestEncodeGoneOfEmptyLists(t *testing.T) { // 10.2, R3
	v := api.Version{Seq: 3, Gone: true, Point: api.Point{Id: 2, Vectors: []api.Vec{}, Fields: []api.Field{}}}
	if s, e := Encode(of(v)); s != headed(1, goneBytes(3, 2)) || e != api.OK {
		t.Errorf("%q, %d", s, e)
	}
	builds(t, []api.Version{v}, gone(3, 2))
}

// encodesNone wants that Encode refuses the segment.
func encodesNone(t *testing.T, l ...api.Version) {
	t.Helper()
	if s, e := Encode(of(l...)); s != "" || e != api.ErrSegment {
		t.Fatalf("Encode(%v) = %.300q, %d", l, s, e)
	}
}

func TestEncodeRefuses(t *testing.T) { // 10.2
	for _, v := range badVersions() {
		encodesNone(t, v)
		encodesNone(t, at(1, 1, 1), v)
		encodesNone(t, gone(1, 2), v, at(1, api.MaxId, 1))
		encodesNone(t, v, gone(1, 5))
	}
	encodesNone(t, at(1, 2, 1), at(2, 1, 2)) // Ids that do not rise
	encodesNone(t, at(1, 1, 1), at(2, 1, 1))
	encodesNone(t, at(1, 1, 1), at(1, 1, 1))
	encodesNone(t, gone(1, 1), gone(2, 1))
	encodesNone(t, gone(1, 1), gone(2, 3), at(1, 3, 1))
	encodesNone(t, gone(1, 1), gone(2, 3), at(1, 2, 1), gone(9, 9))
	encodesNone(t, gone(1, 2), gone(2, 3), at(1, 1, 1))
}

func TestDecodeRefusesFrames(t *testing.T) { // 10.2: letters, counts, sums, and what stands behind
	one, two := goneBytes(1, 1), goneBytes(2, 2)
	for _, s := range []string{
		"", "L", "LSEG", "LSEG\x00\x00\x00\x00", "LSEG\x00\x00\x00\x00\x00\x00\x00\x00", summed(""), summed("LSEG"), summed("LSEG\x00"), summed("LSEG\x00\x00\x00"),
		summed("LSEH\x00\x00\x00\x00"), summed("lseg\x00\x00\x00\x00"), summed("\x00\x00\x00\x00LSEG"), summed("LSE\x00\x00\x00\x00"), summed("XLSEG\x00\x00\x00\x00"), summed("LSEGLSEG\x00\x00\x00\x00"),
		headed(0, "x"), headed(0, one), headed(1, ""), headed(1, one+two), headed(2, one), headed(1, one+"x"), headed(2, one+two+"\x00"), headed(3, one+two),
		headed(1<<32-1, ""), headed(1<<32-1, one), headed(1<<31, one+two), headed(257, one), headed(1<<24+1, one),
		headed(1, one) + "x", "x" + headed(1, one), headed(1, one) + headed(1, two), headed(1, summed(one)), summed(headed(1, one)),
		headed(2, two+one), headed(2, one+one), headed(2, one+goneBytes(9, 1)), headed(3, one+two+goneBytes(1, 2)), headed(3, one+goneBytes(1, 3)+two), // Ids that do not rise
		strings.Repeat("\x00", 40), strings.Repeat("\xff", 40),
	} {
		refuses(t, s)
		asModel(t, s)
	}
	turned := string(binary.BigEndian.AppendUint32([]byte("LSEG\x00\x00\x00\x00"), crc32.ChecksumIEEE([]byte("LSEG\x00\x00\x00\x00"))))
	refuses(t, turned) // the sum's bytes the other way round
	if asModel(t, headed(2, one+two)) != api.OK {
		t.Error("two that may be are refused")
	}
}

func TestDecodeRefusesNumbers(t *testing.T) { // 10.2: Seqs and Ids that may not be
	p := pointBytes(at(1, 5, 1).Point)
	for _, n := range []uint64{0, 1<<52 + 1, 1 << 53, 1 << 62, 1<<63 - 1, 1 << 63, 1<<63 + 1, 1<<64 - 1} {
		refuses(t, headed(1, goneBytes(n, 5)))
		refuses(t, headed(1, goneBytes(5, n)))
		refuses(t, headed(2, goneBytes(5, 4)+goneBytes(5, n)))
		refuses(t, headed(1, standing(n, len(p), p)))
		refuses(t, headed(2, goneBytes(1, 1)+standing(n, len(p), p)))
		refuses(t, headed(1, standing(1, len(p), number(n)+p[8:])))
	}
	for mark := range 256 {
		b := []byte(goneBytes(5, 5))
		b[8] = byte(mark)
		if e := asModel(t, headed(1, string(b))); (e == api.OK) != (mark == 1) {
			t.Errorf("mark %d: %d", mark, e)
		}
		b = []byte(standing(5, len(p), p))
		b[8] = byte(mark)
		if e := asModel(t, headed(1, string(b))); (e == api.OK) != (mark == 0) {
			t.Errorf("mark %d: %d", mark, e)
		}
	}
}

func TestDecodeRefusesPoints(t *testing.T) { // 10.2: lengths that are not the point's, and bytes of none
	p := pointBytes(at(1, 5, 1).Point)
	for length := range 3 * len(p) {
		for _, s := range []string{p, p + "\x00", p + p, p + goneBytes(1, 6), p + standing(1, len(p), pointBytes(at(1, 6, 1).Point))} {
			for count := range uint32(3) {
				asModel(t, headed(count, standing(3, length, s)))
			}
		}
	}
	refuses(t, headed(1, standing(3, len(p)-1, p)))
	refuses(t, headed(1, standing(3, len(p)+1, p)))
	refuses(t, headed(1, standing(3, len(p)+1, p+"\x00")))
	refuses(t, headed(2, standing(3, len(p)+17, p+goneBytes(1, 6))))
	refuses(t, headed(1, standing(3, 1<<32-1, p)))
	refuses(t, headed(1, standing(3, 0, "")))
	refuses(t, headed(1, standing(3, 0, p)))
	refuses(t, headed(1, standing(3, 8, number(5))))
	bare := number(5) + "\x00\x00" // an Id, no vectors, no fields
	refuses(t, headed(1, standing(3, len(bare), bare)))
}

func TestDecodeOfEachBeginning(t *testing.T) { // 10.2: also where the sum is right
	s, e := Encode(of(gone(9, 1), at(8, 2, 5), at(7, 4, 6), gone(6, 5)))
	if e != api.OK {
		t.Fatal(e)
	}
	for size := range len(s) {
		refuses(t, s[:size])
		refuses(t, s[size+1:])
		refuses(t, s[:size]+s[size+1:])
		if size < len(s)-4 {
			refuses(t, summed(s[:size]))
			refuses(t, summed(s[:len(s)-4]+s[:size]+"x"))
		}
	}
}

func TestOneByteTurned(t *testing.T) { // 10.5
	s, e := Encode(of(gone(9, 1), at(8, 2, 5), at(7, 4, 6), gone(6, 5)))
	if e != api.OK {
		t.Fatal(e)
	}
	for place := range s {
		for by := 1; by < 256; by++ {
			b := []byte(s)
			b[place] ^= byte(by)
			refuses(t, string(b))
		}
	}
}

func TestBytesTurnedUnderARightSum(t *testing.T) { // 10.2: what is read is what was laid, or nothing
	s, _ := Encode(of(gone(9, 1), at(8, 2, 5), at(7, 4, 6), gone(6, 5)))
	body := s[:len(s)-4]
	read := 0
	for place := range body {
		for by := 1; by < 256; by++ {
			b := []byte(body)
			b[place] ^= byte(by)
			forged := summed(string(b))
			if asModel(t, forged) != api.OK {
				continue
			}
			read++
			got, _ := Decode(forged)
			if back, e := Encode(got); back != forged || e != api.OK {
				t.Fatalf("%q is read as %v, and that is laid as %q, %d", forged, got, back, e)
			}
		}
	}
	if read < 1000 {
		t.Errorf("%d were read", read)
	}
}

func TestThereAndBackDrawn(t *testing.T) { // 10.2, 10.5, T6
	read, refused := 0, 0
	for seed := range uint64(4000) {
		d := rand.New(rand.NewPCG(seed, 102))
		s := drawnSegment(d, d.IntN(30), 1+d.IntN(1<<d.IntN(53)), 1+d.IntN(1<<d.IntN(53)))
		laid := modelEncode(s)
		lays(t, laid, s.Versions...)
		b := []byte(laid[:len(laid)-4])
		for range d.IntN(3) {
			b[d.IntN(len(b))] = []byte{0, 1, 2, 255, byte(d.IntN(256))}[d.IntN(5)]
		}
		if d.IntN(4) == 0 {
			b = b[:d.IntN(len(b)+1)]
		}
		if d.IntN(4) == 0 {
			b = slices.Insert(b, d.IntN(len(b)+1), byte(d.IntN(2)))
		}
		if asModel(t, summed(string(b))) == api.OK {
			read++
		} else {
			refused++
		}
	}
	if read < 500 || refused < 500 {
		t.Errorf("%d were read, %d refused", read, refused)
	}
}

func TestDecodeTakesNoRoomAhead(t *testing.T) { // 10.2, the bound: a count is no promise
	s := headed(1<<32-1, goneBytes(1, 1)+goneBytes(2, 2))
	var before, after runtime.MemStats
	runtime.ReadMemStats(&before)
	refuses(t, s)
	runtime.ReadMemStats(&after)
	if room := after.TotalAlloc - before.TotalAlloc; room > 1<<16 {
		t.Errorf("%d bytes are taken", room)
	}
}
