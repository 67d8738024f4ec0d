package wal

import (
	"encoding/binary"
	"hash/crc32"
	"math"
	"math/rand/v2"
	"slices"
	"strings"
	"testing"

	"lodestar/api"
)

// headOf lays a head with a sum that holds, by the library.
func headOf(length uint32, seq uint64) string {
	b := binary.LittleEndian.AppendUint32(nil, length)
	b = binary.LittleEndian.AppendUint64(b, seq)
	return string(binary.LittleEndian.AppendUint32(b, crc32.ChecksumIEEE(b)))
}

// tailOf lays what stands behind the head of a record, by the library.
func tailOf(seq uint64, body string) string {
	b := binary.LittleEndian.AppendUint64(nil, seq)
	b = append(b, body...)
	return body + string(binary.LittleEndian.AppendUint32(nil, crc32.ChecksumIEEE(b)))
}

// frameOf lays a record by the library, whatever its Seq is.
func frameOf(seq uint64, body string) string {
	return headOf(uint32(len(body)), seq) + tailOf(seq, body)
}

// modelScan reads s by the library: it goes by the words of 9.2, each case told apart by itself.
func modelScan(s string) ([]api.Record, int, api.Errno) {
	var l []api.Record
	at := 0
	for {
		rest := s[at:]
		if rest == "" {
			return l, at, api.OK
		}
		if len(rest) < 16 {
			return l, at, api.ErrTorn
		}
		length := int(binary.LittleEndian.Uint32([]byte(rest[:4])))
		seq := binary.LittleEndian.Uint64([]byte(rest[4:12]))
		if rest[:16] != headOf(uint32(length), seq) || length > 1<<24 || seq == 0 || seq > 1<<52 {
			return l, at, api.ErrWal
		}
		if len(rest) < length+20 {
			return l, at, api.ErrTorn
		}
		body := rest[16 : 16+length]
		if rest[16:20+length] != tailOf(seq, body) {
			return l, at, api.ErrWal
		}
		if len(l) > 0 && int(seq)-l[len(l)-1].Seq != 1 {
			return l, at, api.ErrWal
		}
		l = append(l, api.Record{Seq: int(seq), Body: body})
		at += length + 20
	}
}

// scanned wants of s these records, so many bytes, and this error.
func scanned(t *testing.T, s string, l []api.Record, size int, want api.Errno) {
	t.Helper()
	got, n, e := Scan(s)
	if !slices.Equal(got, l) || n != size || e != want {
		t.Fatalf("Scan of %d bytes: %d records, %d, %d; want %d records, %d, %d", len(s), len(got), n, e, len(l), size, want)
	}
}

// asModel wants of s what the model says.
func asModel(t *testing.T, s string) {
	t.Helper()
	l, size, e := modelScan(s)
	scanned(t, s, l, size, e)
}

// logOf lays records with these bodies, numbered from first on.
func logOf(first int, bodies ...string) (string, []api.Record) {
	s := ""
	var l []api.Record
	for i, body := range bodies {
		s += frameOf(uint64(first+i), body)
		l = append(l, api.Record{Seq: first + i, Body: body})
	}
	return s, l
}

func TestFrameFixed(t *testing.T) { // 9.1
	for _, x := range []struct {
		r api.Record
		s string
	}{
		{api.Record{Seq: 1, Body: "ab"}, "\x02\x00\x00\x00\x01\x00\x00\x00\x00\x00\x00\x00\x6e\x58\x44\x5bab\xda\x59\x12\xd3"},
		{api.Record{Seq: 1}, "\x00\x00\x00\x00\x01\x00\x00\x00\x00\x00\x00\x00\xf1\xc6\x7f\xb7\xf7\xdf\x88\xa9"},
		{api.Record{Seq: 0x0102030405060, Body: "\x00"}, "\x01\x00\x00\x00\x60\x50\x40\x30\x20\x10\x00\x00\xa8\x7d\x23\x01\x00\x83\x6c\xe5\x3e"},
	} {
		if s, e := Frame(x.r); s != x.s || e != api.OK {
			t.Errorf("Frame(%v) = %q, %d, want %q", x.r, s, e, x.s)
		}
		scanned(t, x.s, []api.Record{x.r}, len(x.s), api.OK)
	}
}

func TestFrameAtEdges(t *testing.T) { // 9.1
	for _, body := range []string{"", "\x00", "ab", "\xff\xfe", strings.Repeat("x", 255), strings.Repeat("y", 256), strings.Repeat("z", 65536)} {
		for _, seq := range []int{1, 2, 255, 256, 1<<32 - 1, 1 << 32, api.MaxId - 1, api.MaxId} {
			s, e := Frame(api.Record{Seq: seq, Body: body})
			if s != frameOf(uint64(seq), body) || len(s) != 20+len(body) || e != api.OK {
				t.Fatalf("Frame of %d and %d bytes: %d bytes, %d", seq, len(body), len(s), e)
			}
			scanned(t, s, []api.Record{{Seq: seq, Body: body}}, len(s), api.OK)
		}
		for _, seq := range []int{math.MinInt, -1, 0, api.MaxId + 1, 1<<63 - 1, math.MaxInt - 1} {
			if s, e := Frame(api.Record{Seq: seq, Body: body}); s != "" || e != api.ErrArg {
				t.Errorf("Frame of %d: %d bytes, %d", seq, len(s), e)
			}
		}
	}
}

func TestGreatestBody(t *testing.T) { // 9.1, 9.2
	body := strings.Repeat("\xa5", 1<<24)
	s, e := Frame(api.Record{Seq: 7, Body: body})
	if s != frameOf(7, body) || e != api.OK {
		t.Fatalf("%d bytes, %d", len(s), e)
	}
	scanned(t, s, []api.Record{{Seq: 7, Body: body}}, 1<<24+20, api.OK)
	scanned(t, s[:len(s)-1], nil, 0, api.ErrTorn)
	for _, seq := range []int{0, 7} {
		if s, e := Frame(api.Record{Seq: seq, Body: body + "x"}); s != "" || e != api.ErrArg {
			t.Errorf("one byte more: %d bytes, %d", len(s), e)
		}
	}
	scanned(t, frameOf(7, body+"x"), nil, 0, api.ErrWal)
}

func TestScanFixed(t *testing.T) { // 9.2: the chapter's examples
	one, two, three := frameOf(1, "ab"), frameOf(2, ""), frameOf(3, "cde")
	first, both := []api.Record{{Seq: 1, Body: "ab"}}, []api.Record{{Seq: 1, Body: "ab"}, {Seq: 2}}
	scanned(t, "", nil, 0, api.OK)
	scanned(t, one, first, 22, api.OK)
	scanned(t, one+two, both, 42, api.OK)
	scanned(t, one+two+three, append(slices.Clone(both), api.Record{Seq: 3, Body: "cde"}), 65, api.OK)
	scanned(t, one+two[:3], first, 22, api.ErrTorn)
	scanned(t, one+three, first, 22, api.ErrWal)
	scanned(t, two+one, both[1:], 20, api.ErrWal)
	scanned(t, one+one, first, 22, api.ErrWal)
	scanned(t, "x"+one, nil, 0, api.ErrWal)
	scanned(t, two+three, []api.Record{{Seq: 2}, {Seq: 3, Body: "cde"}}, 43, api.OK)
}

func TestScanOfEachBeginning(t *testing.T) { // 9.2
	s, l := logOf(9, "", "ab", "0123456789abcdef", "", "z")
	ends := []int{0, 20, 42, 78, 98, 119}
	for size := range len(s) + 1 {
		n, whole := slices.BinarySearch(ends, size)
		if whole {
			scanned(t, s[:size], l[:n], size, api.OK)
		} else {
			scanned(t, s[:size], l[:n-1], ends[n-1], api.ErrTorn)
		}
	}
}

func TestScanWithAByteTurned(t *testing.T) { // 9.2
	s, l := logOf(1, "ab", "", "cd")
	for at := range len(s) {
		n := 0
		for n < 2 && at >= 20*(n+1)+2 {
			n++
		}
		for bit := range 8 {
			b := []byte(s)
			b[at] ^= 1 << bit
			scanned(t, string(b), l[:n], []int{0, 22, 42}[n], api.ErrWal)
		}
	}
}

func TestScanOfATurnedByteInWhatIsTorn(t *testing.T) { // 9.2: a head that does not hold is no torn one; a body is not looked at till it is whole
	one, two := frameOf(1, "ab"), frameOf(2, "0123456789")
	for size := 1; size < len(two); size++ {
		for at := range size {
			b := []byte(one + two[:size])
			b[22+at] ^= 0x10
			want := api.ErrTorn
			if size >= 16 && at < 16 {
				want = api.ErrWal
			}
			scanned(t, string(b), []api.Record{{Seq: 1, Body: "ab"}}, 22, want)
		}
	}
}

func TestScanOfFewBytes(t *testing.T) { // 9.2: fewer than 16, whatever they are
	for size := 1; size < 16; size++ {
		for _, c := range []string{"\x00", "\xff", "x"} {
			s := strings.Repeat(c, size)
			scanned(t, s, nil, 0, api.ErrTorn)
			scanned(t, frameOf(5, "b")+s, []api.Record{{Seq: 5, Body: "b"}}, 21, api.ErrTorn)
		}
	}
	for _, c := range []string{"\x00", "\xff", "x"} {
		scanned(t, strings.Repeat(c, 16), nil, 0, api.ErrWal)
	}
}

func TestScanOfEdgeHeads(t *testing.T) { // 9.2: sums that hold, with numbers that may not be, or are not next
	seqs := []uint64{0, 1, 2, 3, 4, 1 << 32, 1<<52 - 1, 1 << 52, 1<<52 + 1, 1 << 53, 1<<63 - 1, 1 << 63, 1<<63 + 3, math.MaxUint64}
	for _, seq := range seqs {
		for _, ahead := range []string{"", frameOf(2, "b"), frameOf(3, "b"), frameOf(1<<52-1, ""), frameOf(1<<52, "")} {
			for _, length := range []uint32{0, 1, 3, 4, 1 << 24, 1<<24 + 1, 1 << 31, math.MaxUint32} {
				for _, tail := range []string{"", "a", "abc", tailOf(seq, ""), tailOf(seq, "abc"), tailOf(seq, "abc") + "more", tailOf(seq, "abcd"), tailOf(seq+1, "abc")} {
					asModel(t, ahead+headOf(length, seq)+tail)
				}
			}
		}
	}
}

func TestScanOfATornHeadThatIsNotNext(t *testing.T) { // 9.2: that it is torn is named first
	for _, seq := range []uint64{1, 2, 3, 5, 1 << 52} {
		s := frameOf(2, "b")
		scanned(t, s+frameOf(seq, "abc")[:22], []api.Record{{Seq: 2, Body: "b"}}, 21, api.ErrTorn)
		scanned(t, s+headOf(1<<24, seq), []api.Record{{Seq: 2, Body: "b"}}, 21, api.ErrTorn)
	}
	scanned(t, headOf(1<<24, 1<<52), nil, 0, api.ErrTorn)
	for _, head := range []string{headOf(1<<24+1, 1), headOf(0, 0), headOf(5, 0), headOf(5, 1<<52+1), headOf(math.MaxUint32, 1)} {
		scanned(t, head, nil, 0, api.ErrWal)
		scanned(t, frameOf(1, "")+head, []api.Record{{Seq: 1}}, 20, api.ErrWal)
	}
}

// drawnLog draws a log, mostly of records that are next, with sometimes a byte turned or its end gone.
func drawnLog(d *rand.Rand) string {
	s := ""
	seq := 1 + d.Uint64N(1<<d.IntN(53))
	for range d.IntN(6) {
		s += frameOf(seq, strings.Repeat(string([]byte{byte(d.IntN(256))}), d.IntN(1<<d.IntN(8))))
		if seq++; d.IntN(12) == 0 {
			seq += d.Uint64N(3) - 1
		}
	}
	if s != "" && d.IntN(3) == 0 {
		b := []byte(s)
		b[d.IntN(len(b))] ^= byte(d.IntN(256))
		s = string(b)
	}
	if d.IntN(2) == 0 {
		s = s[:d.IntN(len(s)+1)]
	}
	return s
}

func TestScanDrawn(t *testing.T) { // 9.1, 9.2
	for seed := range uint64(20000) {
		s := drawnLog(rand.New(rand.NewPCG(seed, 92)))
		asModel(t, s)
		l, size, _ := Scan(s)
		again := ""
		for _, r := range l {
			f, e := Frame(r)
			if e != api.OK {
				t.Fatal(e)
			}
			again += f
		}
		if again != s[:size] { // T6
			t.Fatalf("seed %d: the records' frames are not the log's bytes", seed)
		}
	}
}

func TestScanGivesNewLists(t *testing.T) { // R4, R5
	s, l := logOf(1, "a", "b")
	got, _, _ := Scan(s)
	got = append(got[:1], api.Record{Seq: 77, Body: "spoilt"})
	got[0] = api.Record{}
	scanned(t, s, l, len(s), api.OK)
}
