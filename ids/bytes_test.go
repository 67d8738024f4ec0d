package ids

import (
	"encoding/binary"
	"math"
	"math/rand/v2"
	"slices"
	"strings"
	"testing"

	"lodestar/api"
)

// modelEncode lays a list of ids by the library.
func modelEncode(l []int) string {
	laid := binary.LittleEndian.AppendUint32(nil, uint32(len(l)))
	last := 0
	for _, id := range l {
		laid = binary.AppendUvarint(laid, uint64(id-last))
		last = id
	}
	return string(laid)
}

// modelDecode reads by the library as many numbers as s has, and takes the list if the model lays it just so.
func modelDecode(s string) ([]int, bool) {
	if len(s) < 4 {
		return nil, false
	}
	var l []int
	last := 0
	for rest := []byte(s[4:]); len(rest) > 0; {
		step, size := binary.Uvarint(rest)
		if size <= 0 || step > 1<<52 || last > 1<<52 {
			return nil, false
		}
		last += int(step)
		l = append(l, last)
		rest = rest[size:]
	}
	if !isList(l) || modelEncode(l) != s {
		return nil, false
	}
	return l, true
}

// read wants of s what the model says, and 8.4.
func read(t *testing.T, s string) {
	t.Helper()
	l, e := Decode(s)
	want, ok := modelDecode(s)
	if ok != (e == api.OK) || !ok && e != api.ErrList || !slices.Equal(l, want) {
		t.Fatalf("Decode(%q) = %v, %d, want %v, %v", s, l, e, want, ok)
	}
	if back, e := Encode(l); ok && (back != s || e != api.OK) {
		t.Fatalf("Encode of Decode(%q) = %q, %d", s, back, e)
	}
}

// refused wants Decode to refuse s, with nothing beside the error.
func refused(t *testing.T, s string) {
	t.Helper()
	if l, e := Decode(s); len(l) != 0 || e != api.ErrList {
		t.Errorf("Decode(%q) = %v, %d", s, l, e)
	}
}

// thereAndBack wants l laid as the model lays it, and read as it was.
func thereAndBack(t *testing.T, l []int) {
	t.Helper()
	s, e := Encode(l)
	if s != modelEncode(l) || e != api.OK {
		t.Fatalf("Encode(%v) = %q, %d, want %q", l, s, e, modelEncode(l))
	}
	if back, e := Decode(s); !slices.Equal(back, l) || e != api.OK {
		t.Fatalf("Decode of Encode(%v) = %v, %d", l, back, e)
	}
}

// edges are the steps at which small bytes become one more, and those beside them.
func edges() []int {
	l := []int{1, 2}
	for width := 7; width < 52; width += 7 {
		l = append(l, 1<<width-2, 1<<width-1, 1<<width, 1<<width+1)
	}
	return append(l, 1<<51, 1<<52-2, 1<<52-1, 1<<52)
}

func TestBytesFixed(t *testing.T) { // 8.3, 8.4
	for _, x := range []struct {
		l []int
		s string
	}{
		{nil, "\x00\x00\x00\x00"},
		{[]int{1}, "\x01\x00\x00\x00\x01"},
		{[]int{1, 300}, "\x02\x00\x00\x00\x01\xab\x02"},
		{[]int{127}, "\x01\x00\x00\x00\x7f"},
		{[]int{128}, "\x01\x00\x00\x00\x80\x01"},
		{[]int{16383}, "\x01\x00\x00\x00\xff\x7f"},
		{[]int{16384}, "\x01\x00\x00\x00\x80\x80\x01"},
		{[]int{5, 6, 7}, "\x03\x00\x00\x00\x05\x01\x01"},
		{[]int{1, 128, 256}, "\x03\x00\x00\x00\x01\x7f\x80\x01"},
		{[]int{1<<49 - 1}, "\x01\x00\x00\x00\xff\xff\xff\xff\xff\xff\x7f"},
		{[]int{1 << 49}, "\x01\x00\x00\x00\x80\x80\x80\x80\x80\x80\x80\x01"},
		{[]int{api.MaxId}, "\x01\x00\x00\x00\x80\x80\x80\x80\x80\x80\x80\x08"},
		{[]int{1, api.MaxId}, "\x02\x00\x00\x00\x01\xff\xff\xff\xff\xff\xff\xff\x07"},
		{[]int{api.MaxId - 1, api.MaxId}, "\x02\x00\x00\x00\xff\xff\xff\xff\xff\xff\xff\x07\x01"},
	} {
		if s, e := Encode(x.l); s != x.s || e != api.OK {
			t.Errorf("Encode(%v) = %q, %d, want %q", x.l, s, e, x.s)
		}
		if l, e := Decode(x.s); !slices.Equal(l, x.l) || e != api.OK {
			t.Errorf("Decode(%q) = %v, %d, want %v", x.s, l, e, x.l)
		}
	}
	if s, e := Encode([]int{}); s != "\x00\x00\x00\x00" || e != api.OK { // R3
		t.Errorf("Encode of nothing = %q, %d", s, e)
	}
}

func TestEncodeRefuses(t *testing.T) { // 8.3: as Check, with nothing beside the error
	rowsOf([]int{math.MinInt, 0, 1, 2, api.MaxId, api.MaxId + 1, math.MaxInt}, 4, func(l []int) {
		s, e := Encode(l)
		switch {
		case !isList(l):
			if s != "" || e != api.ErrList {
				t.Fatalf("Encode(%v) = %q, %d", l, s, e)
			}
		case s != modelEncode(l) || e != api.OK:
			t.Fatalf("Encode(%v) = %q, %d", l, s, e)
		}
	})
	for _, n := range noIds() {
		if s, e := Encode([]int{n}); s != "" || e != api.ErrList {
			t.Errorf("Encode(%d) = %q, %d", n, s, e)
		}
	}
}

func TestEncodeAtEdges(t *testing.T) { // 8.3, 8.4: a first id, and a step from one, of each width
	for _, n := range edges() {
		thereAndBack(t, []int{n})
		for _, first := range []int{1, 127, 1 << 35, api.MaxId - n} {
			if first > 0 && first+n <= api.MaxId {
				thereAndBack(t, []int{first, first + n})
			}
		}
	}
}

func TestEncodeDrawn(t *testing.T) { // 8.3, 8.4
	for seed := range uint64(2000) {
		d := rand.New(rand.NewPCG(seed, 83))
		l, e := Of(drawn(d, d.IntN(1<<d.IntN(10)), 1, 1+d.IntN(1<<d.IntN(53))))
		if e != api.OK {
			t.Fatal(e)
		}
		thereAndBack(t, l)
	}
}

func TestEncodeMany(t *testing.T) { // 8.3: how many there are goes into each of the count's first three bytes
	for _, n := range []int{127, 128, 255, 256, 257, 65535, 65536, 65537, 1 << 20} {
		l := make([]int, n)
		for i := range l {
			l[i] = 3*i + 1
		}
		thereAndBack(t, l)
	}
}

func TestDecodeRefuses(t *testing.T) { // 8.3
	for _, s := range []string{
		"", "\x00", "\x00\x00", "\x00\x00\x00", "\x01\x00\x00", // no count
		"\x01\x00\x00\x00", "\x02\x00\x00\x00\x01", "\xff\xff\xff\xff", "\xff\xff\xff\xff\x01", "\x00\x00\x00\x01\x01", "\x01\x01\x00\x00\x01", // too great a count
		"\x00\x00\x00\x00\x01", "\x00\x00\x00\x00\x00", "\x01\x00\x00\x00\x01\x01", "\x01\x00\x00\x00\x01\x00", "\x01\x00\x00\x00\x01\x80", // something behind
		"\x01\x00\x00\x00\x00", "\x02\x00\x00\x00\x01\x00", "\x02\x00\x00\x00\x00\x01", // one that does not rise
		"\x01\x00\x00\x00\x80\x00", "\x01\x00\x00\x00\x81\x00", "\x02\x00\x00\x00\x01\x81\x00", "\x01\x00\x00\x00\x81\x80\x00", "\x01\x00\x00\x00\x81\x80\x80\x80\x80\x80\x80\x00", // a last byte 0
		"\x01\x00\x00\x00\x80", "\x01\x00\x00\x00\xff", "\x01\x00\x00\x00\x80\x80", "\x02\x00\x00\x00\x01\x81", // broken off
		"\x01\x00\x00\x00\x81\x80\x80\x80\x80\x80\x80\x08",         // MaxId and 1
		"\x01\x00\x00\x00\xff\xff\xff\xff\xff\xff\xff\x7f",         // 2^56 less 1
		"\x01\x00\x00\x00\x80\x80\x80\x80\x80\x80\x80\x10",         // 2^53
		"\x01\x00\x00\x00\x81\x80\x80\x80\x80\x80\x80\x80\x01",     // 2^56 and 1
		"\x01\x00\x00\x00\x81\x80\x80\x80\x80\x80\x80\x80\x80\x02", // 2^64 and 1
		"\x01\x00\x00\x00\x81\x80\x80\x80\x80\x80\x80\x80\x80\x80\x01",
		"\x02\x00\x00\x00\x01\x80\x80\x80\x80\x80\x80\x80\x08",                             // MaxId behind 1
		"\x02\x00\x00\x00\x80\x80\x80\x80\x80\x80\x80\x08\x01",                             // 1 behind MaxId
		"\x02\x00\x00\x00\x80\x80\x80\x80\x80\x80\x80\x08\x80\x80\x80\x80\x80\x80\x80\x08", // MaxId behind MaxId
		"\x02\x00\x00\x00\x05\xff\xff\xff\xff\xff\xff\xff\xff\xff\x01",                     // 2^64 less 1: one lower, by wrapping
		"\x02\x00\x00\x00\x05\x80\x80\x80\x80\x80\x80\x80\x80\x80\x01",                     // 2^63: the sum would leave an int
		"\x01\x00\x00\x00" + strings.Repeat("\x80", 1000) + "\x01", "\x01\x00\x00\x00" + strings.Repeat("\xff", 1000),
	} {
		refused(t, s)
		read(t, s)
	}
}

func TestDecodeOfAllBytes(t *testing.T) { // 8.3, 8.4: all short tails over the bytes at which something turns
	tails := []string{""}
	for from := 0; len(tails[from]) < 5; from++ {
		for _, b := range []string{"\x00", "\x01", "\x02", "\x7f", "\x80", "\x81", "\xff"} {
			tails = append(tails, tails[from]+b)
		}
	}
	for _, tail := range tails {
		for _, count := range []string{"\x00", "\x01", "\x02", "\x03", "\x05"} {
			read(t, count+"\x00\x00\x00"+tail)
		}
	}
}

func TestDecodeOfTwoBytes(t *testing.T) { // 8.3: all tails of one byte and of two
	for first := range 256 {
		read(t, "\x01\x00\x00\x00"+string([]byte{byte(first)}))
		for second := range 256 {
			read(t, "\x01\x00\x00\x00"+string([]byte{byte(first), byte(second)}))
			read(t, "\x02\x00\x00\x00"+string([]byte{byte(first), byte(second)}))
		}
	}
}

func TestDecodeOfCounts(t *testing.T) { // 8.3: each byte of the count counts
	for at := range 4 {
		for b := range 256 {
			s := []byte("\x02\x00\x00\x00\x01\x01")
			s[at] = byte(b)
			read(t, string(s))
		}
	}
}

func TestDecodeOfParts(t *testing.T) { // 8.3: no part of a list's bytes is one, nor what has more
	for _, l := range [][]int{{1}, {1, 300}, edges(), someIds(), {api.MaxId}} {
		if e := Check(l); e != api.OK {
			t.Fatal(l)
		}
		s, _ := Encode(l)
		for end := range len(s) {
			refused(t, s[:end])
		}
		for b := range 256 {
			refused(t, s+string([]byte{byte(b)}))
		}
		for at := range len(s) {
			for b := range 256 {
				spoilt := []byte(s)
				spoilt[at] = byte(b)
				read(t, string(spoilt))
			}
		}
	}
}

func TestDecodeDrawn(t *testing.T) { // 8.3, 8.4: drawn steps, some of them too long, or with highest bits that are 0
	for seed := range uint64(20000) {
		d := rand.New(rand.NewPCG(seed, 84))
		n := d.IntN(6)
		s := binary.LittleEndian.AppendUint32(nil, uint32(n))
		for range n {
			s = binary.AppendUvarint(s, d.Uint64()>>d.IntN(64))
			if d.IntN(8) == 0 {
				s[len(s)-1] |= 128
				s = append(s, 0)
			}
		}
		read(t, string(s))
	}
}

func TestDecodeTakesNoRoomAhead(t *testing.T) { // 8.3: a great count in few bytes
	for range 1000 {
		refused(t, "\xff\xff\xff\xff\x01\x01")
		refused(t, "\xff\xff\xff\x7f\x01\x01")
	}
}

func TestBytesKeepToTheirOwn(t *testing.T) { // R4, R5
	l := []int{3, 5, 700, 900, 4, -1}
	before := slices.Clone(l)
	s, e := Encode(l[:4])
	if e != api.OK || !slices.Equal(l, before) {
		t.Fatalf("Encode left %v, %d", l, e)
	}
	first, _ := Decode(s)
	second, _ := Decode(s)
	spoil(first)
	spoil(l)
	if third, _ := Decode(s); !slices.Equal(second, before[:4]) || !slices.Equal(third, before[:4]) || s != modelEncode(before[:4]) {
		t.Error("Decode answers memory of others")
	}
}
