package num

import (
	"hash/crc32"
	"math"
	"strings"
	"testing"

	"lodestar/api"
)

func TestFixFixed(t *testing.T) { // 1.2
	for _, x := range []struct {
		n     uint64
		width int
		s     string
	}{
		{0, 1, "\x00"}, {255, 1, "\xff"}, {258, 2, "\x02\x01"}, {258, 4, "\x02\x01\x00\x00"},
		{1<<16 - 1, 2, "\xff\xff"}, {0x010203, 3, "\x03\x02\x01"}, {0x0102030405060708, 8, "\x08\x07\x06\x05\x04\x03\x02\x01"},
		{0, 8, "\x00\x00\x00\x00\x00\x00\x00\x00"}, {1 << 63, 8, "\x00\x00\x00\x00\x00\x00\x00\x80"},
		{math.MaxUint64, 8, "\xff\xff\xff\xff\xff\xff\xff\xff"},
	} {
		if s, e := Fix(x.n, x.width); s != x.s || e != api.OK {
			t.Errorf("Fix(%d, %d) = %q, %d, want %q", x.n, x.width, s, e, x.s)
		}
	}
}

func TestFixWhatFits(t *testing.T) { // 1.2
	for width := 1; width <= 8; width++ {
		most := uint64(math.MaxUint64) >> (64 - 8*width)
		if s, e := Fix(most, width); s != strings.Repeat("\xff", width) || e != api.OK {
			t.Errorf("Fix(%d, %d) = %q, %d", most, width, s, e)
		}
		if width == 8 {
			continue
		}
		for _, n := range []uint64{most + 1, most + 2, math.MaxUint64, 1 << 63} {
			if s, e := Fix(n, width); s != "" || e != api.ErrWidth {
				t.Errorf("Fix(%d, %d) = %q, %d", n, width, s, e)
			}
		}
	}
}

func TestFixWrongWidths(t *testing.T) { // 1.2
	for _, width := range []int{math.MinInt, -64, -8, -1, 0, 9, 16, 64, 1 << 61, math.MaxInt} {
		for _, n := range []uint64{0, 1, math.MaxUint64} {
			if s, e := Fix(n, width); s != "" || e != api.ErrWidth {
				t.Errorf("Fix(%d, %d) = %q, %d", n, width, s, e)
			}
		}
	}
}

func TestUnfix(t *testing.T) { // 1.2
	for _, x := range []struct {
		s string
		n uint64
		e api.Errno
	}{
		{"\x00", 0, api.OK}, {"A", 65, api.OK}, {"\xff", 255, api.OK}, {"\x02\x01", 258, api.OK}, {"\x02\x01\x00\x00", 258, api.OK},
		{"\x08\x07\x06\x05\x04\x03\x02\x01", 0x0102030405060708, api.OK},
		{"\xff\xff\xff\xff\xff\xff\xff\xff", math.MaxUint64, api.OK}, {"\x00\x00\x00\x00\x00\x00\x00\x80", 1 << 63, api.OK},
		{"", 0, api.ErrWidth}, {"123456789", 0, api.ErrWidth}, {"\x01\x00\x00\x00\x00\x00\x00\x00\x00", 0, api.ErrWidth},
		{strings.Repeat("a", 1000), 0, api.ErrWidth},
	} {
		if n, e := Unfix(x.s); n != x.n || e != x.e {
			t.Errorf("Unfix(%q) = %d, %d, want %d, %d", x.s, n, e, x.n, x.e)
		}
	}
}

func TestUnfixOfFix(t *testing.T) { // 1.5
	seed := uint64(3)
	for i := range 4000 {
		z, next := Draw(seed)
		seed = next
		width := 1 + i%8
		n := z >> (64 - 8*width)
		s, e := Fix(n, width)
		if len(s) != width || e != api.OK {
			t.Fatalf("Fix(%d, %d) = %q, %d", n, width, s, e)
		}
		if back, e := Unfix(s); back != n || e != api.OK {
			t.Fatalf("Unfix(Fix(%d, %d)) = %d, %d", n, width, back, e)
		}
	}
}

func TestSumFixed(t *testing.T) { // 1.2
	for _, x := range []struct {
		s   string
		sum uint32
	}{
		{"", 0}, {"123456789", 3421780262}, {"a", 0xE8B7BE43}, {"\x00", 0xD202EF8D}, {"\xff", 0xFF000000},
		{"\x00\x00\x00\x00", 0x2144DF1C}, {"The quick brown fox jumps over the lazy dog", 0x414FA339},
	} {
		if sum := Sum(x.s); sum != x.sum {
			t.Errorf("Sum(%q) = %d, want %d", x.s, sum, x.sum)
		}
	}
}

func TestSumAgainstLibrary(t *testing.T) { // 1.2
	var b []byte
	seed := uint64(9)
	for range 1000 {
		n, next := Below(seed, 256)
		seed = next
		b = append(b, byte(n))
		if sum, want := Sum(string(b)), crc32.ChecksumIEEE(b); sum != want {
			t.Fatalf("Sum(%q) = %d, want %d", b, sum, want)
		}
	}
	for i := range 256 {
		s := string([]byte{byte(i)})
		if sum, want := Sum(s), crc32.ChecksumIEEE([]byte(s)); sum != want {
			t.Errorf("Sum(%q) = %d, want %d", s, sum, want)
		}
	}
}
