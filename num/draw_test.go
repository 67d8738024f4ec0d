package num

import (
	"hash/fnv"
	"math"
	"testing"
)

func TestHashFixed(t *testing.T) { // 1.3
	for _, x := range []struct {
		s string
		h int
	}{
		{"", 3587885995934242}, // 0xcbf29ce484222325 / 2^12
		{"a", 0xaf63dc4c8601e}, // 0xaf63dc4c8601ec8c / 2^12
		{"foobar", 0x85944171f7396},
	} {
		if h := Hash(x.s); h != x.h {
			t.Errorf("Hash(%q) = %d, want %d", x.s, h, x.h)
		}
	}
}

func TestHashAgainstLibrary(t *testing.T) { // 1.3
	var b []byte
	seed := uint64(5)
	for range 1000 {
		n, next := Below(seed, 256)
		seed = next
		b = append(b, byte(n))
		f := fnv.New64a()
		f.Write(b)
		if h, want := Hash(string(b)), int(f.Sum64()/4096); h != want {
			t.Fatalf("Hash(%q) = %d, want %d", b, h, want)
		}
	}
}

func TestHashOfNoRunes(t *testing.T) { // 1.3: bytes, not runes
	if Hash("\xff") == Hash("\xfe") || Hash("\xff") == Hash("\uFFFD") || Hash("\u00fc") == Hash("\xfc") {
		t.Error("Hash goes by runes")
	}
}

func TestDrawFixed(t *testing.T) { // 1.4: the first numbers of SplitMix64, as they are known
	for _, x := range []struct {
		seed uint64
		l    []uint64
	}{
		{0, []uint64{16294208416658607535, 7960286522194355700, 487617019471545679, 17909611376780542444, 1961750202426094747}},
		{1234567, []uint64{6457827717110365317, 3203168211198807973, 9817491932198370423, 4593380528125082431, 16408922859458223821}},
	} {
		seed := x.seed
		for i, want := range x.l {
			z, next := Draw(seed)
			if z != want || next != seed+0x9E3779B97F4A7C15 {
				t.Errorf("draw %d from %d: %d, %d, want %d", i, x.seed, z, next, want)
			}
			seed = next
		}
	}
}

func TestDrawNextWrapsRound(t *testing.T) { // 1.4
	for _, x := range []struct{ seed, next uint64 }{
		{0, 11400714819323198485}, {math.MaxUint64, 11400714819323198484}, {7046029254386353131, 0},
	} {
		if _, next := Draw(x.seed); next != x.next {
			t.Errorf("the seed behind %d is %d, want %d", x.seed, next, x.next)
		}
	}
	// 0 stays 0 under all that is done to it.
	if z, _ := Draw(7046029254386353131); z != 0 {
		t.Errorf("drawn %d, want 0", z)
	}
}

// unshift undoes x ^ x>>by.
func unshift(x uint64, by int) uint64 {
	out := x
	for range 64/by + 1 {
		out = x ^ out>>by
	}
	return out
}

// inverse answers the number whose product with the odd n is 1, modulo 2^64.
func inverse(n uint64) uint64 {
	out := n
	for range 6 {
		out *= 2 - n*out
	}
	return out
}

// undraw answers the one seed that draws z.
func undraw(z uint64) uint64 {
	z = unshift(z, 31) * inverse(0x94D049BB133111EB)
	z = unshift(z, 27) * inverse(0xBF58476D1CE4E5B9)
	return unshift(z, 30) - 0x9E3779B97F4A7C15
}

func TestDrawCanBeUndone(t *testing.T) { // 1.5: so no two seeds draw the same number
	check := func(seed uint64) {
		if z, _ := Draw(seed); undraw(z) != seed {
			t.Fatalf("%d draws %d, which %d draws", seed, z, undraw(z))
		}
	}
	for i := range uint64(5000) {
		check(i)
		check(math.MaxUint64 - i)
		check(i * 0x123456789ABCDEF)
	}
	for shift := range 64 {
		check(1 << shift)
	}
}

func TestDrawnDiffer(t *testing.T) { // 1.5
	seen := map[uint64]uint64{}
	for seed := range uint64(20000) {
		z, _ := Draw(seed)
		if other, ok := seen[z]; ok {
			t.Fatalf("%d and %d draw %d", other, seed, z)
		}
		seen[z] = seed
	}
}

func TestBelow(t *testing.T) { // 1.4
	for _, x := range []struct {
		seed uint64
		n    int
		got  int
		next uint64
	}{
		{0, 10, 5, 11400714819323198485},
		{0, 1, 0, 11400714819323198485},
		{0, 2, 1, 11400714819323198485},
		{0, 1 << 52, 16294208416658607535 % (1 << 52), 11400714819323198485},
		{0, math.MaxInt, 16294208416658607535 - math.MaxInt, 11400714819323198485},
		{1234567, 1000, 317, 1234567 + 0x9E3779B97F4A7C15},
		{7, 0, 0, 7}, {7, -1, 0, 7}, {0, math.MinInt, 0, 0}, {math.MaxUint64, 0, 0, math.MaxUint64},
	} {
		if got, next := Below(x.seed, x.n); got != x.got || next != x.next {
			t.Errorf("Below(%d, %d) = %d, %d, want %d, %d", x.seed, x.n, got, next, x.got, x.next)
		}
	}
}

func TestBelowIsDrawModulo(t *testing.T) { // 1.4
	seed := uint64(42)
	for n := 1; n <= 5000; n++ {
		z, after := Draw(seed)
		got, next := Below(seed, n)
		if got < 0 || got >= n || uint64(got) != z%uint64(n) || next != after {
			t.Fatalf("Below(%d, %d) = %d, %d", seed, n, got, next)
		}
		seed = next
	}
}
