package payload

import (
	"math"
	"strings"
	"testing"

	"lodestar/api"
)

// one is the beginning of the bytes of a point 1 with v [1, -1], up to its fields.
const one = "\x01\x00\x00\x00\x00\x00\x00\x00" + "\x01" + "\x01v" + "\x02" + "\x01\x80" + "\xff\x7f"

// onePoint is that point, with these fields.
func onePoint(l ...api.Field) api.Point {
	return api.Point{Id: 1, Vectors: []api.Vec{vec("v", 1, -1)}, Fields: l}
}

// lays wants that p is laid as s, and that s is read as p, whatever stands behind it.
func lays(t *testing.T, p api.Point, s string) {
	t.Helper()
	if got, e := Encode(p); got != s || e != api.OK {
		t.Errorf("Encode(%.300v) = %.300q, %d, want %.300q", p, got, e, s)
	}
	for _, behind := range []string{"", "\x00", "\x01", "more", "\xff\xff\xff\xff\xff", s} {
		if got, n, e := Decode(s + behind); !Same(got, p) || n != len(s) || e != api.OK {
			t.Errorf("Decode(%.300q) = %.300v, %d, %d, want %.300v", s+behind, got, n, e, p)
		}
	}
}

// refuses wants that no point has any of these bytes.
func refuses(t *testing.T, l ...string) {
	t.Helper()
	for _, s := range l {
		if p, n, e := Decode(s); !Same(p, api.Point{}) || n != 0 || e != api.ErrBytes {
			t.Errorf("Decode(%.300q) = %.300v, %d, %d", s, p, n, e)
		}
	}
}

func TestEncodeFixed(t *testing.T) { // 5.3
	lays(t, onePoint(field("open", truth(1))), one+"\x01"+"\x04open\x03\x01")
	lays(t, onePoint(), one+"\x00")
	lays(t, onePoint(field("open", truth(0))), one+"\x01"+"\x04open\x03\x00")
	lays(t, onePoint(field("n", whole(0))), one+"\x01"+"\x01n\x01\x00\x00\x00\x00\x00\x00\x00\x00")
	lays(t, onePoint(field("n", whole(258))), one+"\x01"+"\x01n\x01\x02\x01\x00\x00\x00\x00\x00\x00")
	lays(t, onePoint(field("n", whole(-1))), one+"\x01"+"\x01n\x01\xff\xff\xff\xff\xff\xff\xff\xff")
	lays(t, onePoint(field("n", whole(1<<52))), one+"\x01"+"\x01n\x01\x00\x00\x00\x00\x00\x00\x10\x00")
	lays(t, onePoint(field("n", whole(-1<<52))), one+"\x01"+"\x01n\x01\x00\x00\x00\x00\x00\x00\xf0\xff")
	lays(t, onePoint(field("w", word(""))), one+"\x01"+"\x01w\x02\x00\x00")
	lays(t, onePoint(field("w", word("\x00\u00fc"))), one+"\x01"+"\x01w\x02\x03\x00\x00\xc3\xbc")
	lays(t, onePoint(field("w", word(strings.Repeat("a", 255)))), one+"\x01"+"\x01w\x02\xff\x00"+strings.Repeat("a", 255))
	lays(t, onePoint(field("w", word(strings.Repeat("a", 256)))), one+"\x01"+"\x01w\x02\x00\x01"+strings.Repeat("a", 256))
	lays(t, onePoint(field("A", whole(5)), field("_", word("Ulm")), field("z9", truth(1))), one+"\x03"+"\x01A\x01\x05\x00\x00\x00\x00\x00\x00\x00"+"\x01_\x02\x03\x00Ulm"+"\x02z9\x03\x01")
}

func TestEncodeOfVectors(t *testing.T) { // 5.3
	id := "\x00\x00\x00\x00\x00\x00\x10\x00" // 2^52
	long := strings.Repeat("N", 32)
	lays(t, api.Point{Id: 1 << 52, Vectors: []api.Vec{vec("A", -32768, 32767, 0), vec(long, 256)}}, id+"\x02"+"\x01A\x03\x00\x00\xff\xff\x00\x80"+"\x20"+long+"\x01\x00\x81"+"\x00")
	lays(t, api.Point{Id: 1 << 52, Vectors: []api.Vec{vec("a", make([]int, 64)...)}}, id+"\x01"+"\x01a\x40"+strings.Repeat("\x00\x80", 64)+"\x00")
	lays(t, api.Point{Id: 1 << 52, Vectors: vecs(4), Fields: fields(2)}, id+"\x04"+"\x03n00\x01\x01\x80"+"\x03n01\x01\x01\x80"+"\x03n02\x01\x01\x80"+"\x03n03\x01\x01\x80"+"\x02"+"\x03n00\x01\x00\x00\x00\x00\x00\x00\x00\x00"+"\x03n01\x01\x01\x00\x00\x00\x00\x00\x00\x00")
}

func TestEncodeRefuses(t *testing.T) { // 5.3; the spoilers of Check are laid before Encode, too
	for _, p := range []api.Point{
		{}, {Id: 1}, {Id: 0, Vectors: vecs(1)}, {Id: -1, Vectors: vecs(1)}, {Id: 1<<52 + 1, Vectors: vecs(1)}, {Id: math.MinInt, Vectors: vecs(1)}, {Id: 1, Fields: fields(1)},
		{Id: 1, Vectors: vecs(5)}, {Id: 1, Vectors: vecs(1), Fields: fields(17)}, {Id: 1, Vectors: []api.Vec{vec("b", 1), vec("a", 1)}},
		{Id: 1, Vectors: []api.Vec{vec("v")}}, {Id: 1, Vectors: []api.Vec{vec("v", make([]int, 65)...)}}, {Id: 1, Vectors: []api.Vec{vec("v", 32768)}}, {Id: 1, Vectors: []api.Vec{vec("v", -32769)}},
		onePoint(field("b", whole(1)), field("a", whole(1))), onePoint(field("b", whole(1)), field("b", whole(1))), onePoint(field("", whole(1))),
	} {
		if s, e := Encode(p); s != "" || e != api.ErrPoint {
			t.Errorf("Encode(%v) = %q, %d", p, s, e)
		}
	}
	for _, v := range badValues() {
		if s, e := Encode(onePoint(field("a", whole(1)), field("f", v))); s != "" || e != api.ErrPoint {
			t.Errorf("Encode of %.90v = %.90q, %d", v, s, e)
		}
	}
}

func TestEncodeGoesByNoSchema(t *testing.T) { // 5.3: of noughts alone, too
	for _, v := range [][]int{{0}, {0, 0}, make([]int, 64)} {
		if _, e := Encode(api.Point{Id: 1, Vectors: []api.Vec{vec("c", v...)}}); e != api.OK {
			t.Errorf("Encode of %v: %d", v, e)
		}
	}
}

func TestDecodeRefuses(t *testing.T) { // 5.3
	id, end := one[:8], one[9:]
	refuses(t, "", "\x00", id, strings.Repeat("\x00", 100), strings.Repeat("\xff", 100), strings.Repeat("\xff", 200000))
	for _, x := range []string{ // Ids that may not be
		"\x00\x00\x00\x00\x00\x00\x00\x00", "\x01\x00\x00\x00\x00\x00\x10\x00", "\xff\xff\xff\xff\xff\xff\xff\xff", "\x01\x00\x00\x00\x00\x00\x00\x80", "\x00\x00\x00\x00\x00\x00\x00\x80",
	} {
		refuses(t, x+one[8:]+"\x00")
	}
	five := ""
	for _, name := range names(5) {
		five += "\x03" + name + "\x01\x00\x00"
	}
	for _, x := range []string{ // vectors that may not be
		"\x00\x00", "\x00" + end + "\x00", "\x05" + five + "\x00", "\x02" + end + end + "\x00",
		"\x02" + "\x01b\x01\x00\x00" + "\x01a\x01\x00\x00" + "\x00",
		"\x01\x00\x01\x00\x00\x00", "\x01\x019\x01\x00\x00\x00", "\x01\x01-\x01\x00\x00\x00", "\x01\x21" + strings.Repeat("a", 33) + "\x01\x00\x00\x00", "\x01\x02\xc3\xbc\x01\x00\x00\x00",
		"\x01\x01v\x00\x00", "\x01\x01v\x41" + strings.Repeat("\x00\x80", 65) + "\x00", "\x01\x01v\xff" + strings.Repeat("\x00\x80", 255) + "\x00",
	} {
		refuses(t, id+x)
	}
	if _, n, e := Decode(id + "\x04" + five[:4*7] + "\x00"); n != 8+1+4*7+1 || e != api.OK {
		t.Errorf("Decode of four vectors: %d, %d", n, e)
	}
}

func TestDecodeRefusesFields(t *testing.T) { // 5.3
	seventeen := ""
	for _, name := range names(17) {
		seventeen += "\x03" + name + "\x03\x00"
	}
	for _, x := range []string{
		"\x11" + seventeen, "\xff" + seventeen, "\x02\x01b\x03\x00\x01a\x03\x00", "\x02\x01a\x03\x00\x01a\x03\x00",
		"\x01\x00\x03\x00", "\x01\x010\x03\x00", "\x01\x01 \x03\x00", "\x01\x21" + strings.Repeat("a", 33) + "\x03\x00",
		"\x01\x01a\x00", "\x01\x01a\x00\x00\x00", "\x01\x01a\x04", "\x01\x01a\x04\x00\x00\x00\x00\x00\x00\x00\x00", "\x01\x01a\xff\x00",
		"\x01\x01a\x03\x02", "\x01\x01a\x03\xff",
		"\x01\x01a\x01\x01\x00\x00\x00\x00\x00\x10\x00", "\x01\x01a\x01\xff\xff\xff\xff\xff\xff\xef\xff", "\x01\x01a\x01\xff\xff\xff\xff\xff\xff\xff\x7f", "\x01\x01a\x01\x00\x00\x00\x00\x00\x00\x00\x80",
		"\x01\x01a\x02\x01\x01" + strings.Repeat("a", 257), "\x01\x01a\x02\xff\xff" + strings.Repeat("a", 65535),
		"\x01\x01a\x02\x01\x00\xff", "\x01\x01a\x02\x02\x00a\xc3", "\x01\x01a\x02\x03\x00\xed\xa0\x80",
	} {
		refuses(t, one+x, one+x+strings.Repeat("a", 300))
	}
	if _, n, e := Decode(one + "\x10" + seventeen[:16*6]); n != len(one)+1+16*6 || e != api.OK {
		t.Errorf("Decode of 16 fields: %d, %d", n, e)
	}
}

func TestDecodeOfWhatIsCut(t *testing.T) { // 5.3: a beginning is none
	for _, p := range []api.Point{full(), onePoint(), {Id: 1 << 52, Vectors: vecs(4), Fields: fields(16)}, onePoint(field("w", word(strings.Repeat("a", 256))))} {
		s, e := Encode(p)
		if e != api.OK {
			t.Fatalf("Encode(%v): %d", p, e)
		}
		lays(t, p, s)
		for i := range len(s) {
			refuses(t, s[:i])
		}
	}
}

func TestDecodeAnswersNewMemory(t *testing.T) { // R4: no two lists share any, nor two answers
	want := full()
	s, _ := Encode(want)
	for i := range want.Vectors {
		p, _, _ := Decode(s)
		v := p.Vectors[i].V[:cap(p.Vectors[i].V)] // with what lies behind the list's end
		for k := range v {
			v[k] = 99
		}
		p.Vectors[i] = want.Vectors[i]
		if !Same(p, want) {
			t.Errorf("vector %d shares memory with another one", i)
		}
	}
	p, _, _ := Decode(s)
	q, _, _ := Decode(s)
	spoil(p)
	if !Same(q, want) {
		t.Error("two answers share memory")
	}
}

func TestDecodeOfOneBehindTheOther(t *testing.T) { // 5.4
	l := []api.Point{full(), onePoint(), onePoint(field("w", word("\x00"))), {Id: 9, Vectors: vecs(4), Fields: fields(16)}, full()}
	all := ""
	for _, p := range l {
		s, _ := Encode(p)
		all += s
	}
	for i, want := range l {
		p, n, e := Decode(all)
		if !Same(p, want) || e != api.OK {
			t.Fatalf("point %d: %v, %d", i, p, e)
		}
		all = all[n:]
	}
	if all != "" {
		t.Errorf("%q is left", all)
	}
}
