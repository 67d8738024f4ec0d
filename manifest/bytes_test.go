package manifest

import (
	"fmt"
	"hash/crc32"
	"math"
	"math/big"
	"math/rand/v2"
	"regexp"
	"runtime"
	"slices"
	"strconv"
	"strings"
	"testing"

	"lodestar/api"
)

// summed lays the line of the sum behind s, by the library.
func summed(s string) string {
	return s + fmt.Sprintf("sum %d\n", crc32.ChecksumIEEE([]byte(s)))
}

// The patterns of the models: a file's name, a whole manifest, and the segments in it.
var (
	nameOf    = regexp.MustCompile(`\A[sl][1-9][0-9]*\z`)
	wholeOf   = regexp.MustCompile(`\A(lodestar 1\nnext (0|[1-9][0-9]*)\nseq (0|[1-9][0-9]*)\nlog ([^\n]*)\n((?:segment [^\n]*\n)*))sum [0-9]+\n\z`)
	segmentOf = regexp.MustCompile(`segment ([^\n]*)\n`)
)

// modelLines is all but the sum's line of what Encode is to answer for a manifest that may be.
func modelLines(m api.Manifest) string {
	s := fmt.Sprintf("lodestar 1\nnext %d\nseq %d\nlog %s\n", m.Next, m.Seq, m.Log)
	for _, name := range m.Segments {
		s += fmt.Sprintf("segment %s\n", name)
	}
	return s
}

// modelMay tells by a pattern, great numbers and pairs whether m may be.
func modelMay(m api.Manifest) bool {
	names := append([]string{m.Log}, m.Segments...)
	for i, name := range names {
		if !nameOf.MatchString(name) || slices.Contains(names[:i], name) {
			return false
		}
		n, _ := new(big.Int).SetString(name[1:], 10)
		if n.Cmp(big.NewInt(int64(m.Next))) >= 0 {
			return false
		}
	}
	return 1 <= m.Next && m.Next <= 1<<52 && 0 <= m.Seq && m.Seq <= 1<<52 && len(m.Segments) <= 1024
}

// same tells whether all is the same in both.
func same(a, b api.Manifest) bool {
	return a.Log == b.Log && a.Next == b.Next && a.Seq == b.Seq && slices.Equal(a.Segments, b.Segments)
}

// encodes wants of Encode these bytes, and of Decode of them the manifest.
func encodes(t *testing.T, m api.Manifest, want string) {
	t.Helper()
	if s, e := Encode(m); s != want || e != api.OK {
		t.Fatalf("Encode(%v) = %q, %d, want %q", m, s, e, want)
	}
	if got, e := Decode(want); !same(got, m) || e != api.OK {
		t.Fatalf("Decode(%q) = %v, %d, want %v", want, got, e, m)
	}
}

// mayBeOne wants that the manifest may be.
func mayBeOne(t *testing.T, m api.Manifest) {
	t.Helper()
	encodes(t, m, summed(modelLines(m)))
}

// encodesNone wants that the manifest may not be: it has no bytes, and what would be its bytes are none's.
func encodesNone(t *testing.T, m api.Manifest) {
	t.Helper()
	if s, e := Encode(m); s != "" || e != api.ErrManifest {
		t.Fatalf("Encode(%v) = %q, %d", m, s, e)
	}
	decodesNone(t, summed(modelLines(m)))
}

// decodesNone wants that s is no manifest's bytes.
func decodesNone(t *testing.T, s string) {
	t.Helper()
	if m, e := Decode(s); !same(m, api.Manifest{}) || e != api.ErrManifest {
		t.Fatalf("Decode(%q) = %v, %d", s, m, e)
	}
}

// some is a manifest that may be.
func some() api.Manifest {
	return api.Manifest{Segments: []string{"s2", "s11", "s4"}, Log: "l13", Next: 14, Seq: 905}
}

func TestEncodeFixed(t *testing.T) { // 11.1: sums by another library
	encodes(t, api.Manifest{Log: "l1", Next: 2}, "lodestar 1\nnext 2\nseq 0\nlog l1\nsum 3313960681\n") // the chapter's example
	encodes(t, api.Manifest{Log: "l5", Next: 6, Seq: 9, Segments: []string{"s2", "s4"}}, "lodestar 1\nnext 6\nseq 9\nlog l5\nsegment s2\nsegment s4\nsum 2392830369\n")
	encodes(t, api.Manifest{Log: "l1", Next: 2, Seq: 1339739}, "lodestar 1\nnext 2\nseq 1339739\nlog l1\nsum 2514\n") // a sum of few digits
	encodes(t, api.Manifest{Log: "s4503599627370495", Next: api.MaxId, Seq: api.MaxId, Segments: []string{"l4503599627370494"}},
		"lodestar 1\nnext 4503599627370496\nseq 4503599627370496\nlog s4503599627370495\nsegment l4503599627370494\nsum 1200760661\n")
	mayBeOne(t, some())
	mayBeOne(t, api.Manifest{Segments: []string{}, Log: "l1", Next: 2, Seq: 7})
}

func TestNextAtEdges(t *testing.T) { // 11.1
	for _, next := range []int{2, 3, 1 << 32, api.MaxId - 1, api.MaxId} {
		mayBeOne(t, api.Manifest{Log: "l1", Next: next})
		mayBeOne(t, api.Manifest{Log: "l" + strconv.Itoa(next-1), Next: next})
		mayBeOne(t, api.Manifest{Log: "l1", Next: next, Segments: []string{"s" + strconv.Itoa(next-1)}})
		for _, n := range []int{next, next + 1, 10 * next} {
			encodesNone(t, api.Manifest{Log: "l" + strconv.Itoa(n), Next: next})
			encodesNone(t, api.Manifest{Log: "l1", Next: next, Segments: []string{"s" + strconv.Itoa(n)}})
			encodesNone(t, api.Manifest{Log: "l1", Next: next, Segments: []string{"s1", "l" + strconv.Itoa(n)}})
		}
	}
	for _, next := range []int{math.MinInt, -2, -1, 0, 1, api.MaxId + 1, 1 << 53, math.MaxInt} {
		for _, name := range []string{"l1", "l0", "l", "", "l-1", "l-3"} {
			encodesNone(t, api.Manifest{Log: name, Next: next})
		}
	}
}

func TestSeqAtEdges(t *testing.T) { // 11.1
	for _, seq := range []int{0, 1, 9, 10, 1 << 32, api.MaxId - 1, api.MaxId} {
		mayBeOne(t, api.Manifest{Log: "l1", Next: 2, Seq: seq})
	}
	for _, seq := range []int{math.MinInt, -1 << 52, -2, -1, api.MaxId + 1, 1 << 53, math.MaxInt} {
		encodesNone(t, api.Manifest{Log: "l1", Next: 2, Seq: seq})
	}
}

// badNames are no files' names, below whatever Next.
func badNames() []string {
	return []string{
		"", "l", "s", "1", "12", "l0", "s0", "l01", "s01", "l00", "s001", "l+1", "s+1", "l-1", "s-1", "l 1", "s 1", " l1", "l1 ", "l1\t", "l1\n", "\nl1", "l1\r",
		"L1", "S1", "k1", "m1", "t1", "r1", "ls1", "sl1", "ll1", "l1s", "l1l", "l1_", "l1_0", "l0x1", "l1e1", "l1.0", "l1,", "lx", "tmp", "manifest", "l\x001", "l1\x00", "l\xff", "l\u0661", "\u017f1",
		"l9223372036854775807", "l9223372036854775808", "l18446744073709551617", "l99999999999999999999999", "s100000000000000000000000000000001", "s4503599627370496", "l1" + strings.Repeat("0", 300),
	}
}

func TestNames(t *testing.T) { // 11.1
	for _, name := range []string{"l1", "s1", "l9", "s9", "l10", "s10", "l19", "s99", "l100", "s1000", "l4503599627370495", "s4503599627370495", "s1234567890"} {
		mayBeOne(t, api.Manifest{Log: name, Next: api.MaxId})
		mayBeOne(t, api.Manifest{Log: "l7", Next: api.MaxId, Segments: []string{name}})
		mayBeOne(t, api.Manifest{Log: "l7", Next: api.MaxId, Segments: []string{"s8", name, "s7"}})
	}
	for _, name := range badNames() {
		encodesNone(t, api.Manifest{Log: name, Next: api.MaxId})
		for i := range 3 {
			encodesNone(t, api.Manifest{Log: "l7", Next: api.MaxId, Segments: slices.Insert([]string{"s8", "s3"}, i, name)})
		}
	}
}

func TestNamesTwice(t *testing.T) { // 11.1
	for _, l := range [][]string{{"s1", "s1"}, {"l1", "l1"}, {"s1", "s2", "s1"}, {"s1", "s2", "s3", "s2"}, {"s9", "s10", "s9", "s10"}, {"l9"}, {"s1", "l9"}, {"l9", "s1", "s2"}, {"s2", "l9", "s1"}, {"l9", "l9"}} {
		encodesNone(t, api.Manifest{Log: "l9", Next: 20, Segments: l})
	}
	for _, l := range [][]string{{"s9"}, {"s1", "l1"}, {"l1", "s1"}, {"s1", "s11"}, {"s9", "s1", "l2"}, {"l8", "l10"}} { // one number of two letters is two names; they need not rise
		mayBeOne(t, api.Manifest{Log: "l9", Next: 20, Segments: l})
	}
	mayBeOne(t, api.Manifest{Log: "s9", Next: 20, Segments: []string{"l9"}})
	encodesNone(t, api.Manifest{Log: "s9", Next: 20, Segments: []string{"s9"}})
}

// many are n names of segments, falling.
func many(n int) []string {
	var l []string
	for i := range n {
		l = append(l, "s"+strconv.Itoa(n-i))
	}
	return l
}

func TestManySegments(t *testing.T) { // 11.1
	for _, n := range []int{1, 9, 10, 11, 1023, 1024} {
		mayBeOne(t, api.Manifest{Log: "l1", Next: 5000, Seq: 3, Segments: many(n)})
		longest := many(n)
		for i := range n {
			longest[i] = "s" + strconv.Itoa(api.MaxId-1-i)
		}
		mayBeOne(t, api.Manifest{Log: "l4503599627370495", Next: api.MaxId, Seq: api.MaxId, Segments: longest})
	}
	for _, n := range []int{1025, 1026, 1027, 1028, 1029, 1030, 1031, 2048, 4000} {
		encodesNone(t, api.Manifest{Log: "l1", Next: 5000, Seq: 3, Segments: many(n)})
	}
	twice := many(1024)
	twice[1023] = twice[0]
	encodesNone(t, api.Manifest{Log: "l1", Next: 5000, Segments: twice})
	twice[1023] = "l1"
	encodesNone(t, api.Manifest{Log: "l1", Next: 5000, Segments: twice})
}

func TestDecodeRefuses(t *testing.T) { // 11.1: other texts, each under a sum that holds
	for _, s := range []string{
		"", "\n", "lodestar 1\n", "next 2\nseq 0\nlog l1\n", "lodestar 1\nseq 0\nlog l1\n", "lodestar 1\nnext 2\nlog l1\n", "lodestar 1\nnext 2\nseq 0\n",
		"lodestar 2\nnext 2\nseq 0\nlog l1\n", "lodestar 01\nnext 2\nseq 0\nlog l1\n", "lodestar\nnext 2\nseq 0\nlog l1\n", "Lodestar 1\nnext 2\nseq 0\nlog l1\n", " lodestar 1\nnext 2\nseq 0\nlog l1\n", "lodestar 1 \nnext 2\nseq 0\nlog l1\n", "lodestar  1\nnext 2\nseq 0\nlog l1\n",
		"lodestar 1\nseq 0\nnext 2\nlog l1\n", "lodestar 1\nnext 2\nlog l1\nseq 0\n", "next 2\nlodestar 1\nseq 0\nlog l1\n", "log l1\nlodestar 1\nnext 2\nseq 0\n",
		"lodestar 1\nnext 02\nseq 0\nlog l1\n", "lodestar 1\nnext +2\nseq 0\nlog l1\n", "lodestar 1\nnext 2 \nseq 0\nlog l1\n", "lodestar 1\nnext  2\nseq 0\nlog l1\n", "lodestar 1\nnext 2.0\nseq 0\nlog l1\n", "lodestar 1\nnext 0x2\nseq 0\nlog l1\n", "lodestar 1\nnext\t2\nseq 0\nlog l1\n", "lodestar 1\nnext \nseq 0\nlog l1\n", "lodestar 1\nnext\nseq 0\nlog l1\n",
		"lodestar 1\nnext 1_0\nseq 0\nlog l1\n", "lodestar 1\nnext 9223372036854775808\nseq 0\nlog l1\n", "lodestar 1\nnext 18446744073709551618\nseq 0\nlog l1\n", "lodestar 1\nnext 99999999999999999999\nseq 0\nlog l1\n", "lodestar 1\nnext two\nseq 0\nlog l1\n", "lodestar 1\nnext -2\nseq 0\nlog l1\n",
		"lodestar 1\nnext 2\nseq 00\nlog l1\n", "lodestar 1\nnext 2\nseq -0\nlog l1\n", "lodestar 1\nnext 2\nseq +0\nlog l1\n", "lodestar 1\nnext 2\nseq \nlog l1\n", "lodestar 1\nnext 2\nseq\nlog l1\n", "lodestar 1\nnext 2\nseq x\nlog l1\n", "lodestar 1\nnext 2\nseq 0 \nlog l1\n", "lodestar 1\nnext 2\nseq 18446744073709551616\nlog l1\n",
		"lodestar 1\nnext 2\nseq 0\nlog l1 \n", "lodestar 1\nnext 2\nseq 0\nlog  l1\n", "lodestar 1\nnext 2\nseq 0\nlog\tl1\n", "lodestar 1\nnext 2\nseq 0\nLOG l1\n",
		"lodestar 1\nnext 5\nseq 0\nlog l1\nsegment\n", "lodestar 1\nnext 5\nseq 0\nlog l1\nsegment \n", "lodestar 1\nnext 5\nseq 0\nlog l1\nsegment s2 s3\n", "lodestar 1\nnext 5\nseq 0\nlog l1\nsegments s2\n", "lodestar 1\nnext 5\nseq 0\nsegment s2\nlog l1\n", "segment s2\nlodestar 1\nnext 5\nseq 0\nlog l1\n",
		"lodestar 1\nnext 2\nseq 0\nlog l1\n\n", "\nlodestar 1\nnext 2\nseq 0\nlog l1\n", "lodestar 1\n\nnext 2\nseq 0\nlog l1\n", "lodestar 1\r\nnext 2\r\nseq 0\r\nlog l1\r\n", "lodestar 1\nnext 2\nseq 0\nlog l1\nmore\n", "lodestar 1\nnext 2\nseq 0\nlog l1\nmore 1\n",
		"lodestar 1\nnext 2\nseq 0\nlog l1\nlog l1\n", "lodestar 1\nnext 2\nnext 2\nseq 0\nlog l1\n", "lodestar 1\nnext 3\nnext 2\nseq 0\nlog l1\n", "lodestar 1\nnext 2\nseq 1\nseq 0\nlog l1\n", "lodestar 1\nlodestar 1\nnext 2\nseq 0\nlog l1\n", "lodestar 1\nnext 2\nseq 0\nlog l1", "lodestar 1 next 2 seq 0 log l1\n",
	} {
		decodesNone(t, summed(s))
		decodesNone(t, s)
	}
}

func TestDecodeRefusesOtherSums(t *testing.T) { // 11.1
	lines := modelLines(some())
	sum := crc32.ChecksumIEEE([]byte(lines))
	cut := crc32.ChecksumIEEE([]byte(lines[:len(lines)-1])) // without the last line's end
	turned := crc32.Checksum([]byte(lines), crc32.MakeTable(crc32.Castagnoli))
	for _, s := range []string{
		"", "sum", "sum\n", "sum \n", fmt.Sprintf("sum %d", sum), fmt.Sprintf("sum 0%d\n", sum), fmt.Sprintf("sum +%d\n", sum), fmt.Sprintf("sum  %d\n", sum), fmt.Sprintf("sum %d \n", sum), fmt.Sprintf("sum %d\r\n", sum), fmt.Sprintf("sum\t%d\n", sum),
		fmt.Sprintf("%d\n", sum), fmt.Sprintf("SUM %d\n", sum), fmt.Sprintf("sum %x\n", sum), fmt.Sprintf("sum %d\n", sum+1), fmt.Sprintf("sum %d\n", sum-1), fmt.Sprintf("sum %d\n", uint64(sum)+1<<32), fmt.Sprintf("sum %d\n", int32(^sum)), fmt.Sprintf("sum %d\n", cut), fmt.Sprintf("sum %d\n", turned), "sum 0\n", "sum 1\n",
		fmt.Sprintf("sum %d\n\n", sum), fmt.Sprintf("\nsum %d\n", sum), fmt.Sprintf("sum %d\nx", sum), fmt.Sprintf("sum %d\nsegment s3\n", sum), fmt.Sprintf("sum %d\nsum %d\n", sum, sum), fmt.Sprintf("sum %d\n%ssum %d\n", sum, lines, sum), fmt.Sprintf("sum 1\nsum %d\n", sum),
	} {
		decodesNone(t, lines+s)
		if s != "" {
			decodesNone(t, summed(lines+s))
		}
	}
	decodesNone(t, summed(lines)+summed(lines))
	decodesNone(t, fmt.Sprintf("sum %d\n%s", sum, lines))
	mayBeOne(t, some())
}

// modelDecode reads s by a pattern of the whole and holds its sum and its manifest against the other models.
func modelDecode(s string) (api.Manifest, api.Errno) {
	found := wholeOf.FindStringSubmatch(s)
	if found == nil || summed(found[1]) != s {
		return api.Manifest{}, api.ErrManifest
	}
	m := api.Manifest{Log: found[4]}
	for _, x := range segmentOf.FindAllStringSubmatch(found[5], -1) {
		m.Segments = append(m.Segments, x[1])
	}
	var errNext, errSeq error
	m.Next, errNext = strconv.Atoi(found[2])
	m.Seq, errSeq = strconv.Atoi(found[3])
	if errNext != nil || errSeq != nil || !modelMay(m) {
		return api.Manifest{}, api.ErrManifest
	}
	return m, api.OK
}

// asModel wants of s what the model says, and answers whether that is a manifest.
func asModel(t *testing.T, s string) bool {
	t.Helper()
	want, e := modelDecode(s)
	if m, got := Decode(s); !same(m, want) || got != e {
		t.Fatalf("Decode(%q) = %v, %d, want %v, %d", s, m, got, want, e)
	}
	if e != api.OK {
		return false
	}
	if b, e := Encode(want); b != s || e != api.OK { // there and back
		t.Fatalf("Encode(%v) = %q, %d, want %q", want, b, e, s)
	}
	return true
}

func TestEachByteTurned(t *testing.T) { // 11.1
	for _, m := range []api.Manifest{{Log: "l1", Next: 2}, some()} {
		lines := modelLines(m)
		whole := summed(lines)
		for i := range whole {
			for b := range 256 {
				turned := []byte(whole)
				turned[i] = byte(b)
				if asModel(t, string(turned)) != (whole[i] == byte(b)) {
					t.Fatalf("byte %d turned to %d", i, b)
				}
				if i < len(lines) {
					asModel(t, summed(string(turned[:len(lines)])))
				}
			}
		}
	}
}

func TestEachByteLessOrMore(t *testing.T) { // 11.1
	lines := modelLines(some())
	whole := summed(lines)
	for i := range len(whole) {
		decodesNone(t, whole[:i])
		decodesNone(t, whole[i+1:])
		asModel(t, whole[:i]+whole[i+1:])
		for _, more := range []string{" ", "\n", "\x00", "0", "1", "s", "\r"} {
			asModel(t, whole[:i]+more+whole[i:])
			asModel(t, whole+more)
			if i <= len(lines) {
				asModel(t, summed(lines[:i]+more+lines[i:]))
			}
		}
		if i < len(lines) {
			asModel(t, summed(lines[:i]))
			asModel(t, summed(lines[:i]+lines[i+1:]))
		}
	}
}

// drawn is a manifest, mostly one that may be.
func drawn(draw *rand.Rand) api.Manifest {
	m := api.Manifest{Next: 2 + draw.IntN(14), Seq: draw.IntN(2000)}
	name := func() string {
		if draw.IntN(30) == 0 {
			bad := badNames()
			return bad[draw.IntN(len(bad))]
		}
		return string("sl"[draw.IntN(2)]) + strconv.Itoa(1+draw.IntN(m.Next-1+draw.IntN(20)/19))
	}
	m.Log = name()
	for range draw.IntN(6) {
		if s := name(); s != m.Log && !slices.Contains(m.Segments, s) || draw.IntN(8) == 0 {
			m.Segments = append(m.Segments, s)
		}
	}
	if draw.IntN(15) == 0 {
		m.Next = draw.IntN(5) - 2
	}
	if draw.IntN(15) == 0 {
		m.Seq = -1 - draw.IntN(5)
	}
	return m
}

func TestEncodeAsModel(t *testing.T) { // 11.1
	draw := rand.New(rand.NewPCG(11, 1))
	may := 0
	for range 30000 {
		m := drawn(draw)
		if !modelMay(m) {
			encodesNone(t, m)
			continue
		}
		may++
		mayBeOne(t, m)
	}
	if may < 10000 || may > 25000 {
		t.Errorf("%d manifests may be", may)
	}
}

func TestDecodeAsModel(t *testing.T) { // 11.1: lines that are put together by chance
	draw := rand.New(rand.NewPCG(11, 2))
	lines := []string{"lodestar 1", "next 5", "next 6", "seq 0", "seq 7", "log l1", "log l5", "segment s2", "segment s5", "segment l1", "segment s3", "", "sum 1", "segment", "next", "log"}
	may := 0
	for range 60000 {
		l := []string{"lodestar 1", "next " + strconv.Itoa(3+draw.IntN(4)), "seq 0", "log l1"}
		for range draw.IntN(4) {
			l = append(l, lines[7+draw.IntN(4)])
		}
		for range draw.IntN(3) {
			if i, x := draw.IntN(len(l)), lines[draw.IntN(len(lines))]; draw.IntN(2) == 0 {
				l[i] = x
			} else {
				l = slices.Insert(l, i, x)
			}
		}
		if asModel(t, summed(strings.Join(l, "\n")+"\n")) {
			may++
		}
	}
	if may < 2000 || may > 40000 {
		t.Errorf("%d manifests may be", may)
	}
}

func TestManyLinesTakeNoRoom(t *testing.T) { // R1: what is refused is not kept ahead
	for _, s := range []string{strings.Repeat("\n", 1<<24), strings.Repeat("segment \n", 1<<20), summed(modelLines(some()) + strings.Repeat("segment s1\n", 1<<20))} {
		var before, behind runtime.MemStats
		runtime.ReadMemStats(&before)
		_, e := Decode(s)
		runtime.ReadMemStats(&behind)
		if took := behind.TotalAlloc - before.TotalAlloc; e != api.ErrManifest || took > 1<<20 {
			t.Errorf("%d bytes were taken for %d: error %d", took, len(s), e)
		}
	}
}

func TestEncodeLeavesWhatIsHandedIn(t *testing.T) { // R4: what lies behind the list's end, too
	kept := []string{"s9", "s2", "s4", "behind", "the end"}
	m := api.Manifest{Segments: kept[:3], Log: "l10", Next: 11}
	for range 2 {
		mayBeOne(t, m)
		if !slices.Equal(kept, []string{"s9", "s2", "s4", "behind", "the end"}) {
			t.Fatalf("%q", kept)
		}
	}
	kept[2] = "s9"
	encodesNone(t, m)
	if !slices.Equal(kept, []string{"s9", "s2", "s9", "behind", "the end"}) {
		t.Fatalf("%q", kept)
	}
}

func TestDecodeHandsOutNewMemory(t *testing.T) { // R4
	s := summed(modelLines(some()))
	a, _ := Decode(s)
	b, _ := Decode(s)
	a.Segments[0] = "s1"
	_ = append(a.Segments[:1], "s3")
	if !same(b, some()) {
		t.Errorf("%v", b)
	}
	mayBeOne(t, some())
}
