package http

import (
	"math/big"
	"math/rand/v2"
	"regexp"
	"slices"
	"strings"
	"testing"

	"lodestar/api"
)

// A model of the reader that goes another way: all is cut into lines, each line is judged by patterns, and then the first judgement against it counts.

var (
	firstPattern    = regexp.MustCompile(`\A([A-Z]{1,16}) (/[!-~]*) HTTP/1\.1\z`)
	linePattern     = regexp.MustCompile(`\A[-0-9A-Za-z]+:[^\n\r\x00]*\z`)
	lengthPattern   = regexp.MustCompile(`\A(?i:content-length):`)
	wholePattern    = regexp.MustCompile(`\A[^:]*:[ \t]*(0|[1-9][0-9]*)[ \t]*\z`)
	encodingPattern = regexp.MustCompile(`\A(?i:transfer-encoding):`)
)

// endOf answers how many of the lines that | cuts are the head's, with the empty one; -1, if it does not end.
func endOf(lines []string) int {
	for i := 1; i < len(lines)-1; i++ {
		if lines[i] == "" {
			return i + 1
		}
	}
	return -1
}

// judge answers what one line alone, behind the first, has against it.
func judge(line string) api.Errno {
	if !linePattern.MatchString(line) || encodingPattern.MatchString(line) {
		return api.ErrHttp
	}
	if !lengthPattern.MatchString(line) {
		return api.OK
	}
	whole := wholePattern.FindStringSubmatch(line)
	if whole == nil {
		return api.ErrHttp
	}
	if n, _ := new(big.Int).SetString(whole[1], 10); n.Cmp(big.NewInt(1<<18)) > 0 {
		return api.ErrLarge
	}
	return api.OK
}

// modelParse is what Parse is to answer.
func modelParse(s string) (api.Request, api.Errno) {
	lines := strings.Split(s, "\r\n")
	end := endOf(lines)
	if end < 0 && len(s) > 4096 {
		return api.Request{}, api.ErrLarge
	}
	if end < 0 {
		return api.Request{}, api.ErrHttp
	}
	if size := 2*end + len(strings.Join(lines[:end], "")); size > 4096 {
		return api.Request{}, api.ErrLarge
	}
	first := firstPattern.FindStringSubmatch(lines[0])
	if first == nil {
		return api.Request{}, api.ErrHttp
	}
	length := "0"
	for i, line := range lines[1 : end-1] {
		if slices.ContainsFunc(lines[1:1+i], lengthPattern.MatchString) && lengthPattern.MatchString(line) {
			return api.Request{}, api.ErrHttp
		}
		if e := judge(line); e != api.OK {
			return api.Request{}, e
		}
		if lengthPattern.MatchString(line) {
			length = wholePattern.FindStringSubmatch(line)[1]
		}
	}
	body := strings.Join(lines[end:], "\r\n")
	if big.NewInt(int64(len(body))).String() != length {
		return api.Request{}, api.ErrHttp
	}
	return api.Request{Method: first[1], Path: first[2], Body: body}, api.OK
}

// compare wants of Parse what the model answers.
func compare(t *testing.T, s string) api.Errno {
	t.Helper()
	r, e := Parse(s)
	if want, f := modelParse(s); r != want || e != f {
		t.Fatalf("Parse(%q) = %q, %d, want %q, %d", s, r, e, want, f)
	}
	return e
}

// rows answers all rows of at most so many of the parts.
func rows(parts []string, most int) []string {
	all, last := []string{""}, []string{""}
	for range most {
		var next []string
		for _, s := range last {
			for _, part := range parts {
				next = append(next, s+part)
			}
		}
		all, last = append(all, next...), next
	}
	return all
}

func TestParseOfAllShortTexts(t *testing.T) { // 4.1
	seen := map[api.Errno]int{}
	for _, s := range rows([]string{"GET", " ", "/", "HTTP/1.1", "\r\n", "\r\n\r\n", "a"}, 6) {
		seen[compare(t, s)]++
	}
	for _, s := range rows([]string{"\r\n", "\r", "\n", "Content-Length:", "transfer-encoding", "a", ":", " ", "0", "1"}, 5) {
		seen[compare(t, "GET / HTTP/1.1\r\n"+s)]++
		seen[compare(t, "GET / HTTP/1.1\r\n"+s+"\r\n\r\n")]++
	}
	for _, s := range rows([]string{"content-length: 1\r\n", "Content-Length:0\r\n", "Content-Length: 262145\r\n", "Content-Length: 01\r\n", "Transfer-Encoding: b\r\n", "c:\r\n", "c\r\n", "\r\n", "d"}, 5) {
		seen[compare(t, "GET / HTTP/1.1\r\n"+s)]++
	}
	for _, e := range []api.Errno{api.OK, api.ErrHttp, api.ErrLarge} {
		if seen[e] < 50 {
			t.Errorf("%d texts were answered by %d", seen[e], e)
		}
	}
}

// drawer draws requests, and ways to tell them.
type drawer struct{ *rand.Rand }

// from draws a text of so many of these bytes.
func (d drawer) from(these string, size int) string {
	b := make([]byte, size)
	for i := range b {
		b[i] = these[d.IntN(len(these))]
	}
	return string(b)
}

// request draws a request that Write tells.
func (d drawer) request() api.Request {
	const capitals = "ABCDEFGHIJKLMNOPQRSTUVWXYZ"
	visible := strings.Join(bytes()['!':'~'+1], "")
	return api.Request{Method: d.from(capitals, 1+d.IntN(16)), Path: "/" + d.from(visible, d.IntN(20)), Body: d.from(strings.Join(bytes(), ""), d.IntN(3)*d.IntN(20))}
}

// cased draws which letters of s are capital.
func (d drawer) cased(s string) string {
	b := []byte(s)
	for i, c := range b {
		if 'a' <= c && c <= 'z' && d.IntN(3) == 0 {
			b[i] -= 'a' - 'A'
		}
	}
	return string(b)
}

// told draws a way to tell r.
func (d drawer) told(r api.Request) string {
	blank := func() string { return d.from(" \t", d.IntN(3)) }
	var lines []string
	for range d.IntN(4) {
		lines = append(lines, d.cased([]string{"host", "accept", "content-type", "content-length-", "x-transfer-encoding"}[d.IntN(5)])+":"+d.from("a1: \t\x01\xff;", d.IntN(9)))
	}
	if r.Body != "" || d.IntN(2) == 0 {
		line := d.cased("content-length") + ":" + blank() + decimal(len(r.Body)) + blank()
		lines = slices.Insert(lines, d.IntN(len(lines)+1), line)
	}
	return head(append([]string{r.Method + " " + r.Path + " HTTP/1.1"}, lines...)...) + r.Body
}

// broken draws a text that is s but for a few bytes.
func (d drawer) broken(s string) string {
	parts := []string{"", " ", "\t", "\r", "\n", "\r\n", "\r\n\r\n", ":", "0", "1", "-", "a", "A", "/", "\x00", "\x7f", "\x80", "\u00fc", "\r\na: b", "\r\nContent-Length: 0", "\r\ncontent-length:262145\t", "\r\nTransfer-Encoding: a", strings.Repeat("x", 4000), strings.Repeat("9", 30)}
	for range 1 + d.IntN(2) {
		at := d.IntN(len(s) + 1)
		s = s[:at] + parts[d.IntN(len(parts))] + s[min(at+d.IntN(3), len(s)):]
	}
	return s
}

func TestParseOfDrawnTexts(t *testing.T) { // 4.1, 4.4
	seen := map[api.Errno]int{}
	for seed := range uint64(50000) {
		d := drawer{rand.New(rand.NewPCG(seed, 4))}
		r := d.request()
		s := d.told(r)
		reads(t, s, r)
		seen[compare(t, d.broken(s))]++
	}
	for _, e := range []api.Errno{api.OK, api.ErrHttp, api.ErrLarge} {
		if seen[e] < 500 {
			t.Errorf("%d texts were answered by %d", seen[e], e)
		}
	}
}

func TestThereAndBack(t *testing.T) { // 4.4
	for seed := range uint64(5000) {
		d := drawer{rand.New(rand.NewPCG(seed, 5))}
		r := d.request()
		s, e := Write(r)
		if e != api.OK {
			t.Fatalf("Write(%q): %d", r, e)
		}
		reads(t, s, r)
		fails(t, s+d.from(strings.Join(bytes(), ""), 1), api.ErrHttp)
		fails(t, s[:len(s)-1], api.ErrHttp)
	}
}

func TestParseOfWhatIsCut(t *testing.T) { // 4.1, 4.4: a beginning of a request is none
	s := head("POST /points HTTP/1.1", "Host: a", "Content-Length: 6", "Accept: b") + "{\r\n\r\n}"
	for i := range len(s) {
		fails(t, s[:i], api.ErrHttp)
	}
	reads(t, s, api.Request{Method: "POST", Path: "/points", Body: "{\r\n\r\n}"})
}
