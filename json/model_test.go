package json

import (
	library "encoding/json"
	"math/big"
	"math/rand/v2"
	"regexp"
	"slices"
	"strings"
	"testing"
	"unicode/utf8"

	"lodestar/api"
)

// A model of the reader that goes another way: tokens are cut by patterns, what may follow is a state, and what is open stands on a stack.

var (
	blankPattern  = longest(`^[ \t\n\r]*`)
	numberPattern = longest(`^-?(0|[1-9][0-9]*)(\.[0-9]+)?([eE][-+]?[0-9]+)?`)
	startPattern  = longest(`^-?((0|[1-9][0-9]*)(\.[0-9]*|(\.[0-9]+)?[eE]([-+]?[0-9]*))?)?`) // of what may become a number
	wholePattern  = regexp.MustCompile(`^-?[0-9]+$`)
	piecePattern  = longest(`^([^\x00-\x1f"\\]|\\["\\/bfnrt]|\\u([0-9abcefABCEF][0-9a-fA-F]{3}|[dD][0-7][0-9a-fA-F]{2}|[dD][89abAB][0-9a-fA-F]{2}\\u[dD][c-fC-F][0-9a-fA-F]{2}))*`)
)

func longest(pattern string) *regexp.Regexp {
	r := regexp.MustCompile(pattern)
	r.Longest()
	return r
}

// What may follow.
const (
	wantValue = iota
	wantValueOrEnd
	wantName
	wantNameOrEnd
	wantColon
	wantCommaOrEnd
	wantNothing
)

// open is a list or object that is not shut; the first one holds the whole value.
type open struct {
	end   byte
	value api.Json
}

type cutter struct {
	s     string
	at    int
	want  int
	stack []open
}

// lay puts a value into what is open.
func (m *cutter) lay(j api.Json) {
	top := &m.stack[len(m.stack)-1]
	top.value.List = append(top.value.List, j)
	m.want = wantCommaOrEnd
	if len(m.stack) == 1 {
		m.want = wantNothing
	}
}

// number answers how long the number is, and it.
func (m *cutter) number(rest string) (int, api.Json, api.Errno) {
	start, token := startPattern.FindString(rest), numberPattern.FindString(rest)
	if len(start) > len(token) {
		return len(start), api.Json{}, api.ErrJson
	}
	n, ok := new(big.Int).SetString(token, 10)
	if !wholePattern.MatchString(token) || !ok || n.CmpAbs(big.NewInt(1<<53-1)) > 0 {
		return 0, api.Json{}, api.ErrNumber
	}
	return len(token), whole(int(n.Int64())), api.OK
}

// text answers how long the text is, and it; or how much of it may stand.
func (m *cutter) text(rest string) (int, api.Json, bool) {
	good := rest[1:]
	for i, c := range good {
		if c == utf8.RuneError && !strings.HasPrefix(good[i:], "\xef\xbf\xbd") {
			good = good[:i]
			break
		}
	}
	size := 1 + len(piecePattern.FindString(good))
	if size == len(rest) || rest[size] != '"' {
		return size, api.Json{}, false
	}
	var s string
	if library.Unmarshal([]byte(rest[:size+1]), &s) != nil {
		panic("the library reads no text in " + rest)
	}
	return size + 1, text(s), true
}

// value reads a value's first token.
func (m *cutter) value(rest string) (int, api.Errno) {
	first := rest[0]
	if !strings.ContainsRune("{[\"tfn-0123456789", rune(first)) {
		return m.at, api.ErrJson
	}
	if len(m.stack) > api.MaxJson {
		return m.at, api.ErrDeep
	}
	switch first {
	case '[':
		m.stack = append(m.stack, open{']', list()})
		m.want = wantValueOrEnd
		m.at++
		return 0, api.OK
	case '{':
		m.stack = append(m.stack, open{'}', object("")})
		m.want = wantNameOrEnd
		m.at++
		return 0, api.OK
	case '"':
		size, j, ok := m.text(rest)
		m.at += size
		if !ok {
			return m.at, api.ErrJson
		}
		m.lay(j)
		return 0, api.OK
	case 't', 'f', 'n':
		return m.word(rest)
	}
	size, j, e := m.number(rest)
	m.at += size
	if e != api.OK {
		return m.at, e
	}
	m.lay(j)
	return 0, api.OK
}

func (m *cutter) word(rest string) (int, api.Errno) {
	words := map[byte]string{'t': "true", 'f': "false", 'n': "null"}
	values := map[byte]api.Json{'t': truth(1), 'f': truth(0), 'n': null()}
	word := words[rest[0]]
	size := 0
	for size < min(len(word), len(rest)) && word[size] == rest[size] {
		size++
	}
	m.at += size
	if size < len(word) {
		return m.at, api.ErrJson
	}
	m.lay(values[rest[0]])
	return 0, api.OK
}

func (m *cutter) name(rest string) (int, api.Errno) {
	if rest[0] != '"' {
		return m.at, api.ErrJson
	}
	size, j, ok := m.text(rest)
	if !ok {
		return m.at + size, api.ErrJson
	}
	top := &m.stack[len(m.stack)-1]
	if slices.Contains(top.value.Names, j.Text) {
		return m.at, api.ErrTwice
	}
	top.value.Names = append(top.value.Names, j.Text)
	m.at += size
	m.want = wantColon
	return 0, api.OK
}

// token reads one token.
func (m *cutter) token() (int, api.Errno) {
	rest := m.s[m.at:]
	top := m.stack[len(m.stack)-1]
	shuts := m.want == wantValueOrEnd || m.want == wantNameOrEnd || m.want == wantCommaOrEnd
	switch {
	case shuts && rest[0] == top.end:
		m.stack = m.stack[:len(m.stack)-1]
		m.at++
		m.lay(top.value)
		return 0, api.OK
	case m.want == wantValue || m.want == wantValueOrEnd:
		return m.value(rest)
	case m.want == wantName || m.want == wantNameOrEnd:
		return m.name(rest)
	case m.want == wantColon && rest[0] == ':':
		m.want = wantValue
	case m.want == wantCommaOrEnd && rest[0] == ',' && top.end == ']':
		m.want = wantValue
	case m.want == wantCommaOrEnd && rest[0] == ',':
		m.want = wantName
	default:
		return m.at, api.ErrJson
	}
	m.at++
	return 0, api.OK
}

// modelParse is what Parse is to answer.
func modelParse(s string) (api.Json, int, api.Errno) {
	m := &cutter{s: s, stack: []open{{}}}
	for {
		m.at += len(blankPattern.FindString(s[m.at:]))
		if m.at == len(s) {
			break
		}
		if at, e := m.token(); e != api.OK {
			return api.Json{}, at, e
		}
	}
	if m.want != wantNothing {
		return api.Json{}, len(s), api.ErrJson
	}
	return m.stack[0].value.List[0], 0, api.OK
}

// compare wants of Parse what the model answers, and what the library says of texts that may stand.
func compare(t *testing.T, s string) api.Errno {
	t.Helper()
	j, at, e := Parse(s)
	want, place, f := modelParse(s)
	if !Same(j, want) || at != place || e != f {
		t.Fatalf("Parse(%q) = %v, %d, %d, want %v, %d, %d", s, j, at, e, want, place, f)
	}
	if e == api.OK { // 3.4
		if Check(j) != api.OK || !library.Valid([]byte(s)) {
			t.Fatalf("Parse(%q) reads %v", s, j)
		}
		p, e := Print(j)
		again, _, f := Parse(p)
		if e != api.OK || f != api.OK || !Same(again, j) {
			t.Fatalf("Print of what Parse(%q) reads: %q, %d, %d", s, p, e, f)
		}
	}
	return e
}

// row is the text of so many of the parts, the place of each a digit of n.
func row(parts []string, n, length int) string {
	var b strings.Builder
	for range length {
		b.WriteString(parts[n%len(parts)])
		n /= len(parts)
	}
	return b.String()
}

func TestParseOfAllShortTexts(t *testing.T) { // 3.1, 3.4
	for _, x := range []struct {
		parts []string
		most  int
	}{
		{[]string{"[", "]", "{", "}", ",", ":", `"a"`, `"b"`, "1", " "}, 5},
		{[]string{"-", "0", "1", ".", "e", "E", "+", " ", "x", "9007199254740991"}, 5},
		{[]string{`"`, `\`, "u", "n", "d83d", "de00", "0041", "\x01", "\xe2\x82", "\xac", "\ufffd"}, 5},
		{[]string{"t", "r", "u", "e", "f", "a", "l", "s", "n", "[", "]", "ue", "alse", "ull"}, 4},
	} {
		for length := range x.most + 1 {
			count := 1
			for range length {
				count *= len(x.parts)
			}
			for n := range count {
				s := row(x.parts, n, length)
				compare(t, s)
				if x.parts[0] == `"` {
					compare(t, `"`+s+`"`)
				}
			}
		}
	}
}

// written draws a way to write j: with blanks, with escapes that need not be.
func (d drawer) written(j api.Json) string {
	blank := func() string { return [...]string{"", "", "", " ", "\n\t", "\r "}[d.IntN(6)] }
	s, _ := Print(api.Json{Kind: j.Kind, N: j.N})
	switch j.Kind {
	case api.JsonText:
		s = d.quoted(j.Text)
	case api.JsonList, api.JsonObject:
		brackets, l := s, []string{}
		for i, part := range j.List {
			p := d.written(part)
			if j.Kind == api.JsonObject {
				p = blank() + d.quoted(j.Names[i]) + blank() + ":" + p
			}
			l = append(l, p)
		}
		s = brackets[:1] + strings.Join(l, ",") + blank() + brackets[1:]
	}
	return blank() + s + blank()
}

// quoted draws a way to write a text.
func (d drawer) quoted(s string) string {
	b := []byte{'"'}
	for _, c := range s {
		p, _ := Print(text(string(c)))
		if c < 0x10000 && d.IntN(4) == 0 {
			p = `"\u` + string([]byte{"0123456789abcdef"[c>>12], "0123456789ABCDEF"[c>>8&15], "0123456789abcdef"[c>>4&15], "0123456789abcdEF"[c&15]}) + `"`
		}
		b = append(b, p[1:len(p)-1]...)
	}
	return string(append(b, '"'))
}

// broken draws a text that is s but for a few bytes.
func (d drawer) broken(s string) string {
	parts := []string{"", "[", "]", "{", "}", ",", ":", `"`, `\`, `\u`, "-", "0", "1", ".", "e", "+", "5", " ", "t", "null", "x", "\x00", "\x1f", "\xff", "\xc3", "\u00fc", "\\ud83d", "\\ude00", `"a":1,"a":2`, `{"a":1,"a":2}`, `{"a":1,"\u0061"`, `"a":`, strings.Repeat("[", 29), strings.Repeat(`{"a":`, 31)}
	for range d.IntN(3) {
		at := d.IntN(len(s) + 1)
		s = s[:at] + parts[d.IntN(len(parts))] + s[min(at+d.IntN(3), len(s)):]
	}
	return s
}

func TestParseOfDrawnTexts(t *testing.T) { // 3.1, 3.4
	seen := map[api.Errno]int{}
	for seed := range uint64(20000) {
		d := drawer{rand.New(rand.NewPCG(seed, 2))}
		j := d.value(1 + d.IntN(6))
		s := d.written(j)
		reads(t, s, j)
		s = d.broken(s)
		if d.IntN(8) == 0 {
			s = strings.Repeat("[", 27+d.IntN(7)) + s
		}
		seen[compare(t, s)]++
	}
	for _, e := range []api.Errno{api.OK, api.ErrJson, api.ErrDeep, api.ErrTwice, api.ErrNumber} {
		if seen[e] < 50 {
			t.Errorf("%d texts were answered by %d", seen[e], e)
		}
	}
}

func TestParseOfWhatIsCut(t *testing.T) { // 3.1: the beginnings of a text that may stand are no values, and each breaks off at its end or within a token
	s := ` {"a":[1,-20,null,true,false,"\u00e9\ud83d\ude00\n` + "\u20ac" + `"],"b":{"c":{},"d":[[]]}} `
	j, _, _ := Parse(s)
	for i := range len(s) - 1 {
		if e := compare(t, s[:i]); e != api.ErrJson {
			t.Errorf("Parse(%q): %d", s[:i], e)
		}
	}
	reads(t, s[:len(s)-1], j)
}
