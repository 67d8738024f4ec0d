package json

import (
	"strconv"
	"strings"
	"testing"
	"unicode/utf8"

	"lodestar/api"
)

func TestParseTexts(t *testing.T) { // 3.1
	for s, want := range map[string]string{
		`"a b"`: "a b", `" "`: " ", `"null"`: "null", `"[1,{"`: "[1,{", `"'"`: "'", `"/"`: "/", `"a/b"`: "a/b",
		`"\""`: "\"", `"\\"`: "\\", `"\/"`: "/", `"\b"`: "\b", `"\f"`: "\f", `"\n"`: "\n", `"\r"`: "\r", `"\t"`: "\t",
		`"\"\\\/\b\f\n\r\t"`: "\"\\/\b\f\n\r\t", `"\\n"`: `\n`, `"\\\""`: `\"`, `"a\nb"`: "a\nb", `"\\u0041"`: `\u0041`, `"\\\u0041"`: `\A`,
		`"\u0041"`: "A", `"\u0000"`: "\x00", `"\u001f"`: "\x1f", `"\u007f"`: "\x7f", `"\u0022"`: "\"", `"\u005c"`: "\\", `"\u00fc"`: "\u00fc", `"\u20ac"`: "\u20ac", `"\uffff"`: "\uffff", `"\ufffd"`: "\ufffd", `"\ufeff"`: "\ufeff",
		`"\uABCD\uabcd\uAbCd"`: "\uabcd\uabcd\uabcd", `"\u00411"`: "A1", `"a\u0041b\u0042c"`: "aAbBc", `"\u0041\u0042"`: "AB",
		`"\ud7ff\ue000"`: "\ud7ff\ue000", `"\ud800\udc00"`: "\U00010000", `"\ud83d\ude00"`: "\U0001f600", `"\uD83D\uDE00"`: "\U0001f600", `"\udbff\udfff"`: "\U0010ffff", `"\ud800\udfff"`: "\U000103ff", `"\udbff\udc00"`: "\U0010fc00", `"\ud83d\ude00\ud83d\ude00x"`: "\U0001f600\U0001f600x",
		"\"\x7f\"": "\x7f", "\"\u0080\u00fc\u20ac\ufffd\ufffe\uffff\U0001f600\U0010ffff\"": "\u0080\u00fc\u20ac\ufffd\ufffe\uffff\U0001f600\U0010ffff", "\"\ufeff\"": "\ufeff", "\"\u2028\u2029\"": "\u2028\u2029", "\"e\u0301\"": "e\u0301",
	} {
		reads(t, s, text(want))
		reads(t, "{"+s+":"+s+"}", api.Json{Kind: api.JsonObject, Names: []string{want}, List: []api.Json{text(want)}})
	}
}

func TestParseAllRunes(t *testing.T) { // 3.1: as they are, and as escapes
	for c := rune(0); c <= utf8.MaxRune; c += 1 + c/97 {
		if !utf8.ValidRune(c) {
			continue
		}
		if c >= 32 && c != '"' && c != '\\' {
			reads(t, `"<`+string(c)+`>"`, text("<"+string(c)+">"))
		}
		digits := strconv.FormatInt(int64(0x10000+c), 16)[1:]
		if c < 0x10000 {
			reads(t, `"<\u`+digits+`>"`, text("<"+string(c)+">"))
			reads(t, `"\u`+strings.ToUpper(digits)+`"`, text(string(c)))
			continue
		}
		high, low := strconv.FormatInt(int64(0xd800+(c-0x10000)/1024), 16), strconv.FormatInt(int64(0xdc00+(c-0x10000)%1024), 16)
		reads(t, `"<\u`+high+`\u`+strings.ToUpper(low)+`>"`, text("<"+string(c)+">"))
		fails(t, `"<\u`+low+`\u`+high+`>"`, 2, api.ErrJson)
	}
}

func TestParseHalves(t *testing.T) { // 3.1: one alone at its \
	for unit := 0xd800; unit < 0xe000; unit += 0x40 {
		half := `\u` + strconv.FormatInt(int64(unit), 16)
		fails(t, `"`+half+`"`, 1, api.ErrJson)
		fails(t, `"ab`+half+`c"`, 3, api.ErrJson)
		fails(t, `"`+half+`\u0041"`, 1, api.ErrJson)
		fails(t, `"\u0041`+half+`"`, 7, api.ErrJson)
		fails(t, `"\ud83d\ude00`+half+`"`, 13, api.ErrJson)
		fails(t, `"\\`+half+`"`, 3, api.ErrJson)
		reads(t, `"\\`+half[1:]+`"`, text(half))
	}
	for _, s := range []string{
		`"\ud83d"`, `"\ude00"`, `"\ud83d`, `"\ud83d\`, `"\ud83d\u`, `"\ud83d\ude0`, `"\ud83d\ude0"`, `"\ud83d\ude0x"`, `"\ud83d\n"`, `"\ud83d\\ude00"`, `"\ud83dx\ude00"`, `"\ud83d \ude00"`, `"\ud83d\ud83d\ude00"`, `"\ud83d\ue000"`, `"\ud83d\udbff"`, `"\ud83d\Ude00"`, `"\ud83d/ude00"`, `"\ude00\ud83d"`, `"\udc00\udc00"`, `"\ud83d\x"`, "\"\\ud83d\xff\"", "\"\\ud83d\n\"",
	} {
		fails(t, s, 1, api.ErrJson)
		fails(t, `{"a":1,`+s, 8, api.ErrJson)
	}
}

func TestParseWrongEscapes(t *testing.T) { // 3.1: at the \, also where the text breaks off within one
	for b := range 256 {
		if strings.IndexByte(`"\/bfnrtu`, byte(b)) < 0 {
			fails(t, `"a\`+string([]byte{byte(b)})+`"`, 2, api.ErrJson)
		}
	}
	for _, s := range []string{`\`, `\x41"`, `\u`, `\u"`, `\u0`, `\u00`, `\u004`, `\u004"`, `\u00 41"`, `\u004g"`, `\u00_1"`, `\u+041"`, `\u-041"`, `\u 041"`, `\u0x41"`, `\u{41}"`, `\U0041"`, "\\u00\xff1\"", "\\u\u06600041\"", `\'"`, `\0"`, `\a"`, `\v"`, `\N"`, "\\\n\"", "\\\xff\""} {
		fails(t, `"`+s, 1, api.ErrJson)
		fails(t, `["ab`+s, 4, api.ErrJson)
		fails(t, `{"ab`+s, 4, api.ErrJson)
	}
}

func TestParseControls(t *testing.T) { // 3.1: runes below 32 at them
	for b := range 32 {
		fails(t, `"a`+string(rune(b))+`"`, 2, api.ErrJson)
		fails(t, `{"`+string(rune(b))+`":1}`, 2, api.ErrJson)
		fails(t, `"\n`+string(rune(b)), 3, api.ErrJson)
	}
}

func TestParseBytesOfNoRune(t *testing.T) { // 3.1: the first one that belongs to none
	for _, s := range []string{
		"\x80", "\xbf", "\xc0\x80", "\xc1\xbf", "\xc3", "\xc3(", "\xe2\x82", "\xe2\x82(", "\xe2(\xac", "\xe0\x80\x80", "\xe0\x9f\xbf", "\xed\xa0\x80", "\xed\xbf\xbf", "\xf0\x9f\x98", "\xf0\x9f\x98(", "\xf0\x80\x80\x80", "\xf4\x90\x80\x80", "\xf5\x80\x80\x80", "\xf8\x88\x80\x80\x80", "\xfe", "\xff", "\xff\ufffd", "\xfc\u00fc",
	} {
		fails(t, `"`+s+`"`, 1, api.ErrJson)
		fails(t, `"`+s, 1, api.ErrJson)
		fails(t, "\"\ufffd\u20ac"+s+`"`, 7, api.ErrJson)
		fails(t, `{"a":1,"a`+s+`":2}`, 9, api.ErrJson)
		fails(t, `"\u00fc`+s+`"`, 7, api.ErrJson)
	}
}

func TestParseTextsThatBreakOff(t *testing.T) { // 3.1: the length
	for _, s := range []string{`"`, `"a`, `"a `, `"\"`, `"\\\"`, `"\n`, `"\u0041`, `"\ud83d\ude00`, "\"\u00fc", "\"\U0001f600", `["`, `{"a":"b`} {
		fails(t, s, len(s), api.ErrJson)
	}
}
