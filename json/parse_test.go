package json

import (
	"slices"
	"strings"
	"testing"

	"lodestar/api"
)

// reads wants that s is read as j.
func reads(t *testing.T, s string, j api.Json) {
	t.Helper()
	if got, at, e := Parse(s); !Same(got, j) || at != 0 || e != api.OK {
		t.Errorf("Parse(%q) = %v, %d, %d, want %v", s, got, at, e, j)
	}
}

// fails wants this error of s, at this place, and no value.
func fails(t *testing.T, s string, at int, e api.Errno) {
	t.Helper()
	if j, place, got := Parse(s); !Same(j, api.Json{}) || place != at || got != e {
		t.Errorf("Parse(%q) = %v, %d, %d, want %d, %d", s, j, place, got, at, e)
	}
}

func TestParseReads(t *testing.T) { // 3.1
	for s, j := range map[string]api.Json{
		` {"a":[1,true,null]} `: object("a", list(whole(1), truth(1), null())),
		"null":                  null(),
		"true":                  truth(1),
		"false":                 truth(0),
		`""`:                    text(""),
		`"abc"`:                 text("abc"),
		"[]":                    list(),
		"{}":                    object(""),
		"[[]]":                  list(list()),
		"[{},[],\"\",0]":        list(object(""), list(), text(""), whole(0)),
		"[null,true,false]":     list(null(), truth(1), truth(0)),
		"[1,1,1]":               list(whole(1), whole(1), whole(1)),
		`{"b":1,"a":2}`:         object("b a", whole(1), whole(2)),
		`{"a":{"a":{"a":1}}}`:   object("a", object("a", object("a", whole(1)))),
		`[{"a":1},{"a":2}]`:     list(object("a", whole(1)), object("a", whole(2))),
		`{"a":"a","A":"a"}`:     object("a A", text("a"), text("a")),
		`{"":0}`:                {Kind: api.JsonObject, Names: []string{""}, List: []api.Json{whole(0)}},
	} {
		reads(t, s, j)
	}
}

func TestParseNumbers(t *testing.T) { // 3.1
	for s, n := range map[string]int{
		"0": 0, "-0": 0, "1": 1, "-1": -1, "9": 9, "10": 10, "-10": -10, "1234567890": 1234567890,
		"9007199254740991": 1<<53 - 1, "-9007199254740991": -(1<<53 - 1), "9007199254740990": 1<<53 - 2,
	} {
		reads(t, s, whole(n))
		reads(t, "["+s+","+s+"]", list(whole(n), whole(n)))
	}
}

func TestParseRefusedNumbers(t *testing.T) { // 3.1: at the first byte
	for _, s := range []string{
		"1.0", "1e2", "1E2", "1e+2", "1e-2", "1E+2", "1E-02", "0.0", "-0.0", "0e0", "-0e0", "0E0", "1.5", "10.25", "-3.75e+10", "1.0e0", "1e0", "100e-2", "1e999999999999",
		"9007199254740992", "-9007199254740992", "9007199254740993", "90071992547409910", "9223372036854775807", "9223372036854775808", "-9223372036854775808", "-9223372036854775809", "18446744073709551616", "18446744073709551617",
		"1" + strings.Repeat("0", 400), "-1" + strings.Repeat("0", 400), "9007199254740992.5", "0.9007199254740992",
	} {
		fails(t, s, 0, api.ErrNumber)
		fails(t, " "+s+" ", 1, api.ErrNumber)
		fails(t, "[1,\t"+s+"]", 4, api.ErrNumber)
		fails(t, `{"a":`+s+"}", 5, api.ErrNumber)
		// The number is whole: what follows is seen later than it.
		for _, behind := range []string{"x", " .", "-", "]", ",", " 1", "\xff", "\""} {
			fails(t, s+behind, 0, api.ErrNumber)
		}
	}
}

func TestParseNumbersThatAreNone(t *testing.T) { // 3.1: where a byte may not stand, behind all that was read
	for _, x := range []struct {
		s  string
		at int
	}{
		{"-", 1}, {"--1", 1}, {"-x", 1}, {"- 1", 1}, {"-.5", 1}, {"-e1", 1}, {"-\"", 1}, {"+1", 0}, {".5", 0}, {"e1", 0}, {"x1", 0},
		{"01", 1}, {"00", 1}, {"-01", 2}, {"-00", 2}, {"007", 1}, {"01.5", 1}, {"0x10", 1}, {"09007199254740992", 1},
		{"1.", 2}, {"1.x", 2}, {"1..5", 2}, {"1.e5", 2}, {"1.-5", 2}, {"1. 5", 2}, {"0.", 2}, {"-0.", 3},
		{"1e", 2}, {"1E", 2}, {"1ex", 2}, {"1e+", 3}, {"1e-", 3}, {"1e+-1", 3}, {"1e++1", 3}, {"1e.5", 2}, {"1e 5", 2}, {"0e", 2}, {"1ee5", 2},
		{"1.5e", 4}, {"1.5e+", 5}, {"1.5e+x", 5}, {"9007199254740992.", 17}, {"9007199254740992e", 17}, {"9007199254740992e-", 18},
		{"1x", 1}, {"1-", 1}, {"1-1", 1}, {"1+1", 1}, {"1_000", 1}, {"1 000", 2}, {"1true", 1}, {"1\"", 1},
		{"0b1", 1}, {"0o7", 1}, {"NaN", 0}, {"Infinity", 0}, {"-Infinity", 1}, {"\u0661", 0}, {"1\u0661", 1}, {"\uff11", 0},
	} {
		fails(t, x.s, x.at, api.ErrJson)
		fails(t, "[0,"+x.s, x.at+3, api.ErrJson)
	}
}

func TestParseRefuses(t *testing.T) { // 3.1: at the byte that no rule lets stand; behind the last byte: the length
	for _, x := range []struct {
		s  string
		at int
	}{
		{"", 0}, {" ", 1}, {" \t\n\r", 4}, {"x", 0}, {" x", 1}, {"'a'", 0}, {"\x00", 0}, {"\xff", 0}, {"\u00fc", 0}, {"\ufeff1", 0}, {"/**/1", 0}, {"a", 0}, {"]", 0}, {"}", 0}, {",", 0}, {":", 0}, {"1\x00", 1}, {"1\xff", 1},
		{"t", 1}, {"tru", 3}, {"trux", 3}, {"truE", 3}, {"tr ue", 2}, {"tre", 2}, {"true1", 4}, {"truee", 4}, {"True", 0}, {"TRUE", 0}, {"true true", 5}, {"true,", 4}, {"tr\xff", 2},
		{"f", 1}, {"fals", 4}, {"falsy", 4}, {"falsee", 5}, {"False", 0}, {"n", 1}, {"nul", 3}, {"nil", 1}, {"nulll", 4}, {"nullnull", 4}, {"Null", 0}, {"none", 1},
		{"1 2", 2}, {"1]", 1}, {"[]]", 2}, {"{}}", 2}, {"[] []", 3}, {`"a""b"`, 3}, {`"a" x`, 4}, {"{}1", 2}, {"null ,", 5}, {"1\v", 1}, {"\f1", 0}, {"\u00a01", 0}, {"1\u2028", 1}, {"1 \x00", 2},
		{"[", 1}, {"[ ", 2}, {"[1", 2}, {"[1 ", 3}, {"[1,", 3}, {"[1, ", 4}, {"[1,]", 3}, {"[1, ]", 4}, {"[,1]", 1}, {"[,]", 1}, {"[1,,2]", 3}, {"[1 2]", 3}, {"[1:2]", 2}, {"[1}", 2}, {"[}", 1}, {"[1;2]", 2}, {"[\"a\":1]", 4}, {"[[1]", 4}, {"[[1}]", 3}, {"[tru]", 4}, {"[01]", 2}, {"[1.]", 3}, {"[-]", 2}, {"[x]", 1}, {"[1\v]", 2},
		{"{", 1}, {"{ ", 2}, {`{"`, 2}, {`{"a`, 3}, {`{"a"`, 4}, {`{"a" `, 5}, {`{"a":`, 5}, {`{"a": `, 6}, {`{"a":1`, 6}, {`{"a":1 `, 7}, {`{"a":1,`, 7}, {`{"a":1, `, 8}, {`{"a":1,}`, 7}, {`{"a":1 }x`, 8}, {`{,}`, 1}, {`{,"a":1}`, 1}, {`{"a":1,,"b":2}`, 7}, {`{"a":1 "b":2}`, 7}, {`{"a":1:"b":2}`, 6},
		{`{"a"}`, 4}, {`{"a",}`, 4}, {`{"a" 1}`, 5}, {`{"a":}`, 5}, {`{"a":,}`, 5}, {`{"a"::1}`, 5}, {`{"a"=1}`, 4}, {`{a:1}`, 1}, {`{'a':1}`, 1}, {`{1:1}`, 1}, {`{1.5:1}`, 1}, {`{null:1}`, 1}, {`{[]:1}`, 1}, {`{{}:1}`, 1}, {`{]`, 1}, {`{"a":1]`, 6}, {`{"a":x}`, 5}, {`{"a":01}`, 6}, {`{"a":tru}`, 8}, {`{"a":1,1}`, 7}, {`{"a":1,"b"}`, 10}, {`{"a":[}`, 6},
		{"[1 1.5]", 3}, {"1 1.5", 2},
	} {
		fails(t, x.s, x.at, api.ErrJson)
	}
}

func TestParseTwice(t *testing.T) { // 3.1: at the name's quote
	for _, x := range []struct {
		s  string
		at int
	}{
		{`{"a":1,"a":2}`, 7}, {`{"a":1, "a":2}`, 8}, {`{"":1,"":2}`, 6}, {`{"a":1,"b":2,"a":3}`, 13}, {`{"a":1,"b":2,"b":3}`, 13}, {`{"b":1,"a":2,"a":2,"b":1}`, 13},
		{`[{"a":1},{"a":1,"a":2}]`, 16}, {`{"a":{"b":1,"b":2}}`, 12}, {`{"a":{"b":1},"a":1}`, 13}, {`{"a":[{"a":1}],"a":1}`, 15},
		// The same names, written otherwise.
		{`{"a":1,"\u0061":2}`, 7}, {`{"\u0061":1,"a":2}`, 12}, {`{"\u00fc":1,"` + "\u00fc" + `":2}`, 12}, {`{"\n":1,"\u000a":2}`, 8}, {`{"\n":1,"\u000A":2}`, 8}, {`{"/":1,"\/":2}`, 7}, {`{"\ud83d\ude00":1,"` + "\U0001f600" + `":2}`, 18},
		// It is seen ahead of all that follows.
		{`{"a":1,"a"`, 7}, {`{"a":1,"a"x`, 7}, {`{"a":1,"a":`, 7}, {`{"a":1,"a":1.5}`, 7}, {`{"a":1,"a":1,}`, 7}, {`{"a":1,"a":{"b":1,"b":1}}`, 7},
	} {
		fails(t, x.s, x.at, api.ErrTwice)
	}
}

func TestParseTwiceIsNot(t *testing.T) { // 3.1: other names; names that break off; what is seen ahead
	reads(t, `{"a":1,"A":2,"aa":3,"":4}`, api.Json{Kind: api.JsonObject, Names: []string{"a", "A", "aa", ""}, List: []api.Json{whole(1), whole(2), whole(3), whole(4)}})
	reads(t, "{\"\u00e9\":1,\"e\u0301\":2}", object("\u00e9 e\u0301", whole(1), whole(2)))
	reads(t, `{"a":"a","b":["a","a"]}`, object("a b", text("a"), list(text("a"), text("a"))))
	fails(t, `{"a":1,"a`, 9, api.ErrJson)
	fails(t, `{"a":1,"a\`, 9, api.ErrJson)
	fails(t, `{"a":1,"a\x":2}`, 9, api.ErrJson)
	fails(t, `{"a":1.5,"a":2}`, 5, api.ErrNumber)
	fails(t, `{"a":1x,"a":2}`, 6, api.ErrJson)
	fails(t, `{"a":1,a:2}`, 7, api.ErrJson)
}

func TestParseDepth(t *testing.T) { // 3.1
	open, named := strings.Repeat("[", 32), strings.Repeat(`{"a":`, 31)
	shut, shutNamed := strings.Repeat("]", 32), strings.Repeat("}", 31)
	reads(t, open+shut, nested(list(), 31))
	reads(t, open[1:]+"1"+shut[1:], nested(whole(1), 31))
	reads(t, open[1:]+"{}"+shut[1:], nested(object(""), 31))
	reads(t, named+`"b"`+shutNamed, nestedNamed(text("b"), 31))
	reads(t, named+"[ ]"+shutNamed, nestedNamed(list(), 31))
	reads(t, "["+open[2:]+shut[2:]+","+open[1:]+shut[1:]+"]", list(nested(list(), 29), nested(list(), 30)))
	for _, s := range []string{"[", "[]", "{", "{}", "1", "-1", "0", "null", "true", "false", `""`, `"a"`, `"\x"`, "n", "nil", "-", "1.5", "1e5", "9007199254740992", "01", `{"a":1,"a":1}`} {
		fails(t, open+s, 32, api.ErrDeep)
		fails(t, open+s+shut, 32, api.ErrDeep)
		fails(t, " "+open+" "+s, 34, api.ErrDeep)
		fails(t, named+`{"a":`+s, 32*5, api.ErrDeep)
		fails(t, named+"["+s, 31*5+1, api.ErrDeep)
		fails(t, "["+open[1:]+shut[1:]+","+open[1:]+"\n"+s, 32+31+1+32, api.ErrDeep)
	}
	fails(t, strings.Repeat("[", 33), 32, api.ErrDeep)
	fails(t, strings.Repeat("[", 1<<20), 32, api.ErrDeep)
	fails(t, strings.Repeat(`{"a":`, 1<<18), 160, api.ErrDeep)
}

func TestParseDepthWithoutValue(t *testing.T) { // 3.1: where no value begins none is too deep
	open := strings.Repeat("[", 32)
	for _, s := range []string{"", "x", ",", "}", ":", "\xff", "\x00", "'", "T", "+1", ".5"} {
		fails(t, open+s, 32, api.ErrJson)
	}
	fails(t, open+"]"+strings.Repeat("]", 32), 64, api.ErrJson)
	fails(t, open+"],", 34, api.ErrJson)
	fails(t, strings.Repeat(`{"a":`, 32), 160, api.ErrJson)
	fails(t, strings.Repeat(`{"a":`, 32)+"}", 160, api.ErrJson)
}

func TestParseTakesTheFirstPlace(t *testing.T) { // 3.1
	for _, x := range []struct {
		s  string
		at int
		e  api.Errno
	}{
		{"[1.5,x", 1, api.ErrNumber}, {"[1.5,01", 1, api.ErrNumber}, {"[01,1.5", 2, api.ErrJson}, {`[1.5,{"a":1,"a":1}]`, 1, api.ErrNumber}, {`[{"a":1,"a":1},1.5]`, 8, api.ErrTwice},
		{"1.5" + strings.Repeat("[", 40), 0, api.ErrNumber}, {strings.Repeat("[", 40) + "1.5", 32, api.ErrDeep}, {"[1.5," + strings.Repeat("[", 40), 1, api.ErrNumber}, {`{"a":1,"a":` + strings.Repeat("[", 40), 7, api.ErrTwice},
		{`["\x",1.5]`, 2, api.ErrJson}, {`[1.5,"\x"]`, 1, api.ErrNumber}, {`["\ud800\x"]`, 2, api.ErrJson}, {"[\"\xff\\x\"]", 2, api.ErrJson},
	} {
		fails(t, x.s, x.at, x.e)
	}
}

func TestParseBlanks(t *testing.T) { // 3.1, 3.4: around tokens they say nothing
	tokens := []string{"{", `"a"`, ":", "[", "1", ",", "-20", ",", "null", ",", "true", ",", "false", ",", "{", "}", ",", "[", "]", "]", ",", `" b "`, ":", `" c "`, "}"}
	want := api.Json{Kind: api.JsonObject, Names: []string{"a", " b "}, List: []api.Json{list(whole(1), whole(-20), null(), truth(1), truth(0), object(""), list()), text(" c ")}}
	reads(t, strings.Join(tokens, ""), want)
	for _, blank := range []string{" ", "\t", "\n", "\r", "  ", "\r\n", " \t\n\r \r\n\t"} {
		reads(t, blank+strings.Join(tokens, blank)+blank, want)
		for i := range len(tokens) + 1 {
			reads(t, strings.Join(tokens[:i], "")+blank+strings.Join(tokens[i:], ""), want)
		}
	}
	for _, other := range []string{"\x00", "\v", "\f", "\x1c", "\u0085", "\u00a0", "\u1680", "\u2003", "\u2028", "\u3000", "\ufeff", "/**/", "#\n"} {
		for i := range len(tokens) + 1 {
			ahead := strings.Join(tokens[:i], "")
			fails(t, ahead+other+strings.Join(tokens[i:], ""), len(ahead), api.ErrJson)
		}
	}
}

func TestParseKeepsApart(t *testing.T) { // R4: no two lists of an answer share memory, nor do two answers, behind their ends, too
	s := `{"a":[1,2,3],"b":[],"c":{"d":[4],"e":{"f":[[5],[6]]}},"g":{},"h":[7,8,9,10,11]}`
	want, _, _ := Parse(s)
	for i := range want.List {
		j, _, _ := Parse(s)
		spoil(j.List[i])
		for n, part := range j.List {
			if n != i && !Same(part, want.List[n]) {
				t.Errorf("%v shares memory with part %d", part, i)
			}
		}
		if !slices.Equal(j.Names, want.Names) {
			t.Errorf("the names %q share memory with part %d", j.Names, i)
		}
	}
	j, _, _ := Parse(s)
	spoil(j)
	reads(t, s, want)
}
