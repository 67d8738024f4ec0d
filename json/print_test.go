package json

import (
	"math/rand/v2"
	"slices"
	"strings"
	"testing"

	"lodestar/api"
)

func TestPrint(t *testing.T) { // 3.2
	for want, j := range map[string]api.Json{
		"null": null(), "true": truth(1), "false": truth(0), "0": whole(0), "-1": whole(-1), "10": whole(10), "9007199254740991": whole(1<<53 - 1), "-9007199254740991": whole(-(1<<53 - 1)),
		"[]": list(), "{}": object(""), `""`: text(""), `"ab"`: text("ab"), "[[],{}]": list(list(), object("")), "[null,true,1]": list(null(), truth(1), whole(1)),
		`{"a":[1,true,null]}`: object("a", list(whole(1), truth(1), null())),
		`{"b":1,"a":{"c":2}}`: object("b a", whole(1), object("c", whole(2))),
		`{"":""}`:             {Kind: api.JsonObject, Names: []string{""}, List: []api.Json{text("")}},
		`{"\n\"":"a b"}`:      {Kind: api.JsonObject, Names: []string{"\n\""}, List: []api.Json{text("a b")}},
		strings.Repeat("[", 32) + strings.Repeat("]", 32):           nested(list(), 31),
		strings.Repeat(`{"a":`, 31) + "7" + strings.Repeat("}", 31): nestedNamed(whole(7), 31),
	} {
		if s, e := Print(j); s != want || e != api.OK {
			t.Errorf("Print(%v) = %q, %d, want %q", j, s, e, want)
		}
	}
}

func TestPrintTexts(t *testing.T) { // 3.2
	for s, want := range map[string]string{
		"\"\\\b\f\n\r\t": `\"\\\b\f\n\r\t`,
		"\x00\x01\x07\x0b\x0e\x0f\x10\x19\x1a\x1b\x1c\x1d\x1e\x1f": `\u0000\u0001\u0007\u000b\u000e\u000f\u0010\u0019\u001a\u001b\u001c\u001d\u001e\u001f`,
		"/ '<>&\x7f": "/ '<>&\x7f", "\u0080\u00fc\u20ac\u2028\u2029\ufeff\ufffd\uffff": "\u0080\u00fc\u20ac\u2028\u2029\ufeff\ufffd\uffff", "\U0001f600\U0010ffff": "\U0001f600\U0010ffff", `\u0041`: `\\u0041`, `\/`: `\\/`, "a\nb": `a\nb`,
	} {
		if got, e := Print(text(s)); got != `"`+want+`"` || e != api.OK {
			t.Errorf("Print of %q = %s, %d, want %s", s, got, e, want)
		}
		named := api.Json{Kind: api.JsonObject, Names: []string{s}, List: []api.Json{null()}}
		if got, e := Print(named); got != `{"`+want+`":null}` || e != api.OK {
			t.Errorf("Print of the name %q = %s, %d", s, got, e)
		}
	}
}

func TestPrintRefuses(t *testing.T) { // 3.2, R2: Check's error
	for _, j := range append(bad(), nested(null(), 32), nestedNamed(null(), 32), list(null(), nested(null(), 31)), nested(list(), 32)) {
		if s, e := Print(j); s != "" || e == api.OK || e != Check(j) {
			t.Errorf("Print(%v) = %q, %d", j, s, e)
		}
	}
}

func TestPrintedIsReadAsItWas(t *testing.T) { // 3.4
	for _, j := range good() {
		s, e := Print(j)
		if e != api.OK {
			t.Errorf("Print(%v): %d", j, e)
		}
		reads(t, s, j)
	}
}

// drawer draws values.
type drawer struct {
	*rand.Rand
}

// text draws a text that is runes.
func (d drawer) text() string {
	var l []rune
	for range d.IntN(6) {
		l = append(l, [...]rune{rune(d.IntN(32)), rune(32 + d.IntN(96)), '"', '\\', '/', rune(0x80 + d.IntN(0x700)), rune(0xe000 + d.IntN(0x2000)), rune(0x10000 + d.IntN(0x100000))}[d.IntN(8)])
	}
	return string(l)
}

// value draws a value that may be, not as deep as most.
func (d drawer) value(most int) api.Json {
	kind := 1 + d.IntN(6)
	if most < 2 && kind > 4 {
		kind -= 2
	}
	j := api.Json{Kind: kind}
	switch kind {
	case api.JsonBool:
		j.N = d.IntN(2)
	case api.JsonInt:
		j.N = (d.IntN(1<<54-1) - (1<<53 - 1)) >> d.IntN(54)
	case api.JsonText:
		j.Text = d.text()
	case api.JsonList, api.JsonObject:
		for range d.IntN(5) {
			if name := d.text(); kind == api.JsonList {
				j.List = append(j.List, d.value(most-1))
			} else if !slices.Contains(j.Names, name) {
				j.Names = append(j.Names, name)
				j.List = append(j.List, d.value(most-1))
			}
		}
	}
	return j
}

func TestDrawnAreReadAsTheyWere(t *testing.T) { // 3.4
	for seed := range uint64(5000) {
		d := drawer{rand.New(rand.NewPCG(seed, 1))}
		j := d.value(32)
		s, e := Print(j)
		if Check(j) != api.OK || e != api.OK {
			t.Fatalf("Print(%v): %d", j, e)
		}
		reads(t, s, j)
		if again, _ := Print(j); again != s { // R5
			t.Fatalf("%q, and again: %q", s, again)
		}
	}
}
