package manifest

import (
	"slices"
	"strconv"
	"strings"

	"lodestar/api"
	"lodestar/num"
)

// maxSegments is how many segments a manifest has at most.
const maxSegments = 1024

// maxLines is how many lines a manifest has at most: four ahead of its segments' ones, and the sum's behind.
const maxLines = maxSegments + 5

// Encode answers the bytes of m; ErrManifest, if it may not be.
func Encode(m api.Manifest) (string, api.Errno) {
	if !mayBe(m) {
		return "", api.ErrManifest
	}
	lines := []string{
		line("lodestar", "1"),
		line("next", strconv.Itoa(m.Next)),
		line("seq", strconv.Itoa(m.Seq)),
		line("log", m.Log),
	}
	for _, name := range m.Segments {
		lines = append(lines, line("segment", name))
	}
	s := strings.Join(lines, "")
	return s + line("sum", strconv.FormatUint(uint64(num.Sum(s)), 10)), api.OK
}

// Decode answers the manifest whose bytes s is; ErrManifest, if there is none.
func Decode(s string) (api.Manifest, api.Errno) {
	m := read(s)
	// What is read need not be judged: a text that is not laid as the manifest that was read is none's.
	if b, e := Encode(m); e != api.OK || b != s {
		return api.Manifest{}, api.ErrManifest
	}
	return m, api.OK
}

// read answers what stands in the lines of s, if these are a manifest's; of others something, at which s is no manifest's bytes. It takes no more room than a manifest's lines do.
func read(s string) api.Manifest {
	var m api.Manifest
	for _, part := range strings.SplitN(s, "\n", maxLines) {
		word, text, _ := strings.Cut(part, " ")
		switch word {
		case "next":
			m.Next = number(text)
		case "seq":
			m.Seq = number(text)
		case "log":
			m.Log = text
		case "segment":
			m.Segments = append(m.Segments, text)
		}
	}
	return m
}

// line answers a line of a manifest.
func line(word, text string) string {
	return word + " " + text + "\n"
}

// number answers the number whose digits text is; of other texts any.
func number(text string) int {
	n, _ := strconv.Atoi(text)
	return n
}

// mayBe tells whether m may be.
func mayBe(m api.Manifest) bool {
	if m.Next < 1 || m.Next > api.MaxId || m.Seq < 0 || m.Seq > api.MaxId || len(m.Segments) > maxSegments {
		return false
	}
	names := slices.Concat(m.Segments, []string{m.Log})
	for _, name := range names {
		if !isName(name, m.Next) {
			return false
		}
	}
	slices.Sort(names)
	return len(slices.Compact(names)) == len(names)
}

// isName tells whether s is a file's name, of which next is the number that none has yet.
func isName(s string, next int) bool {
	if s == "" || s[0] != 's' && s[0] != 'l' {
		return false
	}
	n := number(s[1:])
	// A number has other texts too: with a sign, with noughts ahead.
	return 1 <= n && n < next && strconv.Itoa(n) == s[1:]
}
