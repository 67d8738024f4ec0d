package http

import (
	"strconv"
	"strings"

	"lodestar/api"
)

// The names of lines that play a part, in small letters.
const (
	lengthName   = "content-length"
	encodingName = "transfer-encoding"
)

const (
	blanks    = " \t"      // at the ends of a value, where they say nothing
	forbidden = "\n\r\x00" // in a value
)

// Parse answers the request that s is; else ErrLarge or ErrHttp, whichever is seen first.
func Parse(s string) (api.Request, api.Errno) {
	_, body, ended := strings.Cut(s, headEnd)
	head := s[:len(s)-len(body)] // all of s, if it does not end
	if len(head) > api.MaxHead {
		return api.Request{}, api.ErrLarge
	}
	if !ended {
		return api.Request{}, api.ErrHttp
	}
	first, rest, _ := strings.Cut(head, lineEnd)
	method, path, ok := cutFirst(first)
	if !ok {
		return api.Request{}, api.ErrHttp
	}
	size, e := bodySize(rest)
	if e != api.OK {
		return api.Request{}, e
	}
	if len(body) != size {
		return api.Request{}, api.ErrHttp
	}
	// A part of s would keep the whole of it: an answer is memory of its own.
	return api.Request{Method: strings.Clone(method), Path: strings.Clone(path), Body: strings.Clone(body)}, api.OK
}

// cutFirst answers the method and the path of a head's first line, and whether it is such a line.
func cutFirst(line string) (string, string, bool) {
	method, rest, _ := strings.Cut(line, " ")
	path, last, _ := strings.Cut(rest, " ")
	return method, path, isMethod(method) && isPath(path) && last == version
}

// bodySize walks the lines behind a head's first one, the empty one that ends it among them, and answers how many bytes they say that the body has.
func bodySize(lines string) (int, api.Errno) {
	size, told := 0, false
walk:
	for {
		line, rest, _ := strings.Cut(lines, lineEnd)
		lines = rest
		name, value, ok := cutLine(line)
		switch {
		case line == "":
			break walk
		case !ok || name == encodingName || name == lengthName && told:
			return 0, api.ErrHttp
		case name == lengthName:
			n, e := lengthOf(value)
			if e != api.OK {
				return 0, e
			}
			size, told = n, true
		}
	}
	return size, api.OK
}

// cutLine answers a line's name, in small letters, and its value, and whether it is such a line.
func cutLine(line string) (string, string, bool) {
	name, value, ok := strings.Cut(line, ":")
	ok = ok && name != "" && every(name, inName) && !strings.ContainsAny(value, forbidden)
	return strings.ToLower(name), strings.Trim(value, blanks), ok
}

// lengthOf answers the number that the value of content-length is.
func lengthOf(value string) (int, api.Errno) {
	if value == "" || !every(value, isDigit) || len(value) > 1 && value[0] == '0' {
		return 0, api.ErrHttp
	}
	n, err := strconv.Atoi(value)
	// Digits that are no int are more than any limit.
	if err != nil || n > api.MaxBody {
		return 0, api.ErrLarge
	}
	return n, api.OK
}
