package json

import (
	"strconv"
	"strings"
	"unicode/utf8"

	"lodestar/api"
)

// hexDigits are the digits of an escape.
const hexDigits = "0123456789abcdef"

// Print answers j without blanks; Check's error, if it may not be.
func Print(j api.Json) (string, api.Errno) {
	if e := Check(j); e != api.OK {
		return "", e
	}
	return string(appendValue(nil, j)), api.OK
}

// appendValue lays j behind out.
func appendValue(out []byte, j api.Json) []byte {
	switch j.Kind {
	case api.JsonBool:
		return strconv.AppendBool(out, j.N == 1)
	case api.JsonInt:
		return strconv.AppendInt(out, int64(j.N), 10)
	case api.JsonText:
		return appendText(out, j.Text)
	case api.JsonList:
		return appendParts(out, "[]", j)
	case api.JsonObject:
		return appendParts(out, "{}", j)
	}
	return append(out, "null"...)
}

// appendParts lays the brackets behind out, and between them what j has, with its names, if it has any.
func appendParts(out []byte, brackets string, j api.Json) []byte {
	out = append(out, brackets[0])
	for i, part := range j.List {
		if i > 0 {
			out = append(out, ',')
		}
		if len(j.Names) > 0 {
			out = append(appendText(out, j.Names[i]), ':')
		}
		out = appendValue(out, part)
	}
	return append(out, brackets[1])
}

// appendText lays s in quotes behind out.
func appendText(out []byte, s string) []byte {
	out = append(out, '"')
	for _, c := range s {
		if i := strings.IndexRune(meant[:printed], c); i >= 0 {
			out = append(out, '\\', letters[i])
		} else if c < ' ' {
			out = append(out, '\\', 'u', '0', '0', hexDigits[c>>4], hexDigits[c&15])
		} else {
			out = utf8.AppendRune(out, c)
		}
	}
	return append(out, '"')
}
