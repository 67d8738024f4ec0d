package http

import (
	"strings"
	"testing"
	"unsafe"

	"lodestar/api"
)

// reads wants that s is read as this request.
func reads(t *testing.T, s string, want api.Request) {
	t.Helper()
	if r, e := Parse(s); r != want || e != api.OK {
		t.Errorf("Parse(%.99q) = %.99q, %d, want %.99q", s, r, e, want)
	}
}

// fails wants this error of s, and no request.
func fails(t *testing.T, s string, want api.Errno) {
	t.Helper()
	if r, e := Parse(s); r != (api.Request{}) || e != want {
		t.Errorf("Parse(%.99q) = %.99q, %d, want %d", s, r, e, want)
	}
}

// head is the head of these lines.
func head(lines ...string) string {
	return strings.Join(lines, "\r\n") + "\r\n\r\n"
}

// get is the head of GET / with these lines behind the first one.
func get(lines ...string) string {
	return head(append([]string{"GET / HTTP/1.1"}, lines...)...)
}

// gotten is what get's heads are read as.
var gotten = api.Request{Method: "GET", Path: "/"}

// bytes is each byte, as a text.
func bytes() []string {
	var l []string
	for b := range 256 {
		l = append(l, string([]byte{byte(b)}))
	}
	return l
}

// judged wants that s is read as this request where good, and ErrHttp where not.
func judged(t *testing.T, s string, good bool, r api.Request) {
	t.Helper()
	if good {
		reads(t, s, r)
	} else {
		fails(t, s, api.ErrHttp)
	}
}

func TestParseReads(t *testing.T) { // 4.1
	for s, r := range map[string]api.Request{
		head("GET /points/1 HTTP/1.1"):                                                  {Method: "GET", Path: "/points/1"},
		head("POST /q HTTP/1.1", "content-LENGTH: 2") + "{}":                            {Method: "POST", Path: "/q", Body: "{}"},
		head("DELETE /points/7 HTTP/1.1", "Host: there", "Accept: */*"):                 {Method: "DELETE", Path: "/points/7"},
		head("POST /points HTTP/1.1", "Host: a:80", "Content-Length: 3", "B:") + "a\nb": {Method: "POST", Path: "/points", Body: "a\nb"},
		head("X /a?b=c#d HTTP/1.1", "Content-Length: 0"):                                {Method: "X", Path: "/a?b=c#d"},
		head("HTTP / HTTP/1.1"):                                                         {Method: "HTTP", Path: "/"},
		head("GET /HTTP/1.1 HTTP/1.1"):                                                  {Method: "GET", Path: "/HTTP/1.1"},
		head("GET //../% HTTP/1.1"):                                                     {Method: "GET", Path: "//../%"},
	} {
		reads(t, s, r)
	}
}

func TestParseMethods(t *testing.T) { // 4.1: 1 to 16 letters A to Z
	for _, method := range []string{"A", "Z", "AZ", "PATCH", "ABCDEFGHIJKLMNO", "ABCDEFGHIJKLMNOP", strings.Repeat("Z", 16)} {
		reads(t, head(method+" /a HTTP/1.1"), api.Request{Method: method, Path: "/a"})
	}
	for _, method := range []string{"", "ABCDEFGHIJKLMNOPQ", strings.Repeat("A", 17), strings.Repeat("A", 300), "get", "Get", "GEt", "gET", "\u00c4", "\uff21", "G-T", "G1"} {
		fails(t, head(method+" /a HTTP/1.1"), api.ErrHttp)
	}
	for _, b := range bytes() {
		good := "A" <= b && b <= "Z"
		for _, method := range []string{b, b + "A", "A" + b, "A" + b + "A"} {
			judged(t, head(method+" /a HTTP/1.1"), good, api.Request{Method: method, Path: "/a"})
		}
	}
}

func TestParsePaths(t *testing.T) { // 4.1: / and any bytes 33 to 126
	for _, path := range []string{"/", "//", "/a", "/points/007", "/!~", "/" + strings.Repeat("a", 3000)} {
		reads(t, head("GET "+path+" HTTP/1.1"), api.Request{Method: "GET", Path: path})
	}
	for _, path := range []string{"", "x", "a/", "*", "http://a/", "\\", "!/", "/\u00e9", "/\uff01"} {
		fails(t, head("GET "+path+" HTTP/1.1"), api.ErrHttp)
	}
	for _, b := range bytes() {
		good := "!" <= b && b <= "~"
		for _, path := range []string{"/" + b, "/" + b + "a", "/a" + b, "/a" + b + "a"} {
			judged(t, head("GET "+path+" HTTP/1.1"), good, api.Request{Method: "GET", Path: path})
		}
		judged(t, head("GET "+b+" HTTP/1.1"), b == "/", api.Request{Method: "GET", Path: b})
		judged(t, head("GET "+b+"a HTTP/1.1"), b == "/", api.Request{Method: "GET", Path: b + "a"})
	}
}

func TestParseFirstLines(t *testing.T) { // 4.1: a method, a blank, a path, a blank and HTTP/1.1
	for _, line := range []string{
		"", " ", "  ", "GET", "GET ", "GET /", "GET / ", "GET HTTP/1.1", "/ HTTP/1.1", " / HTTP/1.1", "GET/ HTTP/1.1", "GET /HTTP/1.1",
		"GET  / HTTP/1.1", "GET /  HTTP/1.1", " GET / HTTP/1.1", "GET / HTTP/1.1 ", "GET\t/ HTTP/1.1", "GET /\tHTTP/1.1", "GET / HTTP/1.1\t", "GET / a HTTP/1.1", "GET / HTTP/1.1 a", "GET / / HTTP/1.1",
		"GET / HTTP/1.0", "GET / HTTP/1.2", "GET / HTTP/2", "GET / HTTP/1.11", "GET / HTTP/1", "GET / HTTP/1.", "GET / http/1.1", "GET / Http/1.1", "GET / HTTP/01.1", "GET / HTTP 1.1", "GET / 1.1", "GET / ",
		"get / HTTP/1.1", "GET x HTTP/1.1", "GET / HTTP/1.1\r", "GET / HTTP/1.1\n", "\nGET / HTTP/1.1", "\rGET / HTTP/1.1", "GET / HTTP/1.1\x00", "\ufeffGET / HTTP/1.1", "Host: a", "Content-Length: 0",
	} {
		fails(t, head(line), api.ErrHttp)
		fails(t, head(line, "Host: a"), api.ErrHttp)
		fails(t, head(line, "GET / HTTP/1.1"), api.ErrHttp)
		fails(t, head(line, "Content-Length: 2")+"{}", api.ErrHttp)
	}
	// It is the first one and no other.
	fails(t, get("GET / HTTP/1.1"), api.ErrHttp)
	fails(t, head("Host: a", "GET / HTTP/1.1"), api.ErrHttp)
}

func TestParseEndsOfHeads(t *testing.T) { // 4.1: up to the first ||
	for _, s := range []string{
		"", "\r", "\n", "\r\n", "\r\n\r", "\r\n\r\n", "\r\n\r\n\r\n", "\n\n", "\r\r", "G", "GET / HTTP/1.1", "GET / HTTP/1.1\r", "GET / HTTP/1.1\r\n", "GET / HTTP/1.1\r\n\r", "GET / HTTP/1.1\n\n", "GET / HTTP/1.1\n\r\n", "GET / HTTP/1.1\r\n\n", "GET / HTTP/1.1\r\r",
		"GET / HTTP/1.1\r\nHost: a", "GET / HTTP/1.1\r\nHost: a\r\n", "GET / HTTP/1.1\r\nHost: a\r\n\n", "GET / HTTP/1.1\r\r\n\r\n", "GET / HTTP/1.1\n\r\n\r\n", "GET / HTTP/1.1\r\n\n\r\n\r\n", "GET / HTTP/1.1\r\n\r\r\n\r\n",
		"\r\n" + get(), "\r\n\r\n" + get(), " " + get(), get() + "\r\n", get() + "\r\n\r\n", get() + get(), get() + "Host: a\r\n\r\n",
		get() + "Content-Length: 0\r\n\r\n",
	} {
		fails(t, s, api.ErrHttp)
	}
	// What stands behind the first || is no line, whatever it is.
	for _, body := range []string{"\r\n\r\n", "\r\n", "a\r\n\r\nb", "Host: a\r\n\r\n", "Transfer-Encoding: a\r\n\r\n", "Content-Length: 9\r\n\r\n", "no line\r\n\r\n"} {
		reads(t, get("Content-Length: "+decimal(len(body)))+body, api.Request{Method: "GET", Path: "/", Body: body})
	}
}

func TestParseNames(t *testing.T) { // 4.1: letters, digits, -, one at least
	for _, name := range []string{"a", "Z", "0", "-", "--", "9-a", "Host", "X-Y-Z", "aA0-zZ9", strings.Repeat("n", 3000)} {
		reads(t, get(name+": b"), gotten)
	}
	for _, name := range []string{"", " ", "a b", " a", "a ", "\ta", "a\t", "a_b", "a.b", "a/b", "\u00e9", "a\r", "\na", "\uff41", "\u212a"} {
		fails(t, get(name+": b"), api.ErrHttp)
		fails(t, get("Host: a", name+":", "Accept: a"), api.ErrHttp)
	}
	for _, b := range bytes() {
		good := "a" <= b && b <= "z" || "A" <= b && b <= "Z" || "0" <= b && b <= "9" || b == "-"
		for _, name := range []string{b + "a", "a" + b + "a", "a" + b} {
			if !strings.Contains(name[1:], ":") { // behind a name's first byte : ends it
				judged(t, get(name+": b"), good, gotten)
			}
		}
		judged(t, get(b+":"), good, gotten)
	}
}

func TestParseValues(t *testing.T) { // 4.1: any bytes but 10, 13 and 0
	for _, value := range []string{"", " ", "\t", " b", "b ", "b b", ":", ":::", "b:c", "\"b\"", "\x01\x7f", "\u00e9\u20ac", "\xff\xfe\x80"} {
		reads(t, get("a:"+value), gotten)
		reads(t, get("Host: a", "a:"+value, "c: d"), gotten)
	}
	for _, b := range bytes() {
		good := b != "\n" && b != "\r" && b != "\x00"
		for _, value := range []string{b, b + "b", "b" + b, "b" + b + "b", " " + b + " ", "a long value with " + b + " within it"} {
			judged(t, get("a:"+value), good, gotten)
			judged(t, get("a:"+value, "c: d"), good, gotten)
		}
	}
}

func TestParseLinesThatAreNone(t *testing.T) { // 4.1: a name, a colon, a value
	for _, line := range []string{"a", "Host", "Host a", "Host; a", ":", ": a", ":a", " :", "Host : a", " Host: a", "\tHost: a", " folded", "Content-Length", "Content-Length 0", "Content-Length=0", "Content-Length : 0", " Content-Length: 0", "Transfer-Encoding", "\x00", "a\x00: b", "a\uff1a b"} {
		fails(t, get(line), api.ErrHttp)
		fails(t, get("Host: a", line), api.ErrHttp)
		fails(t, get(line, "Host: a"), api.ErrHttp)
		fails(t, get("Host: a", "Content-Length: 2", line)+"{}", api.ErrHttp)
	}
}

func TestParseLengths(t *testing.T) { // 4.1: digits, blanks at both ends are no part of the value
	for _, n := range []int{0, 1, 2, 9, 10, 11, 99, 100, 4096, 5000, 99999, 100000, 1<<18 - 1, 1 << 18} {
		body := strings.Repeat("b", n)
		want := api.Request{Method: "GET", Path: "/", Body: body}
		for _, line := range []string{"Content-Length: %", "Content-Length:%", "content-length: %", "CONTENT-LENGTH: %", "cOnTeNt-LeNgTh: %", "Content-Length:   %", "Content-Length:%  ", "Content-Length:\t%", "Content-Length: %\t", "Content-Length: \t \t% \t \t"} {
			line = strings.ReplaceAll(line, "%", decimal(n))
			reads(t, get(line)+body, want)
			reads(t, get("Host: a", line, "Accept: b")+body, want)
			fails(t, get(line)+body+"b", api.ErrHttp)
			if n > 0 {
				fails(t, get(line)+body[1:], api.ErrHttp)
				fails(t, get(line), api.ErrHttp)
			}
		}
	}
}

// decimal is n in digits.
func decimal(n int) string {
	if n < 10 {
		return string(rune('0' + n))
	}
	return decimal(n/10) + decimal(n%10)
}

func TestParseLengthsThatAreNone(t *testing.T) { // 4.1: digits, one at least and no nought ahead of others
	for _, value := range []string{
		"", " ", "\t ", "00", "000", "01", "02", "0262145", "00000000000000000002", "+2", "-2", "-0", "+0", "2 2", "2\t2", "2,2", "2;", "2.0", "2e0", "0x2", "0b1", "0_2", "2_0", "1_0", "a", "2a", "a2", "\"2\"", "2:", ":2", "\uff12", "\u0662", "2\xa0", "\xa02", "\u00a02", "2\u00a0", "\v2", "2\v", "\f2", "2\f", "2\x01", "two", "inf", "-262145", "99999999999999999999x",
	} {
		for _, body := range []string{"", "{}", strings.Repeat("b", 20)} {
			fails(t, get("Content-Length:"+value)+body, api.ErrHttp)
			fails(t, get("content-length: "+value+" ", "Host: a")+body, api.ErrHttp)
		}
	}
}

func TestParseLengthsThatAreLarge(t *testing.T) { // 4.1: above 2^18, of however many digits
	for _, value := range []string{
		"262145", "262146", "300000", "999999", "1000000", "2147483647", "2147483648", "4294967295", "4294967296", "4294967298", "9223372036854775807", "9223372036854775808", "9223372036854775810", "18446744073709551615", "18446744073709551616", "18446744073709551618", "36893488147419103234", "1" + strings.Repeat("0", 3000), strings.Repeat("9", 4000),
	} {
		fails(t, get("Content-Length: "+value), api.ErrLarge)
		fails(t, get("Content-Length: "+value)+"{}", api.ErrLarge)
		fails(t, get("content-length:\t"+value+" ", "Host: a"), api.ErrLarge)
	}
	fails(t, get("Content-Length: 262145")+strings.Repeat("b", 262145), api.ErrLarge)
	fails(t, get("Content-Length: 262144")+strings.Repeat("b", 262145), api.ErrHttp)
	fails(t, get()+strings.Repeat("b", 262145), api.ErrHttp)
}

func TestParseLengthTwice(t *testing.T) { // 4.1: ErrHttp, if one stood ahead
	for _, x := range []struct {
		first, second string
		want          api.Errno
	}{
		{"0", "0", api.ErrHttp}, {"2", "2", api.ErrHttp}, {"0", "2", api.ErrHttp}, {"2", "0", api.ErrHttp}, {"2", "x", api.ErrHttp}, {"2", "", api.ErrHttp}, {"2", "02", api.ErrHttp},
		// It is ErrHttp ahead of ErrLarge of one line, but the line ahead counts first.
		{"2", "262145", api.ErrHttp}, {"0", "99999999999999999999", api.ErrHttp}, {"x", "262145", api.ErrHttp}, {"262145", "2", api.ErrLarge}, {"262145", "262145", api.ErrLarge}, {"262145", "x", api.ErrLarge},
	} {
		for _, body := range []string{"", "{}"} {
			fails(t, get("Content-Length: "+x.first, "Content-Length: "+x.second)+body, x.want)
			fails(t, get("content-length: "+x.first, "Host: a", "CONTENT-LENGTH: "+x.second)+body, x.want)
		}
	}
}

func TestParseEncodings(t *testing.T) { // 4.1: ErrHttp, of whatever value
	for _, name := range []string{"transfer-encoding", "Transfer-Encoding", "TRANSFER-ENCODING", "tRANSFER-eNCODING"} {
		for _, value := range []string{"", " ", " chunked", "identity", "0", " gzip, chunked"} {
			line := name + ":" + value
			fails(t, get(line), api.ErrHttp)
			fails(t, get("Host: a", line, "Accept: b"), api.ErrHttp)
			fails(t, get(line, "Content-Length: 2")+"{}", api.ErrHttp)
			fails(t, get("Content-Length: 2", line)+"{}", api.ErrHttp)
			fails(t, get(line)+"2\r\n{}\r\n0\r\n\r\n", api.ErrHttp)
		}
	}
}

func TestParseOtherNames(t *testing.T) { // 4.4: they play no part, also twice
	for _, name := range []string{"Content-Lengt", "ontent-Length", "Content-Lengths", "X-Content-Length", "Content-Length-", "-Content-Length", "ContentLength", "Content--Length", "Length", "Transfer-Encodin", "Transfer-Encodings", "X-Transfer-Encoding", "TransferEncoding", "Encoding", "Host", "Connection", "Content-Type", "Expect", "Content-Encoding", "TE", "Trailer"} {
		for _, value := range []string{"", " 0", " 2", " 02", " 262145", " chunked", " Content-Length: 2", " Transfer-Encoding: chunked"} {
			for _, n := range []string{name, strings.ToLower(name), strings.ToUpper(name)} {
				reads(t, get(n+":"+value), gotten)
				reads(t, get(n+":"+value, "Content-Length: 2", n+":"+value)+"{}", api.Request{Method: "GET", Path: "/", Body: "{}"})
			}
		}
	}
}

func TestParseOrder(t *testing.T) { // 4.1: of the lines in order, behind them the body
	const large, wrong, none, encoding = "Content-Length: 262145", "Content-Length: x", "no line", "Transfer-Encoding: a"
	for _, x := range []struct {
		s    string
		want api.Errno
	}{
		{head("GET / HTTP/1.0", large), api.ErrHttp}, {head(large, "GET / HTTP/1.1"), api.ErrHttp}, {head("", large), api.ErrHttp},
		{get(large, none), api.ErrLarge}, {get(none, large), api.ErrHttp},
		{get(large, encoding), api.ErrLarge}, {get(encoding, large), api.ErrHttp},
		{get(large, wrong), api.ErrLarge}, {get(wrong, large), api.ErrHttp},
		{get("Host: a", large, "Host: b", none), api.ErrLarge}, {get("Host: a", none, "Host: b", large), api.ErrHttp},
		{get("Content-Length: 262145\x00"), api.ErrHttp}, {get("Content-Length: 262145\r"), api.ErrHttp}, {get("Content-Length : 262145"), api.ErrHttp},
		{get(large) + "b", api.ErrLarge}, {get(large + "\r\nno line"), api.ErrLarge},
		{get("Content-Length: 1", large) + "bb", api.ErrHttp},
		// Without an end no line is seen.
		{"GET / HTTP/1.1\r\n" + large, api.ErrHttp}, {"GET / HTTP/1.1\r\n" + large + "\r\n", api.ErrHttp},
	} {
		fails(t, x.s, x.want)
	}
}

// sized is a head of so many bytes, with a line of the value given.
func sized(size int, first string) string {
	return head(first, "X:"+strings.Repeat("x", size-len(head(first, "X:"))))
}

func TestParseHeadSizes(t *testing.T) { // 4.1: MaxHead with the ||, ahead of all else
	for _, size := range []int{100, 4000, 4093, 4094, 4095, 4096} {
		reads(t, sized(size, "GET / HTTP/1.1"), gotten)
		reads(t, sized(size, "GET / HTTP/1.1\r\nContent-Length: 9000")+strings.Repeat("b", 9000), api.Request{Method: "GET", Path: "/", Body: strings.Repeat("b", 9000)})
		fails(t, sized(size, "GET / HTTP/1.1")+"b", api.ErrHttp)
		fails(t, sized(size, "GET / HTTP/1.1")+strings.Repeat("b", 5000), api.ErrHttp)
		fails(t, sized(size, "GET / HTTP/1.0"), api.ErrHttp)
		fails(t, sized(size, "GET / HTTP/1.1")[:size-1], api.ErrHttp)
	}
	for _, size := range []int{4097, 4098, 4099, 4100, 4101, 9000} {
		for _, first := range []string{"GET / HTTP/1.1", "GET / HTTP/1.0", "", "GET / HTTP/1.1\r\nno line", "GET / HTTP/1.1\r\nContent-Length: 1", "GET / HTTP/1.1\r\nTransfer-Encoding: a"} {
			fails(t, sized(size, first), api.ErrLarge)
			fails(t, sized(size, first)+"b", api.ErrLarge)
		}
	}
}

func TestParseWithoutEnd(t *testing.T) { // 4.1: ErrLarge of more than MaxHead bytes, else ErrHttp
	for _, part := range []string{"\x00", "a", "\r", "\n", "\r\n\n", "\xff", "GET / HTTP/1.1\r\n", " "} {
		s := strings.Repeat(part, 1+5000/len(part))
		for _, size := range []int{0, 1, 2, 3, 100, 4092, 4095, 4096} {
			fails(t, s[:size], api.ErrHttp)
		}
		for _, size := range []int{4097, 4098, 4100, 5000} {
			fails(t, s[:size], api.ErrLarge)
		}
	}
	// Of a head that is cut, too.
	for behind := range 4 {
		fails(t, sized(4097+behind, "GET / HTTP/1.1")[:4096], api.ErrHttp)
		fails(t, sized(4098+behind, "GET / HTTP/1.1")[:4097], api.ErrLarge)
	}
}

func TestParseBodies(t *testing.T) { // 4.1: any bytes
	for _, b := range append(bytes(), "\r\n", "\u20ac", "\xff\x00\xfe", `{"points":[]}`, strings.Repeat("\x00", 1000), strings.Join(bytes(), "")) {
		reads(t, get("Content-Length: "+decimal(len(b)))+b, api.Request{Method: "GET", Path: "/", Body: b})
		fails(t, get()+b, api.ErrHttp)
		fails(t, get("Content-Length: 0")+b, api.ErrHttp)
	}
}

func TestParseAnswersNewMemory(t *testing.T) { // R4
	s := head("POST /points HTTP/1.1", "Content-Length: 4") + "body"
	r, _ := Parse(s)
	first := uintptr(unsafe.Pointer(unsafe.StringData(s)))
	for _, part := range []string{r.Method, r.Path, r.Body} {
		at := uintptr(unsafe.Pointer(unsafe.StringData(part)))
		if part == "" || at >= first && at < first+uintptr(len(s)) {
			t.Errorf("%q shares memory with what was handed in", part)
		}
	}
}

func TestParseAgain(t *testing.T) { // R5
	for _, s := range []string{get(), get("Content-Length: 2") + "{}", get("Content-Length: 262145"), "x"} {
		r, e := Parse(s)
		Parse(get("Content-Length: 7") + "another")
		if again, f := Parse(s); again != r || f != e {
			t.Errorf("Parse(%q) = %q, %d, ahead it was %q, %d", s, again, f, r, e)
		}
	}
}
