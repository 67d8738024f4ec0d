package http

import (
	"bufio"
	"io"
	"math"
	library "net/http"
	"strings"
	"testing"

	"lodestar/api"
)

// The face of the chapter: each call with its exact signature.
var (
	_ func(string) (api.Request, api.Errno) = Parse
	_ func(api.Request) (string, api.Errno) = Write
	_ func(api.Response) string             = Print
	_ func(int) string                      = Reason
)

// writes wants that r is told as s, and that s is read as r (4.4).
func writes(t *testing.T, r api.Request, s string) {
	t.Helper()
	if got, e := Write(r); got != s || e != api.OK {
		t.Errorf("Write(%.99q) = %.99q, %d, want %.99q", r, got, e, s)
	}
	reads(t, s, r)
}

// refuses wants this error of r, and no text.
func refuses(t *testing.T, r api.Request, want api.Errno) {
	t.Helper()
	if s, e := Write(r); s != "" || e != want {
		t.Errorf("Write(%.99q) = %.99q, %d, want %d", r, s, e, want)
	}
}

func TestWrite(t *testing.T) { // 4.2
	for s, r := range map[string]api.Request{
		"GET / HTTP/1.1\r\nContent-Length: 0\r\n\r\n":                                             {Method: "GET", Path: "/"},
		"GET /points/1 HTTP/1.1\r\nContent-Length: 0\r\n\r\n":                                     {Method: "GET", Path: "/points/1"},
		"POST /q HTTP/1.1\r\nContent-Length: 2\r\n\r\n{}":                                         {Method: "POST", Path: "/q", Body: "{}"},
		"A /!~ HTTP/1.1\r\nContent-Length: 12\r\n\r\n\r\n\r\n\x00\xff\u20ac\n\n\n":                {Method: "A", Path: "/!~", Body: "\r\n\r\n\x00\xff\u20ac\n\n\n"},
		"ABCDEFGHIJKLMNOP // HTTP/1.1\r\nContent-Length: 10\r\n\r\n0123456789":                    {Method: "ABCDEFGHIJKLMNOP", Path: "//", Body: "0123456789"},
		"POST /points HTTP/1.1\r\nContent-Length: 13\r\n\r\n{\"points\":[]}":                      {Method: "POST", Path: "/points", Body: `{"points":[]}`},
		"DELETE /points/4503599627370496 HTTP/1.1\r\nContent-Length: 0\r\n\r\n":                   {Method: "DELETE", Path: "/points/4503599627370496"},
		"X / HTTP/1.1\r\nContent-Length: 39\r\n\r\nX / HTTP/1.1\r\nContent-Length: 39\r\n\r\nX /": {Method: "X", Path: "/", Body: "X / HTTP/1.1\r\nContent-Length: 39\r\n\r\nX /"},
	} {
		writes(t, r, s)
	}
}

func TestWriteRefuses(t *testing.T) { // 4.2: no method, or no path
	for _, method := range []string{"", " ", "get", "Get", "GET ", " GET", "G T", "ABCDEFGHIJKLMNOPQ", strings.Repeat("A", 5000), "GET\r\n", "G\x00", "\u00c4", "1", "-"} {
		refuses(t, api.Request{Method: method, Path: "/"}, api.ErrHttp)
	}
	for _, path := range []string{"", "a", "a/", " /", "/ ", "/a b", "/\r\n", "/a\r\n\r\n", "/\t", "/\x00", "/\x7f", "/\u00e9", "*"} {
		refuses(t, api.Request{Method: "GET", Path: path, Body: "b"}, api.ErrHttp)
	}
	for _, b := range bytes() {
		if b < "A" || b > "Z" {
			refuses(t, api.Request{Method: b, Path: "/"}, api.ErrHttp)
			refuses(t, api.Request{Method: "A" + b + "A", Path: "/"}, api.ErrHttp)
		} else {
			writes(t, api.Request{Method: b, Path: "/"}, head(b+" / HTTP/1.1", "Content-Length: 0"))
		}
		if b < "!" || b > "~" {
			refuses(t, api.Request{Method: "GET", Path: "/" + b}, api.ErrHttp)
			refuses(t, api.Request{Method: "GET", Path: "/a" + b + "a"}, api.ErrHttp)
		} else {
			writes(t, api.Request{Method: "GET", Path: "/" + b}, head("GET /"+b+" HTTP/1.1", "Content-Length: 0"))
		}
		if b != "/" {
			refuses(t, api.Request{Method: "GET", Path: b}, api.ErrHttp)
			refuses(t, api.Request{Method: "GET", Path: b + "/"}, api.ErrHttp)
		}
	}
	refuses(t, api.Request{}, api.ErrHttp)
}

func TestWriteSizes(t *testing.T) { // 4.2: at MaxBody and MaxHead, and past them
	for _, n := range []int{1<<18 - 1, 1 << 18} {
		body := strings.Repeat("b", n)
		writes(t, api.Request{Method: "POST", Path: "/a", Body: body}, head("POST /a HTTP/1.1", "Content-Length: "+decimal(n))+body)
	}
	for _, n := range []int{1<<18 + 1, 1 << 20} {
		refuses(t, api.Request{Method: "POST", Path: "/a", Body: strings.Repeat("b", n)}, api.ErrLarge)
	}
	for _, body := range []string{"", "b", strings.Repeat("b", 9), strings.Repeat("b", 10), strings.Repeat("b", 1<<18)} {
		for _, method := range []string{"G", "GET", "ABCDEFGHIJKLMNOP"} {
			most := 4096 - len(head(method+"  HTTP/1.1", "Content-Length: "+decimal(len(body))))
			for _, size := range []int{most - 1, most} {
				path := "/" + strings.Repeat("a", size-1)
				writes(t, api.Request{Method: method, Path: path, Body: body}, head(method+" "+path+" HTTP/1.1", "Content-Length: "+decimal(len(body)))+body)
			}
			for _, size := range []int{most + 1, most + 2, 4096, 9000} {
				refuses(t, api.Request{Method: method, Path: "/" + strings.Repeat("a", size-1), Body: body}, api.ErrLarge)
			}
		}
	}
}

func TestWriteOrder(t *testing.T) { // 4.2: ErrHttp ahead of ErrLarge
	long := strings.Repeat("a", 9000)
	large := strings.Repeat("b", 1<<18+1)
	refuses(t, api.Request{Method: "get", Path: "/", Body: large}, api.ErrHttp)
	refuses(t, api.Request{Method: "GET", Path: "a", Body: large}, api.ErrHttp)
	refuses(t, api.Request{Method: "get", Path: "/" + long}, api.ErrHttp)
	refuses(t, api.Request{Method: "GET", Path: long}, api.ErrHttp)
	refuses(t, api.Request{Method: "GET", Path: "/" + long + " "}, api.ErrHttp)
	refuses(t, api.Request{Method: "GET", Path: "/" + long, Body: large}, api.ErrLarge)
}

func TestWriteByteMoreOrLess(t *testing.T) { // 4.4
	for _, r := range []api.Request{{Method: "GET", Path: "/"}, {Method: "POST", Path: "/q", Body: "{}"}, {Method: "POST", Path: "/q", Body: "\r\n\r\n"}, {Method: "POST", Path: "/", Body: strings.Repeat("b", 1<<18)}, {Method: "A", Path: "/" + strings.Repeat("a", 4059)}} {
		s, e := Write(r)
		if e != api.OK {
			t.Fatalf("Write(%.99q): %d", r, e)
		}
		for _, b := range bytes() {
			fails(t, s+b, api.ErrHttp)
		}
		fails(t, s[:len(s)-1], api.ErrHttp)
		fails(t, s+s, api.ErrHttp)
	}
}

func TestReason(t *testing.T) { // 4.3
	reasons := map[int]string{200: "OK", 400: "Bad Request", 404: "Not Found", 405: "Method Not Allowed", 413: "Content Too Large", 422: "Unprocessable Content", 500: "Internal Server Error", 507: "Insufficient Storage"}
	for status := -1100; status <= 1100; status++ {
		if s := Reason(status); s != reasons[status] {
			t.Errorf("Reason(%d) = %q, want %q", status, s, reasons[status])
		}
	}
	for _, status := range []int{math.MinInt, math.MaxInt, 200 + 1<<8, 200 + 1<<16, 200 + 1<<32} {
		if s := Reason(status); s != "" {
			t.Errorf("Reason(%d) = %q", status, s)
		}
	}
}

func TestPrint(t *testing.T) { // 4.3
	for _, x := range []struct {
		r     api.Response
		first string
	}{
		{api.Response{Status: 404, Body: "{}"}, "HTTP/1.1 404 Not Found"},
		{api.Response{Status: 200, Body: `{"written":1}`}, "HTTP/1.1 200 OK"},
		{api.Response{Status: 400, Body: `{"error":30}`}, "HTTP/1.1 400 Bad Request"},
		{api.Response{Status: 405, Body: `{"error":0}`}, "HTTP/1.1 405 Method Not Allowed"},
		{api.Response{Status: 413, Body: `{"error":41}`}, "HTTP/1.1 413 Content Too Large"},
		{api.Response{Status: 422, Body: `{"error":60}`}, "HTTP/1.1 422 Unprocessable Content"},
		{api.Response{Status: 500, Body: `{"error":122}`}, "HTTP/1.1 500 Internal Server Error"},
		{api.Response{Status: 507}, "HTTP/1.1 507 Insufficient Storage"},
		// Of a status that has no reason the blank ahead of it stands all the same.
		{api.Response{}, "HTTP/1.1 0 "},
		{api.Response{Status: 201, Body: "b"}, "HTTP/1.1 201 "},
		{api.Response{Status: 7, Body: "b"}, "HTTP/1.1 7 "},
		{api.Response{Status: 12345, Body: "b"}, "HTTP/1.1 12345 "},
		{api.Response{Status: -1, Body: "b"}, "HTTP/1.1 -1 "},
		{api.Response{Status: -404, Body: "b"}, "HTTP/1.1 -404 "},
		{api.Response{Status: math.MaxInt, Body: "b"}, "HTTP/1.1 9223372036854775807 "},
		{api.Response{Status: math.MinInt, Body: "b"}, "HTTP/1.1 -9223372036854775808 "},
		// Nothing is asked of a body.
		{api.Response{Status: 200, Body: "\r\n\r\n\x00\xff\u20ac"}, "HTTP/1.1 200 OK"},
		{api.Response{Status: 200, Body: strings.Repeat("b", 10)}, "HTTP/1.1 200 OK"},
		{api.Response{Status: 200, Body: strings.Repeat("b", 1<<18+1)}, "HTTP/1.1 200 OK"},
		{api.Response{Status: 200, Body: strings.Repeat("b", 1<<22)}, "HTTP/1.1 200 OK"},
	} {
		want := x.first + "\r\nContent-Type: application/json\r\nContent-Length: " + decimal(len(x.r.Body)) + "\r\n\r\n" + x.r.Body
		if s := Print(x.r); s != want {
			t.Errorf("Print(%d, %.99q) = %.99q, want %.99q", x.r.Status, x.r.Body, s, want)
		}
	}
}

func TestPrintIsHttp(t *testing.T) { // 4.3: another reader of HTTP/1.1 reads what is printed
	for _, status := range []int{200, 201, 400, 404, 405, 413, 422, 500, 507} {
		for _, body := range []string{"", "{}", "\r\n\r\n", strings.Repeat("b", 5000)} {
			from := bufio.NewReader(strings.NewReader(Print(api.Response{Status: status, Body: body})))
			r, err := library.ReadResponse(from, nil)
			if err != nil {
				t.Fatalf("%d: %v", status, err)
			}
			got, err := io.ReadAll(r.Body)
			_, more := from.ReadByte()
			if err != nil || string(got) != body || more != io.EOF || r.StatusCode != status || r.Status != decimal(status)+" "+Reason(status) || len(r.Header) != 2 || r.Header.Get("Content-Type") != "application/json" {
				t.Errorf("%d, %.99q: %.99q, %v, %v", status, body, got, err, r)
			}
		}
	}
}

func TestWriteIsHttp(t *testing.T) { // 4.2: another reader of HTTP/1.1 reads what is written
	for _, r := range []api.Request{{Method: "GET", Path: "/"}, {Method: "DELETE", Path: "/points/1"}, {Method: "POST", Path: "/query", Body: "{}"}, {Method: "POST", Path: "/points", Body: strings.Repeat("b", 5000)}} {
		s, _ := Write(r)
		from := bufio.NewReader(strings.NewReader(s))
		got, err := library.ReadRequest(from)
		if err != nil {
			t.Fatalf("%.99q: %v", s, err)
		}
		body, err := io.ReadAll(got.Body)
		_, more := from.ReadByte()
		if err != nil || more != io.EOF || got.Method != r.Method || got.RequestURI != r.Path || string(body) != r.Body {
			t.Errorf("%.99q: %v, %v", s, got, err)
		}
	}
}
