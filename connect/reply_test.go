package connect

import (
	"regexp"
	"strconv"
	"strings"
	"testing"

	"postilion/api"
	"postilion/head"
)

var answering = regexp.MustCompile("^HTTP/1[.][01] ([1-5][0-9][0-9])( [ -~]*)?$")

// answers fails the test unless TakeReply reads from b what the chapter says, and leaves b as it was.
func answers(t *testing.T, b string) {
	t.Helper()
	h, size, err := head.Take([]byte(b))
	want := 0
	if err == api.OK {
		parts := answering.FindStringSubmatch(h.Line)
		if parts == nil {
			size, err = 0, api.ErrForm
		} else {
			want, _ = strconv.Atoi(parts[1])
		}
	}
	given := []byte(b)
	if status, n, e := TakeReply(given); status != want || n != size || e != err {
		t.Fatalf("%q: %d %d %d, want %d %d %d", b, status, n, e, want, size, err)
	}
	if string(given) != b {
		t.Fatalf("%q became %q", b, given)
	}
}

// closed are the fields of all responses but that of CdOK.
const closed = "Content-Length: 0\r\nConnection: close\r\n"

// statuses are the statuses of the codes, and wholes the responses, without their empty lines.
var statuses = []int{200, 400, 407, 405, 400, 431, 408, 503, 508, 403, 429, 503, 502, 504}

var wholes = []string{
	"HTTP/1.1 200 Connection established\r\n",
	"HTTP/1.1 400 Bad Request\r\n" + closed,
	"HTTP/1.1 407 Proxy Authentication Required\r\nProxy-Authenticate: Basic realm=\"postilion\"\r\n" + closed,
	"HTTP/1.1 405 Method Not Allowed\r\nAllow: CONNECT\r\n" + closed,
	"HTTP/1.1 400 Bad Request\r\n" + closed,
	"HTTP/1.1 431 Request Header Fields Too Large\r\n" + closed,
	"HTTP/1.1 408 Request Timeout\r\n" + closed,
	"HTTP/1.1 503 Service Unavailable\r\n" + closed,
	"HTTP/1.1 508 Loop Detected\r\n" + closed,
	"HTTP/1.1 403 Forbidden\r\n" + closed,
	"HTTP/1.1 429 Too Many Requests\r\n" + closed,
	"HTTP/1.1 503 Service Unavailable\r\n" + closed,
	"HTTP/1.1 502 Bad Gateway\r\n" + closed,
	"HTTP/1.1 504 Gateway Timeout\r\n" + closed,
}

// meant returns the status and the response for the code.
func meant(code int) (int, string) {
	if code >= len(wholes) {
		code = int(api.CdBad)
	}
	return statuses[code], wholes[code] + "\r\n"
}

// P16.3: the status and the response for every code, those that there aren't among them.
func TestReply(t *testing.T) {
	if int(api.CdTime) != len(wholes)-1 {
		t.Fatalf("%d responses", len(wholes))
	}
	for code := range 256 {
		status, whole := meant(code)
		if s := Status(uint8(code)); s != status {
			t.Errorf("%d: %d, want %d", code, s, status)
		}
		if b := Reply(uint8(code)); string(b) != whole {
			t.Errorf("%d: %q, want %q", code, b, whole)
		}
	}
}

// P16.3: what Reply returns is the caller's own.
func TestReplyOwn(t *testing.T) {
	for code := range 256 {
		b, other := Reply(uint8(code)), Reply(uint8(code))
		_ = append(b, "more"...)
		clear(b)
		_, whole := meant(code)
		if string(other) != whole || string(Reply(uint8(code))) != whole {
			t.Errorf("%d: a change of one response reaches another one", code)
		}
	}
}

// P16.7, P16.6: the response for any code is read with its status, whatever follows it, and no prefix of it is; only that of CdOK is a success.
func TestStatuses(t *testing.T) {
	for code := range 256 {
		b := Reply(uint8(code))
		for _, tail := range []string{"", "\r\n", "more", "\x00", "HTTP/1.1 200 OK\r\n\r\n", as(600)} {
			status, n, e := TakeReply([]byte(string(b) + tail))
			if status != Status(uint8(code)) || n != len(b) || e != api.OK {
				t.Errorf("%d with %q behind it: %d %d %d", code, tail, status, n, e)
			}
			if (status >= 200 && status <= 299) != (code == int(api.CdOK)) {
				t.Errorf("%d: %d", code, status)
			}
		}
		for n := range b {
			if status, size, e := TakeReply(b[:n]); status != 0 || size != 0 || e != api.ErrMore {
				t.Errorf("%d bytes of that for %d: %d %d %d", n, code, status, size, e)
			}
		}
	}
}

// P16.4: responses of each kind, with and without bytes behind them.
func TestTakeReply(t *testing.T) {
	for _, x := range []struct {
		b    string
		want int
	}{
		{"HTTP/1.1 200 Connection established\r\n", 200}, {"HTTP/1.0 200 OK\r\n", 200}, {"HTTP/1.1 200\r\n", 200}, {"HTTP/1.0 200\r\n", 200}, {"HTTP/1.1 200 \r\n", 200}, {"HTTP/1.1 200  \r\n", 200}, {"HTTP/1.1 200  OK\r\n", 200}, {"HTTP/1.1 200 200\r\n", 200}, {"HTTP/1.1 200 HTTP/1.1 400 x\r\n", 200}, {"HTTP/1.1 200 ~:!\r\n", 200}, {"HTTP/1.1 299 OK \r\n", 299},
		{"HTTP/1.1 100 Continue\r\n", 100}, {"HTTP/1.0 100\r\n", 100}, {"HTTP/1.1 101\r\n", 101}, {"HTTP/1.1 199 x\r\n", 199}, {"HTTP/1.1 300 x\r\n", 300}, {"HTTP/1.1 407 x\r\nProxy-Authenticate: Basic\r\n", 407}, {"HTTP/1.1 598\r\n", 598}, {"HTTP/1.1 599 x\r\n", 599}, {"HTTP/1.0 599\r\n", 599}, {"HTTP/1.1 509\r\n", 509}, {"HTTP/1.1 590\r\n", 590}, {"HTTP/1.1 109\r\n", 109},
		{"HTTP/1.1 200 OK\r\nContent-Length: 5\r\nTransfer-Encoding: chunked\r\n", 200}, {"HTTP/1.1 200 OK\r\nHost: a\r\nHost: b\r\nHop-Token:\r\n", 200},
	} {
		b := x.b + "\r\n"
		for _, tail := range []string{"", "\r\n", "more", "\x00", "HTTP/1.1 400 x\r\n\r\n", as(600)} {
			if status, n, e := TakeReply([]byte(b + tail)); status != x.want || n != len(b) || e != api.OK {
				t.Errorf("%q: %d %d %d, want %d", b+tail, status, n, e, x.want)
			}
			answers(t, b+tail)
		}
	}
}

// P16.4: complete heads that are no responses, and heads that are not complete.
func TestTakeReplyWrong(t *testing.T) {
	for _, line := range []string{
		"HTTP/1.1 099 x", "HTTP/1.1 099", "HTTP/1.1 000", "HTTP/1.1 001 x", "HTTP/1.1 600 x", "HTTP/1.1 600", "HTTP/1.1 601", "HTTP/1.1 700", "HTTP/1.1 999 x", "HTTP/1.1 20 x", "HTTP/1.1 20", "HTTP/1.1 2 x", "HTTP/1.1 2000 x", "HTTP/1.1 2000", "HTTP/1.1 0200 x", "HTTP/1.1 1000", "HTTP/1.1 5999",
		"HTTP/1.1 20O x", "HTTP/1.1 2o0", "HTTP/1.1 abc x", "HTTP/1.1 x00", "HTTP/1.1 +20 x", "HTTP/1.1 -20 x", "HTTP/1.1 +200", "HTTP/1.1 -200", "HTTP/1.1 2.0", "HTTP/1.1 2_0", "HTTP/1.1 1e2", "HTTP/1.1 0x2", "HTTP/1.1 :00", "HTTP/1.1 2:0", "HTTP/1.1 20:", "HTTP/1.1 /00", "HTTP/1.1 2/0", "HTTP/1.1 20/",
		"HTTP/1.1  200", "HTTP/1.1  200 OK", "HTTP/1.1   ", "HTTP/1.1 ", "HTTP/1.1", "HTTP/1.1  20", "HTTP/1.1 2 00", "HTTP/1.1 20 0", "HTTP/1.1 200-OK", "HTTP/1.1 200OK", "HTTP/1.1 200, OK", "HTTP/1.1 200.", "HTTP/1.1 200:", "HTTP/1.1 200_ OK",
		"HTTP/2 200 OK", "HTTP/1.2 200 OK", "HTTP/0.9 200 OK", "HTTP/1.10 200 OK", "HTTP/1 200 OK", "HTTP/1,1 200 OK", "HTTP/1.1x 200 OK", "xHTTP/1.1 200 OK", " HTTP/1.1 200 OK", "http/1.1 200 OK", "Http/1.0 200 OK", "HTTPS/1.1 200 OK", "HTTP/ 200 OK", "HTTP 200 OK", "ICY 200 OK", "200 OK", "200", " 200 OK", "HTTP/1.1200 OK", "HTTP/1.1:200 OK", "HTTP/1.1-200 OK", "HTTP/11.1 200 OK", "HTTP/1.1 HTTP/1.1 200",
		"CONNECT a:80 HTTP/1.1", "x", " ", "  ", "   200",
	} {
		for _, fields := range []string{"", "Host: a\r\n", "x: y\r\nHTTP: 200\r\n"} {
			b := line + "\r\n" + fields + "\r\n"
			for _, tail := range []string{"", "\r\n", "HTTP/1.1 200 OK\r\n\r\n", "\x00"} {
				if status, n, e := TakeReply([]byte(b + tail)); status != 0 || n != 0 || e != api.ErrForm {
					t.Errorf("%q: %d %d %d", b+tail, status, n, e)
				}
				answers(t, b+tail)
			}
			answers(t, b[:len(b)-1])
		}
	}
	for b, err := range map[string]api.Errno{
		"": api.ErrMore, "H": api.ErrMore, "x": api.ErrMore, "HTTP/1.1 200 OK": api.ErrMore, "HTTP/1.1 200 OK\r\n": api.ErrMore, "HTTP/1.1 200 OK\r\n\r": api.ErrMore, "HTTP/1.1 600 x\r\n": api.ErrMore, "GET\r\n": api.ErrMore,
		"\n": api.ErrForm, "\x05": api.ErrForm, "HTTP/1.1 200 OK\n": api.ErrForm, "HTTP/1.1 200 OK\r\n\n": api.ErrForm, "HTTP/1.1 200 \xe4\r\n\r\n": api.ErrForm, "HTTP/1.1 200\tOK\r\n\r\n": api.ErrForm, "HTTP/1.1 200 OK\r\nx\r\n\r\n": api.ErrForm,
		as(512): api.ErrLong, "HTTP/1.1 200 " + as(600): api.ErrLong, "HTTP/1.1 200\r\n" + strings.Repeat("n:\r\n", 17): api.ErrLong, "HTTP/1.1 999\r\n" + as(600): api.ErrLong,
	} {
		if status, n, e := TakeReply([]byte(b)); status != 0 || n != 0 || e != err {
			t.Errorf("%q: %d %d %d, want %d", b, status, n, e, err)
		}
		answers(t, b)
	}
	if status, n, e := TakeReply(nil); status != 0 || n != 0 || e != api.ErrMore {
		t.Errorf("nil: %d %d %d", status, n, e)
	}
}

// P16.4: every status of up to four digits, in each form.
func TestTakeReplyEachStatus(t *testing.T) {
	for n := range 1100 {
		for _, digits := range []string{strconv.Itoa(n), "0" + strconv.Itoa(n), strconv.Itoa(n + 1000)[1:]} {
			for _, tail := range []string{"", " ", " x", "x", "-"} {
				for _, version := range []string{"HTTP/1.0 ", "HTTP/1.1 "} {
					b := version + digits + tail + "\r\n\r\n"
					status, size, e := TakeReply([]byte(b))
					ok := len(digits) == 3 && n >= 100 && n <= 599 && (tail == "" || tail[0] == ' ')
					if ok && (status != n || size != len(b) || e != api.OK) || !ok && (status != 0 || size != 0 || e != api.ErrForm) {
						t.Fatalf("%q: %d %d %d", b, status, size, e)
					}
				}
			}
		}
	}
}

// P16.4: each byte in place of each byte of a response, and ahead of it.
func TestTakeReplyEachByte(t *testing.T) {
	for _, b := range []string{"HTTP/1.1 200 OK\r\nx: y\r\n\r\n", "HTTP/1.0 599\r\n\r\n", "HTTP/1.1 100 \r\n\r\n"} {
		for i := range b {
			for c := range 256 {
				answers(t, b[:i]+string([]byte{byte(c)})+b[i+1:])
				answers(t, b[:i]+string([]byte{byte(c)})+b[i:])
			}
			answers(t, b[:i]+b[i+1:])
		}
	}
}

// P16.4: all lines of a few pieces.
func TestTakeReplyAllLines(t *testing.T) {
	for line := range rows([]string{"HTTP/1.1", "HTTP/1.0", " ", "200", "2", "0", "6", "x", "+"}, 5) {
		answers(t, line+"\r\n\r\n")
		answers(t, "HTTP/1.1 "+line+"\r\n\r\n")
	}
}

// P16.4: responses of lengths about the greatest, and of each number of fields.
func TestTakeReplyLong(t *testing.T) {
	for size := 505; size < 520; size++ {
		for _, b := range []string{"HTTP/1.1 200 " + as(size-17) + "\r\n\r\n", "HTTP/1.1 200\r\nx:" + as(size-20) + "\r\n\r\n"} {
			if len(b) != size {
				t.Fatalf("%d bytes for %d", len(b), size)
			}
			status, n, e := TakeReply([]byte(b + "more"))
			if ok := size <= 512; ok && (status != 200 || n != size || e != api.OK) || !ok && (status != 0 || n != 0 || e != api.ErrLong) {
				t.Errorf("%d bytes: %d %d %d", size, status, n, e)
			}
			answers(t, b)
		}
	}
	for count := range 20 {
		answers(t, "HTTP/1.1 200\r\n"+strings.Repeat("Host: a\r\n", count)+"\r\n")
	}
}

// P16.6: no bytes behind it change a result other than ErrMore, and each proper prefix of a response results in ErrMore.
func TestReplyPrefixes(t *testing.T) {
	for b := range rows([]string{"HTTP/1.1 200", "HTTP/1.0 ", "404", " ", "x: y", "\r\n", "\n"}, 6) {
		status, n, e := TakeReply([]byte(b))
		if e == api.ErrMore {
			continue
		}
		for _, tail := range []string{"\r\n\r\n", "x", "\x00", as(600)} {
			if other, size, err := TakeReply([]byte(b + tail)); other != status || size != n || err != e {
				t.Fatalf("%q: %d %d %d, and with %q behind it %d %d %d", b, status, n, e, tail, other, size, err)
			}
		}
		for i := range n {
			if other, size, err := TakeReply([]byte(b[:i])); other != 0 || size != 0 || err != api.ErrMore {
				t.Fatalf("%d bytes of %q: %d %d %d", i, b, other, size, err)
			}
		}
	}
}
