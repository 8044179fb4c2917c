package connect

import (
	"bytes"
	"encoding/base64"
	"regexp"
	"strings"
	"testing"

	"postilion/api"
	"postilion/head"
	"postilion/host"
)

// rows enumerates all rows of at most so many of the pieces.
func rows(of []string, most int) func(yield func(string) bool) {
	return func(yield func(string) bool) {
		row := []string{""}
		for range most + 1 {
			var longer []string
			for _, s := range row {
				if !yield(s) {
					return
				}
				for _, piece := range of {
					longer = append(longer, s+piece)
				}
			}
			row = longer
		}
	}
}

var (
	asking = regexp.MustCompile("^([!#$%&'*+.^_`|~0-9A-Za-z-]+) ([!-~]+) HTTP/1[.]1$")
	signed = regexp.MustCompile("^[Bb][Aa][Ss][Ii][Cc] ([^ ]*)$")
	kept   = regexp.MustCompile("^([!-~]([ -~\t]*[!-~])?)?$")
)

// fieldsOf returns the values of the fields of a head that have that name, in whatever case.
func fieldsOf(b, name string) []string {
	var all []string
	for _, line := range strings.Split(strings.TrimSuffix(b, "\r\n\r\n"), "\r\n")[1:] {
		if called, value, _ := strings.Cut(line, ":"); strings.EqualFold(called, name) {
			all = append(all, strings.Trim(value, " \t"))
		}
	}
	return all
}

// told says what a head asks that is all of b.
func told(b string) (Ask, api.Errno) {
	line, _, _ := strings.Cut(b, "\r\n")
	words := asking.FindStringSubmatch(line)
	switch {
	case words == nil:
		return Ask{}, api.ErrForm
	case words[1] != "CONNECT":
		return Ask{}, api.ErrMethod
	}
	at, e := host.ParseTarget(words[2])
	signs, hops := fieldsOf(b, "proxy-authorization"), fieldsOf(b, "hop-token")
	if e != api.OK || len(fieldsOf(b, "host")) != 1 || len(signs) > 1 || len(hops) > 1 || fieldsOf(b, "content-length") != nil || fieldsOf(b, "transfer-encoding") != nil {
		return Ask{}, api.ErrForm
	}
	a := Ask{Target: at}
	if hops != nil {
		a.Hops, a.Tokens = true, hops[0]
	}
	if signs == nil {
		return a, api.OK
	}
	if text := signed.FindStringSubmatch(signs[0]); text != nil {
		pair, err := base64.StdEncoding.Strict().DecodeString(text[1])
		if i := bytes.IndexByte(pair, ':'); err == nil && i >= 0 {
			a.Signed, a.User, a.Pass = true, string(pair[:i]), string(pair[i+1:])
		}
	}
	return a, api.OK
}

// wanted says what is read from b: a request of so many bytes, or the error of layer 15, or that of a complete head.
func wanted(b string) (Ask, int, api.Errno) {
	_, n, e := head.Take([]byte(b))
	if e != api.OK {
		return Ask{}, 0, e
	}
	a, e := told(b[:n])
	if e != api.OK {
		return Ask{}, 0, e
	}
	return a, n, api.OK
}

// takes fails the test unless Take reads from b what the chapter says, and leaves b as it was.
func takes(t *testing.T, b string) {
	t.Helper()
	given := []byte(b)
	a, n, e := Take(given)
	if want, size, err := wanted(b); a != want || n != size || e != err {
		t.Fatalf("%q: %#v %d %d, want %#v %d %d", b, a, n, e, want, size, err)
	}
	if string(given) != b {
		t.Fatalf("%q became %q", b, given)
	}
}

const (
	first   = "CONNECT a:80 HTTP/1.1\r\n"
	hostful = first + "Host: a\r\n"
)

// at returns the target of a name and a port.
func at(name string, port int) api.Target {
	return api.Target{Host: api.Host{Kind: api.HkName, Text: name}, Port: port}
}

// v4 and v6 return targets of these bytes.
func v4(b string, port int) api.Target {
	return api.Target{Host: api.Host{Kind: api.HkV4, Text: b}, Port: port}
}

func v6(b string, port int) api.Target {
	return api.Target{Host: api.Host{Kind: api.HkV6, Text: b}, Port: port}
}

// as returns so many letters.
func as(n int) string { return strings.Repeat("A", n) }

// sign returns the field with which that pair is signed.
func sign(pair string) string {
	return "Proxy-Authorization: Basic " + base64.StdEncoding.EncodeToString([]byte(pair)) + "\r\n"
}

// P16.1 and the section 'Examples': requests, with and without bytes behind them.
func TestTake(t *testing.T) {
	for _, x := range []struct {
		b    string
		want Ask
	}{
		{hostful, Ask{Target: at("a", 80)}},
		{first + "host: a\r\n", Ask{Target: at("a", 80)}},
		{first + "HOST:a:80\r\n", Ask{Target: at("a", 80)}},
		{first + "Host:\r\n", Ask{Target: at("a", 80)}},
		{first + "Host: something else\r\n", Ask{Target: at("a", 80)}},
		{first + "x: y\r\nHost: a\r\nHosts: b\r\nx-host: c\r\nx: y\r\n", Ask{Target: at("a", 80)}},
		{hostful + "Authorization: Basic dTpw\r\nProxy-Authenticate: Basic dTpw\r\nHop-Tokens: x\r\nHop-Toke: x\r\nContent-Type: x\r\nTE: x\r\n", Ask{Target: at("a", 80)}},
		{hostful + "Proxy-Authorization: bASIC dTpwOnE=\r\nHop-Token: x,y\r\n", Ask{at("a", 80), true, "u", "p:q", true, "x,y"}},
		{first + "hop-token:x,y\r\nproxy-authorization:basic dTpw\r\nhost:a\r\n", Ask{at("a", 80), true, "u", "p", true, "x,y"}},
		{first + "HOP-TOKEN: \tx, y \t\r\nPROXY-AUTHORIZATION: \tBASIC dTpw\t \r\nHOST: a\r\n", Ask{at("a", 80), true, "u", "p", true, "x, y"}},
		{hostful + "Hop-Token:\r\n", Ask{Target: at("a", 80), Hops: true}},
		{hostful + "Hop-Token: \t \r\n", Ask{Target: at("a", 80), Hops: true}},
		{hostful + "Hop-Token: ,\r\n", Ask{Target: at("a", 80), Hops: true, Tokens: ","}},
		{hostful + "Hop-Token: Not a name; x\t!\r\n", Ask{Target: at("a", 80), Hops: true, Tokens: "Not a name; x\t!"}},
		{hostful + sign(":"), Ask{Target: at("a", 80), Signed: true}},
		{hostful + sign("u:"), Ask{Target: at("a", 80), Signed: true, User: "u"}},
		{hostful + sign(":p"), Ask{Target: at("a", 80), Signed: true, Pass: "p"}},
		{hostful + sign("::"), Ask{Target: at("a", 80), Signed: true, Pass: ":"}},
		{hostful + sign("u;x;y:p"), Ask{Target: at("a", 80), Signed: true, User: "u;x;y", Pass: "p"}},
		{hostful + sign("u:p:q:"), Ask{Target: at("a", 80), Signed: true, User: "u", Pass: "p:q:"}},
		{hostful + sign("\x00\xff \r\n:\x00\xff \r\n"), Ask{Target: at("a", 80), Signed: true, User: "\x00\xff \r\n", Pass: "\x00\xff \r\n"}},
		{hostful + sign(""), Ask{Target: at("a", 80)}},
		{hostful + sign("u"), Ask{Target: at("a", 80)}},
		{hostful + sign("user and pass"), Ask{Target: at("a", 80)}},
		{hostful + "Proxy-Authorization:\r\n", Ask{Target: at("a", 80)}},
		{hostful + "Proxy-Authorization: Basic\r\n", Ask{Target: at("a", 80)}},
		{hostful + "Proxy-Authorization: Basic \r\n", Ask{Target: at("a", 80)}},
		{hostful + "Proxy-Authorization: BasicdTpw\r\n", Ask{Target: at("a", 80)}},
		{hostful + "Proxy-Authorization: Basic  dTpw\r\n", Ask{Target: at("a", 80)}},
		{hostful + "Proxy-Authorization: Basic\tdTpw\r\n", Ask{Target: at("a", 80)}},
		{hostful + "Proxy-Authorization: Basic dTpw dTpw\r\n", Ask{Target: at("a", 80)}},
		{hostful + "Proxy-Authorization: Basic dTpw, x=y\r\n", Ask{Target: at("a", 80)}},
		{hostful + "Proxy-Authorization: Basi dTpw\r\n", Ask{Target: at("a", 80)}},
		{hostful + "Proxy-Authorization: Basics dTpw\r\n", Ask{Target: at("a", 80)}},
		{hostful + "Proxy-Authorization: Bearer dTpw\r\n", Ask{Target: at("a", 80)}},
		{hostful + "Proxy-Authorization: Digest dTpw\r\n", Ask{Target: at("a", 80)}},
		{hostful + "Proxy-Authorization: dTpw\r\n", Ask{Target: at("a", 80)}},
		{hostful + "Proxy-Authorization: dTpw Basic\r\n", Ask{Target: at("a", 80)}},
		{hostful + "Proxy-Authorization: Basic dTp\r\n", Ask{Target: at("a", 80)}},
		{hostful + "Proxy-Authorization: Basic dTpw=\r\n", Ask{Target: at("a", 80)}},
		{hostful + "Proxy-Authorization: Basic dTpwOnF=\r\n", Ask{Target: at("a", 80)}},
		{hostful + "Proxy-Authorization: Basic dTpwOnE\r\n", Ask{Target: at("a", 80)}},
		{hostful + "Proxy-Authorization: Basic dTpw====\r\n", Ask{Target: at("a", 80)}},
		{hostful + "Proxy-Authorization: Basic dTp-\r\n", Ask{Target: at("a", 80)}},
		{hostful + "Proxy-Authorization: Basic u:p\r\n", Ask{Target: at("a", 80)}},
	} {
		b := x.b + "\r\n"
		for _, tail := range []string{"", "\r\n", "more", "\x00", hostful + "\r\n", as(600)} {
			if a, n, e := Take([]byte(b + tail)); a != x.want || n != len(b) || e != api.OK {
				t.Errorf("%q: %#v %d %d, want %#v", b+tail, a, n, e, x.want)
			}
			takes(t, b+tail)
		}
	}
}

// targets are strings that denote targets, of each kind and in each form, and what they denote.
var targets = map[string]api.Target{
	"a:80": at("a", 80), "A:80": at("a", 80), "a.Example:1": at("a.example", 1), "A-1.b:65535": at("a-1.b", 65535), "1a:443": at("1a", 443), "1.2.3.4.b:443": at("1.2.3.4.b", 443),
	strings.Repeat("a", 40) + ":80": at(strings.Repeat("a", 40), 80),
	"10.0.0.255:65535":              v4("\x0a\x00\x00\xff", 65535), "0.0.0.0:1": v4("\x00\x00\x00\x00", 1),
	"[::1]:80": v6(strings.Repeat("\x00", 15)+"\x01", 80), "[0:0::0:1]:80": v6(strings.Repeat("\x00", 15)+"\x01", 80), "[::]:80": v6(strings.Repeat("\x00", 16), 80),
	"[2001:DB8::1:0]:443": v6("\x20\x01\x0d\xb8"+strings.Repeat("\x00", 9)+"\x01\x00\x00", 443), "[2001:0db8:0:0:0:0:0001:0]:443": v6("\x20\x01\x0d\xb8"+strings.Repeat("\x00", 9)+"\x01\x00\x00", 443),
}

// none are strings that denote no target.
var none = []string{
	"a", "a:", ":80", ":", "a:0", "a:00", "a:080", "a:65536", "a:99999999999999999999", "a:-1", "a:+80", "a:80:", "a:80:80", "a:b", "a:8O", "a..b:80", ".a:80", "a.:80", "-a:80", "a-:80", "a_b:80", "a.1:80", "1:80", "1.2.3:80", "1.2.3.4.5:80", "1.2.3.04:80", "1.2.3.256:80", "::1:80", "::1", "[::1]", "[::1]80", "[::1]:", "[::1:80", "::1]:80", "[a]:80", "[1.2.3.4]:80", "[]:80", "[1::2::3]:80", "[1:2:3]:80", "[::g]:80", "[::ffff:1.2.3.4]:80", "/", "*", "http://a:80", "http://a:80/", "a:80/", "u@a:80", "a:80?", "a:80#", "%61:80",
	strings.Repeat("a", 41) + ":80",
}

// P16.1: targets of each kind, spelled as their texts and otherwise, and strings that denote none.
func TestTakeTargets(t *testing.T) {
	for s, want := range targets {
		b := "CONNECT " + s + " HTTP/1.1\r\nHost: " + s + "\r\n\r\n"
		if a, n, e := Take([]byte(b)); a != (Ask{Target: want}) || n != len(b) || e != api.OK {
			t.Errorf("%q: %#v %d %d", b, a, n, e)
		}
		takes(t, b+"more")
	}
	for _, s := range none {
		b := "CONNECT " + s + " HTTP/1.1\r\nHost: a:80\r\n\r\n"
		if a, n, e := Take([]byte(b)); a != (Ask{}) || n != 0 || e != api.ErrForm {
			t.Errorf("%q: %#v %d %d", b, a, n, e)
		}
		takes(t, b+"more")
	}
}

// P16.1 and the section 'Examples': complete heads that are no requests, whatever follows them.
func TestTakeWrong(t *testing.T) {
	for _, x := range []struct {
		b string
		e api.Errno
	}{
		{"CONNECT\r\nHost: a\r\n", api.ErrForm}, {"HTTP/1.1\r\nHost: a\r\n", api.ErrForm}, {"CONNECT a:80\r\nHost: a\r\n", api.ErrForm}, {"CONNECT HTTP/1.1\r\nHost: a\r\n", api.ErrForm}, {"a:80 HTTP/1.1\r\nHost: a\r\n", api.ErrForm},
		{"CONNECT a:80 HTTP/1.1 x\r\nHost: a\r\n", api.ErrForm}, {"CONNECT a:80 x HTTP/1.1\r\nHost: a\r\n", api.ErrForm}, {"CONNECT a:80 HTTP/1.1 HTTP/1.1\r\nHost: a\r\n", api.ErrForm}, {"CONNECT CONNECT a:80 HTTP/1.1\r\nHost: a\r\n", api.ErrForm},
		{"CONNECT  a:80 HTTP/1.1\r\nHost: a\r\n", api.ErrForm}, {"CONNECT a:80  HTTP/1.1\r\nHost: a\r\n", api.ErrForm}, {" CONNECT a:80 HTTP/1.1\r\nHost: a\r\n", api.ErrForm}, {"CONNECT a:80 HTTP/1.1 \r\nHost: a\r\n", api.ErrForm}, {" \r\nHost: a\r\n", api.ErrForm}, {"  \r\nHost: a\r\n", api.ErrForm},
		{"CONNECT  HTTP/1.1\r\nHost: a\r\n", api.ErrForm}, {" a:80 HTTP/1.1\r\nHost: a\r\n", api.ErrForm}, {"CONNECT a:80 \r\nHost: a\r\n", api.ErrForm},
		{"GET  HTTP/1.1\r\nHost: a\r\n", api.ErrForm}, {"GET  a:80 HTTP/1.1\r\n", api.ErrForm}, {"GET a:80  HTTP/1.1\r\n", api.ErrForm}, {" GET a:80 HTTP/1.1\r\n", api.ErrForm}, {"GET a:80 HTTP/1.1 \r\n", api.ErrForm}, {"GET a:80\r\n", api.ErrForm}, {"GET HTTP/1.1\r\n", api.ErrForm}, {"GET\r\n", api.ErrForm}, {"GET a:80 x HTTP/1.1\r\n", api.ErrForm},
		{"CONNECT a:80 HTTP/1.0\r\nHost: a\r\n", api.ErrForm}, {"CONNECT a:80 http/1.1\r\nHost: a\r\n", api.ErrForm}, {"CONNECT a:80 HTTP/1.10\r\nHost: a\r\n", api.ErrForm}, {"CONNECT a:80 HTTP/1\r\nHost: a\r\n", api.ErrForm}, {"CONNECT a:80 HTTP/2\r\nHost: a\r\n", api.ErrForm}, {"CONNECT a:80 xHTTP/1.1\r\nHost: a\r\n", api.ErrForm}, {"CONNECT a:80 HTTP/1,1\r\nHost: a\r\n", api.ErrForm},
		{"GET / HTTP/1.0\r\n", api.ErrForm}, {"GET / http/1.1\r\n", api.ErrForm}, {"GET / HTTP/2\r\nHost: a\r\n", api.ErrForm},
		{"G(T a:80 HTTP/1.1\r\nHost: a\r\n", api.ErrForm}, {"CONNECT: a:80 HTTP/1.1\r\nHost: a\r\n", api.ErrForm}, {"CON/NECT a:80 HTTP/1.1\r\nHost: a\r\n", api.ErrForm}, {"\"\" a:80 HTTP/1.1\r\nHost: a\r\n", api.ErrForm}, {"@ / HTTP/1.1\r\n", api.ErrForm},
		{"GET a:80 HTTP/1.1\r\nHost: a\r\n", api.ErrMethod}, {"connect a:80 HTTP/1.1\r\nHost: a\r\n", api.ErrMethod}, {"Connect a:80 HTTP/1.1\r\nHost: a\r\n", api.ErrMethod}, {"CONNECTS a:80 HTTP/1.1\r\nHost: a\r\n", api.ErrMethod}, {"CONNEC a:80 HTTP/1.1\r\nHost: a\r\n", api.ErrMethod}, {"! a:80 HTTP/1.1\r\nHost: a\r\n", api.ErrMethod}, {"0 a:80 HTTP/1.1\r\nHost: a\r\n", api.ErrMethod}, {"host a:80 HTTP/1.1\r\nHost: a\r\n", api.ErrMethod},
		{first, api.ErrForm}, {first + "x: y\r\n", api.ErrForm}, {first + "Hosts: a\r\n", api.ErrForm}, {first + "Host-: a\r\n", api.ErrForm}, {first + "x: Host\r\n", api.ErrForm},
		{hostful + "Host: a\r\n", api.ErrForm}, {hostful + "host: a\r\n", api.ErrForm}, {hostful + "HOST:\r\n", api.ErrForm}, {hostful + "x: y\r\nhost: b\r\n", api.ErrForm}, {hostful + "Host: a\r\nHost: a\r\n", api.ErrForm},
		{hostful + sign("u:p") + sign("u:p"), api.ErrForm}, {hostful + sign("u:p") + "proxy-authorization:\r\n", api.ErrForm}, {hostful + "PROXY-AUTHORIZATION: x\r\nx: y\r\n" + sign("u:p"), api.ErrForm}, {hostful + sign("u") + sign("") + sign("u:p"), api.ErrForm},
		{hostful + "Hop-Token: x\r\nHop-Token: y\r\n", api.ErrForm}, {hostful + "Hop-Token:\r\nhop-token:\r\n", api.ErrForm}, {hostful + "HOP-TOKEN: x\r\nz: z\r\nHop-Token: x\r\n", api.ErrForm},
		{hostful + "Content-Length: 0\r\n", api.ErrForm}, {hostful + "content-length:\r\n", api.ErrForm}, {first + "CONTENT-LENGTH: 5\r\nHost: a\r\n", api.ErrForm}, {hostful + "Content-Length: 0\r\nContent-Length: 0\r\n", api.ErrForm},
		{hostful + "Transfer-Encoding: chunked\r\n", api.ErrForm}, {hostful + "transfer-encoding:\r\n", api.ErrForm}, {first + "TRANSFER-ENCODING: x\r\nHost: a\r\n", api.ErrForm}, {hostful + "Transfer-Encoding: x\r\nContent-Length: 0\r\n", api.ErrForm}, {hostful + "Transfer-Encoding: x\r\nTransfer-Encoding: x\r\n", api.ErrForm},
		{"CONNECT a HTTP/1.1\r\nHost: a\r\n", api.ErrForm}, {"CONNECT a HTTP/1.1\r\n", api.ErrForm}, {"CONNECT a HTTP/1.0\r\n", api.ErrForm}, {"HTTP/1.1 200 OK\r\n", api.ErrForm},
	} {
		b := x.b + "\r\n"
		for _, tail := range []string{"", "\r\n", "Host: a\r\n\r\n", "\x00", hostful + "\r\n", as(600)} {
			if a, n, e := Take([]byte(b + tail)); a != (Ask{}) || n != 0 || e != x.e {
				t.Errorf("%q: %#v %d %d, want %d", b+tail, a, n, e, x.e)
			}
			takes(t, b+tail)
		}
	}
}

// faults are fields that no request has together, or at all.
var faults = []string{"", "Host: a\r\nHost: a\r\n", "x: y\r\n", "Host: a\r\n" + sign("u:p") + sign("u:p"), "Host: a\r\nHop-Token:\r\nHop-Token:\r\n", "Host: a\r\nContent-Length: 0\r\n", "Host: a\r\nTransfer-Encoding: x\r\n", "Host: a\r\n"}

// P16.1: another method is told ahead of each other fault of a complete head, but not ahead of a line that has no three words, or other ones.
func TestTakeMethodFirst(t *testing.T) {
	for _, fields := range faults {
		for _, s := range append(none, "a:80") {
			for _, name := range []string{"GET", "connect", "CONNECT-", "!", "HTTP"} {
				b := name + " " + s + " HTTP/1.1\r\n" + fields + "\r\n"
				if a, n, e := Take([]byte(b)); a != (Ask{}) || n != 0 || e != api.ErrMethod {
					t.Fatalf("%q: %#v %d %d", b, a, n, e)
				}
				takes(t, b)
			}
			for _, line := range []string{
				"AT", "AT HTTP/1.1", "GET AT", "GET AT ", "GET AT HTTP/1.0", "GET AT http/1.1", "GET AT HTTP/1.1 ", " GET AT HTTP/1.1", "GET  AT HTTP/1.1", "GET AT  HTTP/1.1", "GET AT x HTTP/1.1", "GET x AT HTTP/1.1", "GET AT HTTP/1.1 x", "GET  HTTP/1.1",
				"G:T AT HTTP/1.1", "/ AT HTTP/1.1", "( AT HTTP/1.1", " AT HTTP/1.1", "connect AT HTTP/1.0", "connect  AT HTTP/1.1",
			} {
				b := strings.Replace(line, "AT", s, 1) + "\r\n" + fields + "\r\n"
				if a, n, e := Take([]byte(b)); a != (Ask{}) || n != 0 || e != api.ErrForm {
					t.Fatalf("%q: %#v %d %d", b, a, n, e)
				}
				takes(t, b)
			}
		}
	}
}

// P16.1: the errors of layer 15 are told ahead of those of a complete head, from their bytes on.
func TestTakeErrorsOfHeads(t *testing.T) {
	for _, line := range []string{"CONNECT a:80 HTTP/1.1\r\n", "CONNECT a HTTP/1.1\r\n", "GET a:80 HTTP/1.1\r\n", "GET / HTTP/1.0\r\n", "x\r\n"} {
		for _, fields := range faults {
			for tail, err := range map[string]api.Errno{
				"": api.ErrMore, "\r": api.ErrMore, "x": api.ErrMore, "x:": api.ErrMore, "x: y\r\n": api.ErrMore,
				"\n": api.ErrForm, "\rx": api.ErrForm, " ": api.ErrForm, ":": api.ErrForm, "x \r\n\r\n": api.ErrForm, "x:\x00\r\n\r\n": api.ErrForm, "\x80\r\n\r\n": api.ErrForm,
				as(512): api.ErrLong, strings.Repeat("n:\r\n", 17) + "\r\n": api.ErrLong, as(600) + ":\r\n\r\n": api.ErrLong,
			} {
				b := line + fields + tail
				if a, n, e := Take([]byte(b)); a != (Ask{}) || n != 0 || e != err {
					t.Fatalf("%q: %#v %d %d, want %d", b, a, n, e, err)
				}
				takes(t, b)
			}
		}
	}
	for b, err := range map[string]api.Errno{"": api.ErrMore, "C": api.ErrMore, "\r": api.ErrForm, "\n": api.ErrForm, "\x05\x01\x02": api.ErrForm, "GET / HTTP/1.0\n": api.ErrForm, as(511): api.ErrMore, as(512): api.ErrLong, as(511) + "\n": api.ErrForm} {
		if a, n, e := Take([]byte(b)); a != (Ask{}) || n != 0 || e != err {
			t.Errorf("%q: %#v %d %d, want %d", b, a, n, e, err)
		}
	}
	if a, n, e := Take(nil); a != (Ask{}) || n != 0 || e != api.ErrMore {
		t.Errorf("nil: %#v %d %d", a, n, e)
	}
}

// P16.1: all lines of a few words and spaces.
func TestTakeAllLines(t *testing.T) {
	for line := range rows([]string{" ", "CONNECT", "GET", "connect", "(", "a:80", "A", "HTTP/1.1", "HTTP/1.0", "http/1.1"}, 5) {
		takes(t, line+"\r\nHost: a\r\n\r\n")
	}
	for line := range rows([]string{"CONNECT ", "GET ", "a:80 ", "[::1]:80 ", " ", "HTTP/1.1", "HTTP/1.1 "}, 4) {
		takes(t, line+"\r\n\r\n")
	}
}

// P16.1: all lists of a few fields, so that each occurs never, once, twice and more often, at each place.
func TestTakeAllFields(t *testing.T) {
	for fields := range rows([]string{"Host: a\r\n", "hOST:\r\n", "Proxy-Authorization: Basic dTpw\r\n", "proxy-authorization: x\r\n", "Hop-Token: x\r\n", "hop-tokeN:\r\n", "Content-Length: 0\r\n", "Transfer-encoding: x\r\n", "X: y\r\n"}, 4) {
		takes(t, first+fields+"\r\n")
	}
	for fields := range rows([]string{"Host: a\r\n", "Proxy-Authorization: Basic dTpw\r\n", "Hop-Token: x\r\n", "y:\r\n"}, 6) {
		takes(t, first+fields+"\r\n")
	}
}

// P16.1: each byte in place of each byte of a request, and ahead of it.
func TestTakeEachByte(t *testing.T) {
	b := first + "Host: a\r\n" + "Proxy-Authorization: Basic dTpwOnE=\r\nHop-Token: x,y\r\n\r\n"
	for i := range b {
		for c := range 256 {
			takes(t, b[:i]+string([]byte{byte(c)})+b[i+1:])
			takes(t, b[:i]+string([]byte{byte(c)})+b[i:])
		}
		takes(t, b[:i]+b[i+1:])
	}
}

// P16.1: values of `proxy-authorization`, all of a few pieces.
func TestTakeAllCredentials(t *testing.T) {
	for value := range rows([]string{"Basic", "bASIC", "x", " ", "\t", "dTpw", "dTo=", "Og==", "dQ==", "="}, 4) {
		takes(t, hostful+"Proxy-Authorization: "+value+"\r\n\r\n")
	}
	for pair := range rows([]string{":", "a", "\x00", "\xff"}, 5) {
		a, n, e := Take([]byte(hostful + sign(pair) + "\r\n"))
		want := Ask{Target: at("a", 80)}
		if user, pass, ok := strings.Cut(pair, ":"); ok {
			want.Signed, want.User, want.Pass = true, user, pass
		}
		if a != want || n != len(hostful+sign(pair))+2 || e != api.OK {
			t.Fatalf("%q: %#v %d %d", pair, a, n, e)
		}
	}
	for low := range 32 { // each of the letters in upper and lower case
		scheme := []byte("BASIC")
		for i := range scheme {
			scheme[i] |= byte(low >> i & 1 << 5)
		}
		a, _, e := Take([]byte(hostful + "Proxy-Authorization: " + string(scheme) + " dTpw\r\n\r\n"))
		if a != (Ask{Target: at("a", 80), Signed: true, User: "u", Pass: "p"}) || e != api.OK {
			t.Errorf("%q: %#v %d", scheme, a, e)
		}
	}
}

// P16.1: each byte in a user name and in a password, and in the text of tokens.
func TestTakeEachByteOfValues(t *testing.T) {
	for c := range 256 {
		s := string([]byte{byte(c)})
		for _, part := range []string{s, s + "a", "a" + s, "a" + s + "b"} {
			a, _, e := Take([]byte(hostful + sign("u:"+part) + "\r\n"))
			if a != (Ask{Target: at("a", 80), Signed: true, User: "u", Pass: part}) || e != api.OK {
				t.Errorf("%q: %#v %d", part, a, e)
			}
			if c != ':' {
				a, _, e = Take([]byte(hostful + sign(part+":p") + "\r\n"))
				if a != (Ask{Target: at("a", 80), Signed: true, User: part, Pass: "p"}) || e != api.OK {
					t.Errorf("%q: %#v %d", part, a, e)
				}
			}
			takes(t, hostful+"Hop-Token: "+part+"\r\n\r\n")
			takes(t, hostful+"Hop-Token:"+part+"\r\n\r\n")
		}
	}
}

// long are requests of n bytes, filled up in each part that can be filled up.
func long(n int) []string {
	secret := (n - len(hostful) - len("Proxy-Authorization: Basic \r\n\r\n")) / 4 * 3
	rest := n - len(hostful) - len("Proxy-Authorization: Basic \r\n\r\n") - secret/3*4
	return []string{
		first + "Host:" + as(n-len(first)-9) + "\r\n\r\n",
		hostful + "Hop-Token:" + as(n-len(hostful)-14) + "\r\n\r\n",
		hostful + as(n-len(hostful)-5) + ":\r\n\r\n",
		hostful + "Hop-Token:" + strings.Repeat(" ", n-len(hostful)-14) + "\r\n\r\n",
		first + "Host:" + strings.Repeat(" ", rest+1) + "a\r\n" + sign("u:"+strings.Repeat("p", secret-2)) + "\r\n",
	}
}

// P16.1: requests of lengths about the greatest.
func TestTakeLong(t *testing.T) {
	for size := 505; size < 520; size++ {
		for _, b := range long(size) {
			if len(b) != size {
				t.Fatalf("%d bytes for %d", len(b), size)
			}
			a, n, e := Take([]byte(b + "more"))
			if ok := size <= 512; ok && (n != size || e != api.OK || a.Target != at("a", 80)) || !ok && (a != (Ask{}) || n != 0 || e != api.ErrLong) {
				t.Errorf("%d bytes: %#v %d %d", size, a, n, e)
			}
			takes(t, b)
			takes(t, b+"more")
			takes(t, "GET"+b[len("CONNECT"):])
		}
	}
	for size := range 520 { // a line, of another method and of the same
		takes(t, "GET "+as(size)+" HTTP/1.1\r\n\r\n")
		takes(t, "CONNECT "+as(size)+" HTTP/1.1\r\nHost: a\r\n\r\n")
	}
	for count := range 20 {
		takes(t, hostful+strings.Repeat("n:v\r\n", count)+"\r\n")
		takes(t, first+strings.Repeat("n:v\r\n", count)+"Host: a\r\n\r\n")
	}
}

// some are requests of each kind.
func some() []string {
	all := append([]string{
		hostful + "\r\n", first + "host:\r\nx: y\r\n\r\n", hostful + "Proxy-Authorization: bASIC dTpwOnE=\r\nHop-Token: x,y\r\n\r\n", hostful + "hop-token:\r\n" + sign(":") + "\r\n", hostful + sign("u") + "\r\n", hostful + "Proxy-Authorization: Digest x\r\n\r\n",
	}, long(512)...)
	for s := range targets {
		all = append(all, "CONNECT "+s+" HTTP/1.1\r\nHost: "+s+"\r\n"+sign("u:p")+"Hop-Token: x\r\n\r\n")
	}
	return all
}

// P16.1: what Take returns is the caller's own: it does not follow a later change of the input.
func TestTakeOwn(t *testing.T) {
	for _, b := range some() {
		given := []byte(b + "more")
		a, n, e := Take(given)
		for i := range given {
			given[i] ^= 3
		}
		if want, err := told(b); a != want || n != len(b) || e != api.OK || err != api.OK {
			t.Errorf("a change reaches %#v %d %d", a, n, e)
		}
	}
}

// P16.6: each proper prefix of a request results in ErrMore, and no bytes behind it change what is read.
func TestPrefixes(t *testing.T) {
	for _, b := range some() {
		for n := range b {
			if a, size, e := Take([]byte(b[:n])); a != (Ask{}) || size != 0 || e != api.ErrMore {
				t.Fatalf("%d bytes of %q: %#v %d %d", n, b, a, size, e)
			}
		}
		want, _ := told(b)
		for c := range 256 {
			if a, n, e := Take(append([]byte(b), byte(c), 'x', '\r', '\n')); a != want || n != len(b) || e != api.OK {
				t.Fatalf("%q with %d behind it: %#v %d %d", b, c, a, n, e)
			}
		}
	}
	for b := range rows([]string{"CONNECT a:80 HTTP/1.1", "GET x HTTP/1.1", "Host: a", "Hop-Token: x", "\r\n", "\n", " "}, 6) {
		a, n, e := Take([]byte(b))
		if e == api.ErrMore {
			continue
		}
		for _, tail := range []string{"\r\n\r\n", "x", "Host: a\r\n\r\n", "\x00", as(600)} {
			if other, size, err := Take([]byte(b + tail)); other != a || size != n || err != e {
				t.Fatalf("%q: %#v %d %d, and with %q behind it %#v %d %d", b, a, n, e, tail, other, size, err)
			}
		}
	}
}

// prints fails the test unless Print returns of a what the chapter says, and what it returns is read back, whatever follows it: P16.2, P16.5.
func prints(t *testing.T, a Ask) {
	t.Helper()
	text := host.Print(a.Target)
	want := "CONNECT " + text + " HTTP/1.1\r\nHost: " + text + "\r\n"
	ok := host.MayTarget(a.Target)
	if a.Signed {
		want += sign(a.User + ":" + a.Pass)
		ok = ok && strings.IndexByte(a.User, ':') < 0
	} else {
		ok = ok && a.User == "" && a.Pass == ""
	}
	if a.Hops {
		want += "Hop-Token:"
		if a.Tokens != "" {
			want += " "
		}
		want += a.Tokens + "\r\n"
		ok = ok && kept.MatchString(a.Tokens)
	} else {
		ok = ok && a.Tokens == ""
	}
	want += "\r\n"
	b, e := Print(a)
	if !ok || len(want) > 512 {
		if b != nil || e != api.ErrArg {
			t.Fatalf("%#v: %q %d", a, b, e)
		}
		return
	}
	if string(b) != want || e != api.OK {
		t.Fatalf("%#v: %q %d, want %q", a, b, e, want)
	}
	for _, tail := range []string{"", "\r\n", "A", "\x00", "x: y\r\n\r\n"} {
		if read, n, e := Take(append(bytes.Clone(b), tail...)); read != a || n != len(want) || e != api.OK {
			t.Fatalf("%#v: %q, which is read back as %#v %d %d", a, b, read, n, e)
		}
	}
	for n := range b {
		if read, size, e := Take(b[:n]); read != (Ask{}) || size != 0 || e != api.ErrMore {
			t.Fatalf("%d bytes of %q: %#v %d %d", n, b, read, size, e)
		}
	}
}

// P16.2 and the section 'Examples': requests that can be printed.
func TestPrint(t *testing.T) {
	for _, x := range []struct {
		a    Ask
		want string
	}{
		{Ask{Target: at("a", 80)}, "CONNECT a:80 HTTP/1.1\r\nHost: a:80\r\n\r\n"},
		{Ask{Target: v4("\x0a\x00\x00\xff", 1)}, "CONNECT 10.0.0.255:1 HTTP/1.1\r\nHost: 10.0.0.255:1\r\n\r\n"},
		{Ask{Target: v6(strings.Repeat("\x00", 15)+"\x01", 65535)}, "CONNECT [::1]:65535 HTTP/1.1\r\nHost: [::1]:65535\r\n\r\n"},
		{Ask{at("a", 80), true, "u", "p:q", true, "x,y"}, "CONNECT a:80 HTTP/1.1\r\nHost: a:80\r\nProxy-Authorization: Basic dTpwOnE=\r\nHop-Token: x,y\r\n\r\n"},
		{Ask{Target: at("a", 80), Signed: true, User: "u", Pass: "p"}, "CONNECT a:80 HTTP/1.1\r\nHost: a:80\r\nProxy-Authorization: Basic dTpw\r\n\r\n"},
		{Ask{Target: at("a", 80), Signed: true}, "CONNECT a:80 HTTP/1.1\r\nHost: a:80\r\nProxy-Authorization: Basic Og==\r\n\r\n"},
		{Ask{Target: at("a", 80), Signed: true, User: "u"}, "CONNECT a:80 HTTP/1.1\r\nHost: a:80\r\nProxy-Authorization: Basic dTo=\r\n\r\n"},
		{Ask{Target: at("a", 80), Signed: true, Pass: "p"}, "CONNECT a:80 HTTP/1.1\r\nHost: a:80\r\nProxy-Authorization: Basic OnA=\r\n\r\n"},
		{Ask{Target: at("a", 80), Signed: true, Pass: "::"}, "CONNECT a:80 HTTP/1.1\r\nHost: a:80\r\nProxy-Authorization: Basic Ojo6\r\n\r\n"},
		{Ask{Target: at("a", 80), Hops: true}, "CONNECT a:80 HTTP/1.1\r\nHost: a:80\r\nHop-Token:\r\n\r\n"},
		{Ask{Target: at("a", 80), Hops: true, Tokens: "x"}, "CONNECT a:80 HTTP/1.1\r\nHost: a:80\r\nHop-Token: x\r\n\r\n"},
		{Ask{Target: at("a", 80), Hops: true, Tokens: "No name; \t:"}, "CONNECT a:80 HTTP/1.1\r\nHost: a:80\r\nHop-Token: No name; \t:\r\n\r\n"},
	} {
		if b, e := Print(x.a); string(b) != x.want || e != api.OK {
			t.Errorf("%#v: %q %d, want %q", x.a, b, e, x.want)
		}
		prints(t, x.a)
	}
}

// P16.2: requests that can't be printed.
func TestPrintWrong(t *testing.T) {
	a := at("a", 80)
	for _, x := range []Ask{
		{}, {Target: at("", 80)}, {Target: at("a", 0)}, {Target: at("a", -1)}, {Target: at("a", 65536)}, {Target: at("A", 80)}, {Target: at("a.", 80)}, {Target: at("a.1", 80)}, {Target: at("a b", 80)}, {Target: at("a\r\n", 80)}, {Target: at(strings.Repeat("a", 41), 80)},
		{Target: v4("\x0a\x00\x00", 80)}, {Target: v4("10.0.0.255", 80)}, {Target: v4("\x0a\x00\x00\xff", 0)}, {Target: v6("::1", 80)}, {Target: v6(strings.Repeat("\x00", 16), 70000)}, {Target: api.Target{Port: 80}}, {Target: api.Target{Host: api.Host{Kind: 4, Text: "a"}, Port: 80}},
		{Signed: true, User: "u", Pass: "p", Hops: true, Tokens: "x"},
		{Target: a, User: "u"}, {Target: a, Pass: "p"}, {Target: a, User: "u", Pass: "p"}, {Target: a, User: "u:"}, {Target: a, User: "u", Hops: true, Tokens: "x"}, {Target: a, Pass: "p", Hops: true},
		{Target: a, Tokens: "x"}, {Target: a, Tokens: " "}, {Target: a, Signed: true, User: "u", Pass: "p", Tokens: "x"},
		{Target: a, Signed: true, User: ":"}, {Target: a, Signed: true, User: "u:"}, {Target: a, Signed: true, User: ":u"}, {Target: a, Signed: true, User: "u:v", Pass: "p"}, {Target: a, Signed: true, User: "u:v", Pass: "p", Hops: true, Tokens: "x"},
		{Target: a, Hops: true, Tokens: " "}, {Target: a, Hops: true, Tokens: " x"}, {Target: a, Hops: true, Tokens: "x "}, {Target: a, Hops: true, Tokens: "\tx"}, {Target: a, Hops: true, Tokens: "x\t"}, {Target: a, Hops: true, Tokens: "\n"}, {Target: a, Hops: true, Tokens: "\r"}, {Target: a, Hops: true, Tokens: "x\r\n"}, {Target: a, Hops: true, Tokens: "x\r\ny:"}, {Target: a, Hops: true, Tokens: "x\r\ny: z"}, {Target: a, Hops: true, Tokens: "x\r\n\r\n"}, {Target: a, Hops: true, Tokens: "\x00"}, {Target: a, Hops: true, Tokens: "\x7f"}, {Target: a, Hops: true, Tokens: "\u00e4"},
		{Target: a, Signed: true, Pass: strings.Repeat("p", 400)}, {Target: a, Signed: true, User: strings.Repeat("u", 400)}, {Target: a, Hops: true, Tokens: as(500)}, {Target: a, Signed: true, User: strings.Repeat("u", 150), Pass: strings.Repeat("p", 150), Hops: true, Tokens: as(100)}, {Target: a, Hops: true, Tokens: as(100000)},
	} {
		if b, e := Print(x); b != nil || e != api.ErrArg {
			t.Errorf("%#v: %q %d", x, b, e)
		}
		prints(t, x)
	}
}

// P16.2: all requests of a few parts, so that each part is with each other.
func TestPrintAll(t *testing.T) {
	all := []api.Target{{}, at("a", 0), at("a", 65536), at("A", 80), v4("\x01\x02\x03", 80)}
	for _, want := range targets {
		all = append(all, want)
	}
	for _, target := range all {
		for flags := range 4 {
			for _, user := range []string{"", "u", "u:", "\x00\xff", "user name"} {
				for _, pass := range []string{"", "p", ":", "\r\n"} {
					for _, tokens := range []string{"", "x", "x,y", " x", "x\r\ny: z", "x\n"} {
						prints(t, Ask{target, flags&1 > 0, user, pass, flags&2 > 0, tokens})
					}
				}
			}
		}
	}
	for s := range rows([]string{"a", ",", " ", "\t", "\r\n", "\r", "\n", "x: y", "\xff"}, 3) {
		prints(t, Ask{Target: at("a", 80), Hops: true, Tokens: s})
		prints(t, Ask{at("a", 80), true, s, s, true, "x"})
	}
}

// P16.2: each byte in each part of a request, at its beginning, within it, at its end, and alone.
func TestPrintEachByte(t *testing.T) {
	for c := range 256 {
		s := string([]byte{byte(c)})
		for _, part := range []string{s, s + "a", "a" + s, "a" + s + "b"} {
			prints(t, Ask{Target: at(part, 80)})
			prints(t, Ask{Target: at("a", 80), Signed: true, User: part})
			prints(t, Ask{Target: at("a", 80), Signed: true, Pass: part})
			prints(t, Ask{Target: at("a", 80), Signed: true, User: part, Pass: part})
			prints(t, Ask{Target: at("a", 80), Hops: true, Tokens: part})
			prints(t, Ask{at("a", 80), true, "u", part, true, part})
			prints(t, Ask{Target: at("a", 80), User: part})
			prints(t, Ask{Target: at("a", 80), Pass: part})
			prints(t, Ask{Target: at("a", 80), Tokens: part})
		}
	}
}

// P16.2: requests of each length about the greatest: the longest that can be printed has 512 bytes.
func TestPrintLong(t *testing.T) {
	lengths := map[int]bool{}
	for n := range 520 {
		for _, a := range []Ask{
			{Target: at("a", 80), Hops: true, Tokens: as(n)},
			{Target: at("a", 80), Signed: true, User: strings.Repeat("u", n)},
			{Target: at("a", 80), Signed: true, Pass: strings.Repeat("p", n)},
			{at("a.example", 443), true, "user", "pass", true, as(n)},
			{at("a.example", 443), true, strings.Repeat("u", n), ":", true, "x,y,z"},
			{v6(strings.Repeat("\xfe", 16), 65535), true, "", strings.Repeat("\xff", n), true, ""},
		} {
			prints(t, a)
			b, _ := Print(a)
			lengths[len(b)] = true
		}
	}
	if !lengths[511] || !lengths[512] || lengths[513] {
		t.Error("no request of 511 or 512 bytes, or one of 513")
	}
}

// P16.2: what Print returns is the caller's own.
func TestPrintOwn(t *testing.T) {
	a := Ask{at("a", 80), true, "u", "p:q", true, "x,y"}
	b, _ := Print(a)
	other, _ := Print(a)
	_ = append(b, "more"...)
	clear(b)
	if string(other) != first+"Host: a:80\r\nProxy-Authorization: Basic dTpwOnE=\r\nHop-Token: x,y\r\n\r\n" || a != (Ask{at("a", 80), true, "u", "p:q", true, "x,y"}) {
		t.Errorf("a change of what was printed reaches %q %#v", other, a)
	}
}

// P16.5: what was read is printed, if it fits, and read back as the same.
func TestRoundTrip(t *testing.T) {
	for _, b := range some() {
		a, _, e := Take([]byte(b))
		if e != api.OK {
			t.Fatalf("%q: %d", b, e)
		}
		prints(t, a)
	}
	for tokens := range rows([]string{"a", ",", " ", "\t", "~"}, 5) {
		a, _, e := Take([]byte(hostful + "Hop-Token:" + tokens + "\r\n\r\n"))
		if e != api.OK || !a.Hops || a.Tokens != strings.Trim(tokens, " \t") {
			t.Fatalf("%q: %#v %d", tokens, a, e)
		}
		prints(t, a)
		if _, e := Print(a); e != api.OK {
			t.Fatalf("%#v: %d", a, e)
		}
	}
}
