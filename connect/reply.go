package connect

import (
	"strconv"
	"strings"

	"postilion/api"
	"postilion/head"
)

const (
	olderVersion = "HTTP/1.0" // proxies may answer with it

	statusDigits   = 3
	statusFrom     = 100
	statusTo       = 599
	allowField     = "Allow"
	challengeField = "Proxy-Authenticate"
	challenge      = basic + ` realm="postilion"`
	lastingField   = "Connection"
	lasting        = "close"
)

// reason is what a client is told of a code.
type reason struct {
	status int
	text   string
}

// reasons are those of the codes.
var reasons = [...]reason{
	api.CdOK:     {200, "Connection established"},
	api.CdBad:    {400, "Bad Request"},
	api.CdAuth:   {407, "Proxy Authentication Required"},
	api.CdMethod: {405, "Method Not Allowed"},
	api.CdType:   {400, "Bad Request"},
	api.CdLong:   {431, "Request Header Fields Too Large"},
	api.CdLate:   {408, "Request Timeout"},
	api.CdBusy:   {503, "Service Unavailable"},
	api.CdLoop:   {508, "Loop Detected"},
	api.CdRule:   {403, "Forbidden"},
	api.CdQuota:  {429, "Too Many Requests"},
	api.CdNoWay:  {503, "Service Unavailable"},
	api.CdReach:  {502, "Bad Gateway"},
	api.CdTime:   {504, "Gateway Timeout"},
}

// reasonOf returns the reason of the code.
func reasonOf(code uint8) reason {
	if int(code) >= len(reasons) {
		return reasons[api.CdBad]
	}
	return reasons[code]
}

// Status returns the status of the response for the code: P16.3.
func Status(code uint8) int { return reasonOf(code).status }

// Reply returns the response for the code: P16.3.
func Reply(code uint8) []byte {
	r := reasonOf(code)
	h := head.Head{
		Line:   version + " " + strconv.Itoa(r.status) + " " + r.text,
		Fields: replyFields(code),
	}
	b, _ := head.Print(h) // each line and each field of the table can be printed
	return b
}

// replyFields returns the fields of the response for the code.
func replyFields(code uint8) [][2]string {
	var fields [][2]string
	switch code {
	case api.CdOK: // what follows is the tunnel, of no size
		return nil
	case api.CdMethod:
		fields = append(fields, [2]string{allowField, method})
	case api.CdAuth:
		fields = append(fields, [2]string{challengeField, challenge})
	}
	return append(fields, [2]string{sizeField, "0"}, [2]string{lastingField, lasting})
}

// TakeReply reads the response with which b begins: P16.4.
func TakeReply(b []byte) (status, n int, e api.Errno) {
	h, n, e := head.Take(b)
	if e != api.OK {
		return 0, 0, e
	}
	status, ok := statusOf(h.Line)
	if !ok {
		return 0, 0, api.ErrForm
	}
	return status, n, api.OK
}

// statusOf returns the status that stands in a response's first line.
func statusOf(line string) (int, bool) {
	first, rest, _ := strings.Cut(line, " ")
	digits, _, _ := strings.Cut(rest, " ")
	if first != version && first != olderVersion || len(digits) != statusDigits {
		return 0, false
	}
	status := 0
	for i := range len(digits) { // by hand: strconv takes signs, too
		c := digits[i]
		if c < '0' || c > '9' {
			return 0, false
		}
		status = status*10 + int(c-'0')
	}
	if status < statusFrom || status > statusTo {
		return 0, false
	}
	return status, true
}
