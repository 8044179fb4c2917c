package ask

import (
	"strings"

	"postilion/api"
	"postilion/host"
)

// reader reads bytes from their beginning on. After a failure it reads nothing more, and what its methods return is zero.
type reader struct {
	left   []byte // not yet read
	read   int    // so many bytes have been read
	failed api.Errno
}

// fail notes why reading fails. The first failure stays, since it is that of the first byte that can't be there.
func (r *reader) fail(e api.Errno) {
	if r.failed == api.OK {
		r.failed = e
	}
}

// text reads the next n bytes.
func (r *reader) text(n int) string {
	if n > len(r.left) {
		r.fail(api.ErrMore)
	}
	if r.failed != api.OK {
		return ""
	}
	s := string(r.left[:n])
	r.left = r.left[n:]
	r.read += n
	return s
}

// next reads the next byte.
func (r *reader) next() byte {
	s := r.text(1)
	if s == "" {
		return 0
	}
	return s[0]
}

// only reads a byte that must be c; another one fails with the error.
func (r *reader) only(c byte, e api.Errno) {
	if r.next() != c {
		r.fail(e)
	}
}

// address reads an address up to its host: of which kind this is, and of how many bytes. A byte with which no address begins fails with the error.
func (r *reader) address(e api.Errno) (kind uint8, size int) {
	switch r.next() {
	case addressV4:
		return api.HkV4, sizeV4
	case addressV6:
		return api.HkV6, sizeV6
	case addressName:
		return api.HkName, int(r.next())
	}
	r.fail(e)
	return api.HkNone, 0
}

// port reads a port.
func (r *reader) port() int {
	high := int(r.next())
	return high<<8 | int(r.next())
}

// request is a request that is read.
type request struct {
	reader
	target api.Target
}

// take reads the request.
func (q *request) take() {
	q.only(version, api.ErrForm)
	q.only(connect, api.ErrMethod)
	q.only(reserved, api.ErrForm)
	kind, size := q.address(api.ErrType)
	q.target.Host.Kind = kind
	switch kind {
	case api.HkV4, api.HkV6: // any bytes are an address
		q.target.Host.Text = q.text(size)
	case api.HkName:
		q.target.Host.Text = q.name(size)
	}
	q.target.Port = q.port()
	if q.target.Port == 0 {
		q.fail(api.ErrForm)
	}
}

// name reads a name of that size, and returns it in lower case. It fails as soon as no name can begin with the bytes that are there: letters, which may stand anywhere in a name, make one of them if any bytes do. A size that no name has fails with that too.
func (q *request) name(size int) string {
	there := min(size, len(q.left))
	h, e := host.Parse(string(q.left[:there]) + strings.Repeat("a", size-there))
	if e != api.OK || h.Kind != api.HkName {
		q.fail(api.ErrForm)
	}
	q.text(size)
	return h.Text
}

// reply is a reply that is read.
type reply struct {
	reader
	number uint8
}

// take reads the reply.
func (p *reply) take() {
	p.only(version, api.ErrForm)
	p.number = p.next()
	p.only(reserved, api.ErrForm)
	_, size := p.address(api.ErrForm)
	p.text(size) // any bytes: nobody asks for the address
	p.port()
}
