package head

import (
	"strings"

	"postilion/api"
)

// taker reads a head byte by byte. Its states are methods that are passed the next byte, and say which state follows it.
type taker struct {
	next func(t *taker, c byte) api.Errno // the state; nil behind the head's last byte
	head Head
	name string // of the field whose value is being read
	part []byte // what has been read of the first line, of a name or of a value
}

// keep adds the byte to the part that is being read, and goes to the state.
func (t *taker) keep(c byte, next func(*taker, byte) api.Errno) api.Errno {
	t.part = append(t.part, c)
	t.next = next
	return api.OK
}

// cut ends the part that is being read, goes to the state, and returns the part.
func (t *taker) cut(next func(*taker, byte) api.Errno) string {
	s := string(t.part)
	t.part = t.part[:0]
	t.next = next
	return s
}

// first is the state ahead of the first line, which can't be empty.
func (t *taker) first(c byte) api.Errno {
	if !mayLine(c) {
		return api.ErrForm
	}
	return t.keep(c, (*taker).within)
}

// within is the state within the first line.
func (t *taker) within(c byte) api.Errno {
	switch {
	case mayLine(c):
		return t.keep(c, (*taker).within)
	case c == lineEnd[0]:
		t.head.Line = t.cut((*taker).half)
		return api.OK
	}
	return api.ErrForm
}

// half is the state between the two bytes that end a line which is not the last one.
func (t *taker) half(c byte) api.Errno {
	if c != lineEnd[1] {
		return api.ErrForm
	}
	t.next = (*taker).begin
	return api.OK
}

// begin is the state at the beginning of a line that is not the first one.
func (t *taker) begin(c byte) api.Errno {
	switch {
	case c == lineEnd[0]:
		t.next = (*taker).last
		return api.OK
	case !mayName(c):
		return api.ErrForm
	case len(t.head.Fields) == api.MaxFields:
		return api.ErrLong
	}
	return t.keep(lower(c), (*taker).named)
}

// named is the state within a field's name.
func (t *taker) named(c byte) api.Errno {
	switch {
	case mayName(c):
		return t.keep(lower(c), (*taker).named)
	case c == separator:
		t.name = t.cut((*taker).valued)
		return api.OK
	}
	return api.ErrForm
}

// valued is the state within a field's value, and in the white space around it.
func (t *taker) valued(c byte) api.Errno {
	switch {
	case mayLine(c) || c == '\t':
		return t.keep(c, (*taker).valued)
	case c == lineEnd[0]:
		value := strings.Trim(t.cut((*taker).half), white)
		t.head.Fields = append(t.head.Fields, [2]string{t.name, value})
		return api.OK
	}
	return api.ErrForm
}

// last is the state ahead of the head's last byte.
func (t *taker) last(c byte) api.Errno {
	if c != lineEnd[1] {
		return api.ErrForm
	}
	t.next = nil
	return api.OK
}
