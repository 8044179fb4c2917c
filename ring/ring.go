// Package ring is layer 1: see shared/doc/01-ring.md.
package ring

import (
	"iter"

	"postilion/api"
)

// The greatest size is the layer's own: what the rings of a relay may have is less.
const maxSize = 4096

// Ring is a bounded first-in, first-out buffer of bytes. Those held begin at the place first of the store, and may go round its end.
type Ring struct {
	self  *Ring // a copy would share the store, and so spoil the bytes of the ring that New returned
	store []byte
	first int
	held  int
}

// New returns an empty ring of the given size: P1.1.
func New(size int) (*Ring, api.Errno) {
	if size < 1 || size > maxSize {
		return nil, api.ErrArg
	}
	r := &Ring{store: make([]byte, size)}
	r.self = r
	return r, api.OK
}

// made reports whether r is a ring that New returned.
func (r *Ring) made() bool {
	return r != nil && r.self == r
}

// pieces enumerates, in order, the parts of the store in which n bytes lie, the first of them skip bytes behind the first one held. There are two, since the bytes may go round the end; either may be empty.
func (r *Ring) pieces(skip, n int) iter.Seq[[]byte] {
	from := (r.first + skip) % len(r.store)
	to := min(from+n, len(r.store))
	rest := n - (to - from)
	return func(yield func([]byte) bool) {
		// The third index keeps whoever has a piece from reaching the bytes behind it.
		if yield(r.store[from:to:to]) {
			yield(r.store[:rest:rest])
		}
	}
}

// Put appends as many of the first bytes of b as fit, and returns their number: P1.2.
func (r *Ring) Put(b []byte) int {
	n := min(len(b), r.Room())
	if n == 0 { // so it is with a ring that New did not return: it has no store to go round
		return 0
	}
	left := b[:n]
	for piece := range r.pieces(r.held, n) {
		left = left[copy(piece, left):]
	}
	r.held += n
	return n
}

// Peek returns the first n bytes held, or all if fewer are held: P1.3.
func (r *Ring) Peek(n int) []byte {
	n = min(n, r.Len())
	if n <= 0 {
		return nil
	}
	b := make([]byte, 0, n)
	for piece := range r.pieces(0, n) {
		b = append(b, piece...)
	}
	return b
}

// Take returns what Peek returns, and removes it: P1.3.
func (r *Ring) Take(n int) []byte {
	b := r.Peek(n)
	r.Skip(len(b))
	return b
}

// Skip removes the first n bytes: P1.3.
func (r *Ring) Skip(n int) api.Errno {
	if !r.made() {
		return api.ErrNil
	}
	if n < 0 || n > r.held {
		return api.ErrArg
	}
	r.first = (r.first + n) % len(r.store)
	r.held -= n
	return api.OK
}

// Len returns the number of bytes held: P1.1.
func (r *Ring) Len() int {
	if !r.made() {
		return 0
	}
	return r.held
}

// Room returns the number of bytes that still fit: P1.1.
func (r *Ring) Room() int {
	return r.Size() - r.Len()
}

// Size returns the size: P1.1.
func (r *Ring) Size() int {
	if !r.made() {
		return 0
	}
	return len(r.store)
}
