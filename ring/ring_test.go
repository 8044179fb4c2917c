package ring

import (
	"bytes"
	"math"
	"testing"

	"postilion/api"
)

// made returns an empty ring of the given size.
func made(t *testing.T, size int) *Ring {
	t.Helper()
	r, e := New(size)
	if e != api.OK || r == nil {
		t.Fatalf("New(%d): %v, %d", size, r, e)
	}
	return r
}

// turned returns an empty ring whose next byte lies first bytes behind the store's beginning.
func turned(t *testing.T, size, first int) *Ring {
	t.Helper()
	r := made(t, size)
	if n := r.Put(make([]byte, first)); n != first {
		t.Fatalf("Put of %d into size %d: %d", first, size, n)
	}
	if e := r.Skip(first); e != api.OK {
		t.Fatalf("Skip(%d): %d", first, e)
	}
	return r
}

// count returns n bytes: from, from+1, and so on.
func count(from, n int) []byte {
	b := make([]byte, n)
	for i := range b {
		b[i] = byte(from + i)
	}
	return b
}

// holds fails the test unless the ring holds just these bytes, by all that can be asked without a change.
func holds(t *testing.T, r *Ring, size int, want []byte) {
	t.Helper()
	if r.Size() != size || r.Len() != len(want) || r.Room() != size-len(want) {
		t.Fatalf("size %d, len %d, room %d; want %d, %d, %d", r.Size(), r.Len(), r.Room(), size, len(want), size-len(want))
	}
	if b := r.Peek(math.MaxInt); !bytes.Equal(b, want) {
		t.Fatalf("held: %v, want %v", b, want)
	}
}

// P1.1: the sizes that New takes, at both edges.
func TestNew(t *testing.T) {
	for _, size := range []int{1, 2, 4, 255, 256, 257, 4095, 4096} {
		holds(t, made(t, size), size, nil)
	}
	for _, size := range []int{0, -1, 4097, 4098, 8192, math.MinInt, math.MaxInt} {
		if r, e := New(size); r != nil || e != api.ErrArg {
			t.Errorf("New(%d): %v, %d", size, r, e)
		}
	}
}

// P1.1: rings of one size are not one ring.
func TestNewIsFresh(t *testing.T) {
	a, b := made(t, 3), made(t, 3)
	a.Put([]byte{1, 2})
	b.Put([]byte{3})
	holds(t, a, 3, []byte{1, 2})
	holds(t, b, 3, []byte{3})
}

// P1.1: the numbers follow each Put, Take and Skip.
func TestNumbers(t *testing.T) {
	r := made(t, 5)
	r.Put([]byte{1, 2, 3})
	holds(t, r, 5, []byte{1, 2, 3})
	r.Take(1)
	holds(t, r, 5, []byte{2, 3})
	r.Skip(1)
	holds(t, r, 5, []byte{3})
	r.Put([]byte{4, 5, 6, 7, 8})
	holds(t, r, 5, []byte{3, 4, 5, 6, 7})
	r.Skip(5)
	holds(t, r, 5, nil)
}

// P1.2: pieces that are empty, that fit, that just fit and that do not, from every place of the store.
func TestPut(t *testing.T) {
	const size = 6
	for first := range size {
		for held := range size + 1 {
			for more := range size + 3 {
				r := turned(t, size, first)
				r.Put(count(1, held))
				fit := min(more, size-held)
				if n := r.Put(count(1+held, more)); n != fit {
					t.Fatalf("place %d, %d held: Put of %d: %d, want %d", first, held, more, n, fit)
				}
				holds(t, r, size, count(1, held+fit))
			}
		}
	}
}

// P1.2: nil and empty pieces, into a ring with room and into a full one.
func TestPutNothing(t *testing.T) {
	r := made(t, 2)
	for _, want := range [][]byte{nil, {1, 2}} {
		r.Put(want)
		if r.Put(nil) != 0 || r.Put([]byte{}) != 0 {
			t.Errorf("nothing was put, and counted")
		}
		holds(t, r, 2, want)
	}
}

// P1.2: the ring has bytes of its own; what is passed is neither kept nor changed.
func TestPutCopies(t *testing.T) {
	r := turned(t, 4, 3)
	b := []byte{1, 2, 3, 4, 5}
	r.Put(b)
	b[0], b[3] = 9, 9
	holds(t, r, 4, []byte{1, 2, 3, 4})
	r.Skip(2)
	r.Put([]byte{6, 7})
	if !bytes.Equal(b, []byte{9, 2, 3, 9, 5}) {
		t.Errorf("what was passed is changed: %v", b)
	}
}

// P1.3: Peek and Take of every number, below 0 and above what is held too, from every place of the store.
func TestPeekTake(t *testing.T) {
	const size = 5
	for first := range size {
		for held := range size + 1 {
			for _, n := range []int{math.MinInt, -2, -1, 0, 1, 2, 3, 4, 5, 6, 7, math.MaxInt} {
				r := turned(t, size, first)
				all := count(1, held)
				r.Put(all)
				k := min(max(n, 0), held)
				if b := r.Peek(n); !bytes.Equal(b, all[:k]) {
					t.Fatalf("place %d: Peek(%d) of %v: %v", first, n, all, b)
				}
				holds(t, r, size, all)
				if b := r.Take(n); !bytes.Equal(b, all[:k]) {
					t.Fatalf("place %d: Take(%d) of %v: %v", first, n, all, b)
				}
				holds(t, r, size, all[k:])
			}
		}
	}
}

// P1.3: Skip of every number; a refused one changes nothing.
func TestSkip(t *testing.T) {
	const size = 5
	for first := range size {
		for held := range size + 1 {
			for _, n := range []int{math.MinInt, -2, -1, 0, 1, 2, 3, 4, 5, 6, 7, math.MaxInt} {
				r := turned(t, size, first)
				all := count(1, held)
				r.Put(all)
				want, rest := api.ErrArg, all
				if n >= 0 && n <= held {
					want, rest = api.OK, all[n:]
				}
				if e := r.Skip(n); e != want {
					t.Fatalf("place %d: Skip(%d) of %v: %d, want %d", first, n, all, e, want)
				}
				holds(t, r, size, rest)
				r.Put(count(1+held, size))
				holds(t, r, size, append(bytes.Clone(rest), count(1+held, size-len(rest))...))
			}
		}
	}
}

// P1.3: what is returned belongs to the caller: to write into it, or to append to it, changes no ring and no other answer.
func TestAnswersAreCopies(t *testing.T) {
	r := turned(t, 4, 2)
	r.Put([]byte{1, 2, 3, 4})
	a, b := r.Peek(2), r.Peek(4)
	a[0], a[1] = 9, 9
	_ = append(a, 9, 9)
	b[2], b[3] = 9, 9
	holds(t, r, 4, []byte{1, 2, 3, 4})
	c := r.Take(3)
	c[0] = 9
	_ = append(c, 9)
	holds(t, r, 4, []byte{4})
	r.Put([]byte{5, 6, 7})
	if !bytes.Equal(c, []byte{9, 2, 3}) {
		t.Errorf("what was taken is changed: %v", c)
	}
}

// P1.1 to P1.3: a nil *Ring, and Rings that New did not return: one of no value, and a copy.
func TestNotMade(t *testing.T) {
	r := made(t, 4)
	r.Put([]byte{1, 2})
	copied := *r
	for i, x := range []*Ring{nil, {}, new(Ring), &copied} {
		if x.Len() != 0 || x.Room() != 0 || x.Size() != 0 {
			t.Errorf("%d: len %d, room %d, size %d", i, x.Len(), x.Room(), x.Size())
		}
		for _, b := range [][]byte{nil, {}, {7}, count(1, 5000)} {
			if n := x.Put(b); n != 0 {
				t.Errorf("%d: Put of %d: %d", i, len(b), n)
			}
		}
		for _, n := range []int{math.MinInt, -1, 0, 1, 4, math.MaxInt} {
			if len(x.Peek(n)) != 0 || len(x.Take(n)) != 0 {
				t.Errorf("%d: bytes of no ring, by %d", i, n)
			}
			if e := x.Skip(n); e != api.ErrNil {
				t.Errorf("%d: Skip(%d): %d", i, n, e)
			}
		}
		if x.Len() != 0 || x.Room() != 0 || x.Size() != 0 {
			t.Errorf("%d: there is a ring now", i)
		}
	}
	holds(t, r, 4, []byte{1, 2})
}

// history is a ring, what it took of all that was put, and what came out of it, by whichever call.
type history struct {
	r       *Ring
	size    int
	put     []byte
	out     int // so many of put are out
	counter int
}

// step does one of the things that change a ring. The first bytes of put that are not out are what is held.
func (h *history) step(t *testing.T, what, n int) {
	t.Helper()
	held := h.put[h.out:]
	switch what {
	case 0:
		b := count(h.counter, n)
		h.counter += n
		k := h.r.Put(b)
		if k != min(n, h.size-len(held)) {
			t.Fatalf("Put of %d with %d of %d held: %d", n, len(held), h.size, k)
		}
		h.put = append(h.put, b[:k]...)
	case 1:
		b := h.r.Take(n)
		if !bytes.Equal(b, held[:min(n, len(held))]) {
			t.Fatalf("Take(%d) of %v: %v", n, held, b)
		}
		h.out += len(b)
	case 2:
		if e := h.r.Skip(n); (e == api.OK) != (n <= len(held)) {
			t.Fatalf("Skip(%d) of %v: %d", n, held, e)
		} else if e == api.OK {
			h.out += n
		}
	}
	holds(t, h.r, h.size, h.put[h.out:])
}

// P1.4, P1.5: every row of five steps, of each kind and number, with rings of small sizes.
func TestOrderAndBoundsOfAllShortRows(t *testing.T) {
	const steps, kinds = 5, 3
	for size := 1; size <= 3; size++ {
		numbers := size + 2
		rows := 1
		for range steps {
			rows *= kinds * numbers
		}
		for row := range rows {
			h := &history{r: made(t, size), size: size, counter: 1}
			for left, i := row, 0; i < steps; i++ {
				h.step(t, left%kinds, left/kinds%numbers)
				left /= kinds * numbers
			}
		}
	}
}

// P1.4, P1.5: a long row of steps, with rings of which the greatest is one; the numbers come from a rule of their own, so each run is the same.
func TestOrderAndBoundsOfLongRows(t *testing.T) {
	for _, size := range []int{1, 2, 7, 256, 4095, 4096} {
		h := &history{r: made(t, size), size: size}
		state := uint32(size)
		for range 3000 {
			state = state*1664525 + 1013904223
			h.step(t, int(state>>16)%3, int(state>>18)%(size+2))
		}
		if len(h.put) < 3*size {
			t.Fatalf("size %d: only %d bytes were put", size, len(h.put))
		}
	}
}

// P1.5: what did not fit does not come to light when there is room again.
func TestNoTrace(t *testing.T) {
	r := made(t, 3)
	if n := r.Put([]byte{1, 2, 3, 9, 9, 9}); n != 3 {
		t.Fatalf("%d", n)
	}
	if n := r.Put([]byte{9}); n != 0 {
		t.Fatalf("%d", n)
	}
	r.Take(2)
	holds(t, r, 3, []byte{3})
	r.Put([]byte{4})
	holds(t, r, 3, []byte{3, 4})
	r.Take(3)
	holds(t, r, 3, nil)
}

// The chapter's example.
func TestExample(t *testing.T) {
	r := made(t, 4)
	if n := r.Put([]byte{1, 2, 3}); n != 3 {
		t.Errorf("Put: %d", n)
	}
	if b := r.Take(2); !bytes.Equal(b, []byte{1, 2}) {
		t.Errorf("Take: %v", b)
	}
	if n := r.Put([]byte{4, 5, 6, 7}); n != 3 {
		t.Errorf("Put: %d", n)
	}
	if b := r.Peek(9); !bytes.Equal(b, []byte{3, 4, 5, 6}) {
		t.Errorf("Peek: %v", b)
	}
	if n := r.Room(); n != 0 {
		t.Errorf("Room: %d", n)
	}
	if e := r.Skip(5); e != api.ErrArg {
		t.Errorf("Skip: %d", e)
	}
}

// A piece that is enumerated reaches nothing behind it, whether the bytes go round the end or not.
func TestPieces(t *testing.T) {
	for first := range 4 {
		r := turned(t, 4, first)
		r.Put([]byte{1, 2, 3})
		var all []byte
		for piece := range r.pieces(1, 1) {
			if len(piece) != cap(piece) {
				t.Errorf("place %d: %d bytes, and %d more within reach", first, len(piece), cap(piece)-len(piece))
			}
			all = append(all, piece...)
		}
		if !bytes.Equal(all, []byte{2}) {
			t.Errorf("place %d: %v", first, all)
		}
	}
}

// Whoever leaves the range early is asked no more.
func TestPiecesLeftEarly(t *testing.T) {
	r := turned(t, 4, 3)
	r.Put([]byte{1, 2, 3})
	for piece := range r.pieces(0, 3) {
		if !bytes.Equal(piece, []byte{1}) {
			t.Errorf("%v", piece)
		}
		break
	}
}
