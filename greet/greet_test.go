package greet

import (
	"bytes"
	"slices"
	"testing"

	"postilion/api"
)

// rows enumerates all rows of at most so many of the bytes.
func rows(of []byte, most int) func(yield func([]byte) bool) {
	return func(yield func([]byte) bool) {
		row := [][]byte{{}}
		for range most + 1 {
			var longer [][]byte
			for _, b := range row {
				if !yield(b) {
					return
				}
				for _, c := range of {
					longer = append(longer, append(slices.Clip(b), c))
				}
			}
			row = longer
		}
	}
}

// edges are bytes at the edges of what the chapter names, and a few beside them.
var edges = []byte{0, 1, 2, 3, 4, 5, 6, 254, 255}

// list returns so many methods, each other than the one before it, none of them 2, others for another first one.
func list(n, first int) []byte {
	methods := make([]byte, n)
	for i := range methods {
		methods[i] = byte(3 + (first+i)%250)
	}
	return methods
}

// greets returns the greeting with these methods.
func greets(methods []byte) []byte {
	return append([]byte{5, byte(len(methods))}, methods...)
}

// isGreeting says whether all of b is one greeting.
func isGreeting(b []byte) bool {
	return len(b) >= 3 && b[0] == 5 && b[1] >= 1 && len(b)-2 == int(b[1])
}

// isSelection says whether all of b is one method selection.
func isSelection(b []byte) bool {
	return len(b) == 2 && b[0] == 5
}

// begins returns the length of what b begins with, and 0 if it begins with none.
func begins(b []byte, is func([]byte) bool) int {
	for n := range len(b) + 1 {
		if is(b[:n]) {
			return n
		}
	}
	return 0
}

// longest is a greeting of the greatest number of methods.
var longest = greets(make([]byte, 255))

// extends says whether more bytes make one of b. If any do, then so do bytes of longest from there on: all of them behind a first byte, and behind a number of methods as many as it says.
func extends(b []byte, is func([]byte) bool) bool {
	if len(b) >= len(longest) {
		return false
	}
	all := slices.Concat(b, longest[len(b):])
	for n := len(b) + 1; n <= len(all); n++ {
		if is(all[:n]) {
			return true
		}
	}
	return false
}

// wanted says what is read from b: so many bytes, or which error.
func wanted(b []byte, is func([]byte) bool) (int, api.Errno) {
	switch n := begins(b, is); {
	case n > 0:
		return n, api.OK
	case extends(b, is):
		return 0, api.ErrMore
	}
	return 0, api.ErrForm
}

// takes fails the test unless Take reads from b what the chapter says, and leaves b as it was.
func takes(t *testing.T, b []byte) {
	t.Helper()
	before := bytes.Clone(b)
	methods, n, e := Take(b)
	size, err := wanted(b, isGreeting)
	var want []byte
	if size > 0 {
		want = before[2:size]
	}
	if !bytes.Equal(methods, want) || n != size || e != err || e != api.OK && methods != nil {
		t.Fatalf("%v: %v %d %d, want %v %d %d", before, methods, n, e, want, size, err)
	}
	if !bytes.Equal(b, before) {
		t.Fatalf("%v became %v", before, b)
	}
}

// selects fails the test unless TakeAnswer reads from b what the chapter says, and leaves b as it was.
func selects(t *testing.T, b []byte) {
	t.Helper()
	before := bytes.Clone(b)
	method, n, e := TakeAnswer(b)
	size, err := wanted(b, isSelection)
	var want uint8
	if size > 0 {
		want = before[1]
	}
	if method != want || n != size || e != err {
		t.Fatalf("%v: %d %d %d, want %d %d %d", before, method, n, e, want, size, err)
	}
	if !bytes.Equal(b, before) {
		t.Fatalf("%v became %v", before, b)
	}
}

// P12.1 and the section 'Examples': greetings, their proper prefixes, and bytes that can't become one.
func TestTake(t *testing.T) {
	for _, x := range []struct {
		b, methods []byte
		n          int
		e          api.Errno
	}{
		{[]byte{5, 2, 0, 2, 9}, []byte{0, 2}, 4, api.OK},
		{[]byte{5, 2, 0, 2}, []byte{0, 2}, 4, api.OK},
		{[]byte{5, 1, 2}, []byte{2}, 3, api.OK},
		{[]byte{5, 1, 0}, []byte{0}, 3, api.OK},
		{[]byte{5, 1, 255}, []byte{255}, 3, api.OK},
		{[]byte{5, 1, 5, 5, 1, 2}, []byte{5}, 3, api.OK},
		{[]byte{5, 3, 2, 1, 0}, []byte{2, 1, 0}, 5, api.OK},
		{[]byte{5, 3, 2, 2, 2}, []byte{2, 2, 2}, 5, api.OK},
		{[]byte{5, 2, 5, 0, 0, 0, 0}, []byte{5, 0}, 4, api.OK},
		{nil, nil, 0, api.ErrMore},
		{[]byte{}, nil, 0, api.ErrMore},
		{[]byte{5}, nil, 0, api.ErrMore},
		{[]byte{5, 1}, nil, 0, api.ErrMore},
		{[]byte{5, 2}, nil, 0, api.ErrMore},
		{[]byte{5, 2, 2}, nil, 0, api.ErrMore},
		{[]byte{5, 255}, nil, 0, api.ErrMore},
		{[]byte{5, 255, 2}, nil, 0, api.ErrMore},
		{[]byte{4}, nil, 0, api.ErrForm},
		{[]byte{6}, nil, 0, api.ErrForm},
		{[]byte{0}, nil, 0, api.ErrForm},
		{[]byte{255}, nil, 0, api.ErrForm},
		{[]byte{'C'}, nil, 0, api.ErrForm},
		{[]byte{4, 1, 2}, nil, 0, api.ErrForm},
		{[]byte{6, 1, 2}, nil, 0, api.ErrForm},
		{[]byte{4, 0}, nil, 0, api.ErrForm},
		{[]byte{5, 0}, nil, 0, api.ErrForm},
		{[]byte{5, 0, 0}, nil, 0, api.ErrForm},
		{[]byte{5, 0, 2}, nil, 0, api.ErrForm},
		{[]byte{5, 0, 5, 1, 2}, nil, 0, api.ErrForm},
		{[]byte{4, 5, 1, 2}, nil, 0, api.ErrForm},
	} {
		if methods, n, e := Take(x.b); !bytes.Equal(methods, x.methods) || n != x.n || e != x.e || e != api.OK && methods != nil {
			t.Errorf("%v: %v %d %d, want %v %d %d", x.b, methods, n, e, x.methods, x.n, x.e)
		}
		takes(t, x.b)
	}
}

// P12.1: which error it is for each first byte, alone, ahead of each number of methods, and ahead of all that a greeting has.
func TestTakeEachFirstByte(t *testing.T) {
	for c := range 256 {
		takes(t, []byte{byte(c)})
		takes(t, append([]byte{byte(c), 255}, list(255, c)...))
		for n := range 256 {
			takes(t, []byte{byte(c), byte(n)})
			takes(t, []byte{byte(c), byte(n), 2})
			takes(t, []byte{byte(c), byte(n), 2, 5})
		}
		if _, _, e := Take([]byte{byte(c)}); c == 5 && e != api.ErrMore || c != 5 && e != api.ErrForm {
			t.Errorf("%d: %d", c, e)
		}
	}
}

// P12.1: each number of methods, with as many bytes as it says, fewer, and more.
func TestTakeEachNumber(t *testing.T) {
	for number := range 256 {
		for n := range 260 {
			takes(t, append([]byte{5, byte(number)}, list(n, number)...))
		}
	}
}

// P12.1: 0, 1, 2 and 255 methods, by hand: all are there, one is missing, and bytes stand behind them.
func TestTakeNumbers(t *testing.T) {
	for _, n := range []int{1, 2, 254, 255} {
		want := list(n, 7)
		b := greets(want)
		if methods, size, e := Take(b); !bytes.Equal(methods, want) || size != n+2 || e != api.OK {
			t.Errorf("%d methods: %v %d %d", n, methods, size, e)
		}
		if methods, size, e := Take(b[:n+1]); methods != nil || size != 0 || e != api.ErrMore {
			t.Errorf("%d methods without the last one: %v %d %d", n, methods, size, e)
		}
		for _, more := range [][]byte{{2}, {5, 1, 2}, list(300, 1)} {
			if methods, size, e := Take(slices.Concat(b, more)); !bytes.Equal(methods, want) || size != n+2 || e != api.OK {
				t.Errorf("%d methods and %d bytes: %v %d %d", n, len(more), methods, size, e)
			}
		}
	}
	for n := range 4 {
		if methods, size, e := Take(append([]byte{5, 0}, list(n, 0)...)); methods != nil || size != 0 || e != api.ErrForm {
			t.Errorf("no methods and %d bytes: %v %d %d", n, methods, size, e)
		}
	}
}

// P12.1: each byte as a method, at each place.
func TestTakeEachMethod(t *testing.T) {
	for _, n := range []int{1, 2, 3, 8, 255} {
		for place := range n {
			for c := range 256 {
				want := list(n, c)
				want[place] = byte(c)
				if methods, size, e := Take(greets(want)); !bytes.Equal(methods, want) || size != n+2 || e != api.OK {
					t.Fatalf("%d as method %d of %d: %v %d %d", c, place, n, methods, size, e)
				}
			}
		}
	}
}

// P12.1: all short rows of the bytes at the edges.
func TestTakeAllShort(t *testing.T) {
	for b := range rows(edges, 5) {
		takes(t, b)
	}
}

// P12.1: what Take returns is the caller's own, with all the memory behind it, and does not follow a later change of the input.
func TestTakeOwn(t *testing.T) {
	for _, n := range []int{1, 2, 8, 255} {
		want := list(n, 9)
		b := append(greets(want), 70, 71, 72, 73)
		before := bytes.Clone(b)
		methods, size, _ := Take(b)
		other, _, _ := Take(b)
		_ = append(methods, 80, 81, 82)
		for i := range methods {
			methods[i] = 2
		}
		if !bytes.Equal(b, before) || !bytes.Equal(other, want) {
			t.Errorf("%d methods: a change of what is returned reaches %v, %v", n, b, other)
		}
		clear(b)
		if !bytes.Equal(other, want) || size != n+2 {
			t.Errorf("%d methods: a change of the input reaches %v", n, other)
		}
	}
}

// P12.2: lists with 2 at their beginning, in their midst, at their end, and without it.
func TestHas(t *testing.T) {
	for _, x := range []struct {
		methods []byte
		want    bool
	}{
		{nil, false},
		{[]byte{}, false},
		{[]byte{2}, true},
		{[]byte{0}, false},
		{[]byte{1}, false},
		{[]byte{3}, false},
		{[]byte{5}, false},
		{[]byte{254}, false},
		{[]byte{255}, false},
		{[]byte{2, 0, 1}, true},
		{[]byte{0, 2, 1}, true},
		{[]byte{0, 1, 2}, true},
		{[]byte{0, 1, 3}, false},
		{[]byte{2, 2}, true},
		{[]byte{0, 2}, true},
		{[]byte{2, 0}, true},
		{[]byte{0, 0}, false},
		{[]byte{1, 1}, false},
		{[]byte{18, 34, 66, 130}, false},
	} {
		if Has(x.methods) != x.want {
			t.Errorf("%v: %v", x.methods, !x.want)
		}
	}
}

// P12.2: each method alone; 2 at each place of lists of each length, beyond those of greetings too; and those lists without it.
func TestHasEachPlace(t *testing.T) {
	for c := range 256 {
		if Has([]byte{byte(c)}) != (c == 2) {
			t.Errorf("%d: %v", c, c != 2)
		}
	}
	for n := range 300 {
		methods := list(n, n)
		if Has(methods) {
			t.Fatalf("%v", methods)
		}
		for place := range n {
			methods = list(n, n)
			methods[place] = 2
			before := bytes.Clone(methods)
			if !Has(methods) || !bytes.Equal(methods, before) {
				t.Fatalf("2 at place %d of %d: %v", place, n, methods)
			}
		}
	}
}

// P12.2: all short lists of the methods at the edges, as Take reads them, too.
func TestHasAllShort(t *testing.T) {
	for methods := range rows(edges, 5) {
		want := false
		for _, c := range methods {
			want = want || c == 2
		}
		if Has(methods) != want {
			t.Fatalf("%v: %v", methods, !want)
		}
		if read, _, e := Take(greets(methods)); Has(read) != want || (e == api.OK) != (len(methods) > 0) {
			t.Fatalf("%v: %v %d", methods, read, e)
		}
	}
}

// P12.2: the greeting of the one method 2, which is read as such, and is the caller's own.
func TestGreeting(t *testing.T) {
	for range 3 {
		b := Greeting()
		if !bytes.Equal(b, []byte{5, 1, 2}) {
			t.Fatalf("%v", b)
		}
		methods, n, e := Take(append(bytes.Clone(b), 1))
		if !bytes.Equal(methods, []byte{2}) || n != 3 || e != api.OK || !Has(methods) {
			t.Fatalf("%v %d %d", methods, n, e)
		}
		other := Greeting()
		clear(b)
		if !bytes.Equal(other, []byte{5, 1, 2}) {
			t.Fatalf("a change of one greeting reaches %v", other)
		}
	}
}

// P12.3: both selections, which are read as such, and are the caller's own.
func TestAnswer(t *testing.T) {
	for range 3 {
		for ok, method := range map[bool]uint8{true: 2, false: 255} {
			b := Answer(ok)
			if !bytes.Equal(b, []byte{5, method}) {
				t.Fatalf("%v: %v", ok, b)
			}
			if read, n, e := TakeAnswer(append(bytes.Clone(b), 1)); read != method || n != 2 || e != api.OK {
				t.Fatalf("%v: %d %d %d", ok, read, n, e)
			}
			other := Answer(ok)
			clear(b)
			if !bytes.Equal(other, []byte{5, method}) {
				t.Fatalf("%v: a change of one selection reaches %v", ok, other)
			}
		}
	}
}

// P12.3 and the section 'Examples': selections, their proper prefixes, and bytes that can't become one.
func TestTakeAnswer(t *testing.T) {
	for _, x := range []struct {
		b      []byte
		method uint8
		n      int
		e      api.Errno
	}{
		{[]byte{5, 255, 7}, 255, 2, api.OK},
		{[]byte{5, 255}, 255, 2, api.OK},
		{[]byte{5, 2}, 2, 2, api.OK},
		{[]byte{5, 2, 5, 2}, 2, 2, api.OK},
		{[]byte{5, 2, 1, 0}, 2, 2, api.OK},
		{[]byte{5, 0}, 0, 2, api.OK},
		{[]byte{5, 0, 9}, 0, 2, api.OK},
		{[]byte{5, 1}, 1, 2, api.OK},
		{[]byte{5, 3}, 3, 2, api.OK},
		{[]byte{5, 5}, 5, 2, api.OK},
		{[]byte{5, 128}, 128, 2, api.OK},
		{[]byte{5, 254}, 254, 2, api.OK},
		{nil, 0, 0, api.ErrMore},
		{[]byte{}, 0, 0, api.ErrMore},
		{[]byte{5}, 0, 0, api.ErrMore},
		{[]byte{0}, 0, 0, api.ErrForm},
		{[]byte{4}, 0, 0, api.ErrForm},
		{[]byte{6}, 0, 0, api.ErrForm},
		{[]byte{255}, 0, 0, api.ErrForm},
		{[]byte{'H'}, 0, 0, api.ErrForm},
		{[]byte{4, 2}, 0, 0, api.ErrForm},
		{[]byte{6, 2}, 0, 0, api.ErrForm},
		{[]byte{0, 2}, 0, 0, api.ErrForm},
		{[]byte{1, 0}, 0, 0, api.ErrForm},
		{[]byte{4, 5, 2}, 0, 0, api.ErrForm},
	} {
		if method, n, e := TakeAnswer(x.b); method != x.method || n != x.n || e != x.e {
			t.Errorf("%v: %d %d %d, want %d %d %d", x.b, method, n, e, x.method, x.n, x.e)
		}
		selects(t, x.b)
	}
}

// P12.3: each first byte, alone and ahead of each method; and bytes behind these.
func TestTakeAnswerEach(t *testing.T) {
	for c := range 256 {
		selects(t, []byte{byte(c)})
		for method := range 256 {
			selects(t, []byte{byte(c), byte(method)})
			selects(t, []byte{byte(c), byte(method), 7})
			selects(t, []byte{byte(c), byte(method), 5, 2})
		}
	}
	for method := range 256 {
		for n := range 20 {
			if read, size, e := TakeAnswer(append([]byte{5, byte(method)}, list(n, n)...)); int(read) != method || size != 2 || e != api.OK {
				t.Fatalf("%d and %d bytes: %d %d %d", method, n, read, size, e)
			}
		}
	}
}

// P12.3: all short rows of the bytes at the edges.
func TestTakeAnswerAllShort(t *testing.T) {
	for b := range rows(edges, 4) {
		selects(t, b)
	}
}

// P12.4: more bytes change no result other than ErrMore.
func TestMoreBytes(t *testing.T) {
	for b := range rows(edges, 3) {
		methods, n, e := Take(b)
		method, size, err := TakeAnswer(b)
		for more := range rows(edges, 2) {
			longer := slices.Concat(b, more)
			if m, k, x := Take(longer); e != api.ErrMore && (!bytes.Equal(m, methods) || k != n || x != e) {
				t.Fatalf("Take of %v: %v %d %d, and with %v: %v %d %d", b, methods, n, e, more, m, k, x)
			}
			if m, k, x := TakeAnswer(longer); err != api.ErrMore && (m != method || k != size || x != err) {
				t.Fatalf("TakeAnswer of %v: %d %d %d, and with %v: %d %d %d", b, method, size, err, more, m, k, x)
			}
		}
	}
}

// P12.4: greetings of each number of methods: each proper prefix is ErrMore, and they are read with all lengths of what follows.
func TestPrefixesOfGreetings(t *testing.T) {
	for number := 1; number <= 255; number++ {
		b := greets(list(number, number))
		for n := range b {
			if methods, size, e := Take(b[:n]); methods != nil || size != 0 || e != api.ErrMore {
				t.Fatalf("%d bytes of %v: %v %d %d", n, b, methods, size, e)
			}
		}
		for n := range 9 {
			longer := slices.Concat(b, list(n, n))
			if methods, size, e := Take(longer); !bytes.Equal(methods, b[2:]) || size != len(b) || e != api.OK {
				t.Fatalf("%v: %v %d %d", longer, methods, size, e)
			}
		}
	}
}

// P12.4: selections of each method: each proper prefix is ErrMore.
func TestPrefixesOfSelections(t *testing.T) {
	for method := range 256 {
		b := []byte{5, byte(method)}
		for n := range b {
			if read, size, e := TakeAnswer(b[:n]); read != 0 || size != 0 || e != api.ErrMore {
				t.Fatalf("%d bytes of %v: %d %d %d", n, b, read, size, e)
			}
		}
	}
}

// P12.4: bytes that arrive one by one are read as soon as all of the greeting, or of the selection, is there, and no sooner.
func TestByteByByte(t *testing.T) {
	for _, first := range [][]byte{Greeting(), greets(list(2, 0)), greets([]byte{0, 2}), greets(list(255, 4)), Answer(true), Answer(false)} {
		b := append(bytes.Clone(first), 5, 1, 2)
		for n := range len(b) + 1 {
			takes(t, b[:n])
			selects(t, b[:n])
		}
	}
}
