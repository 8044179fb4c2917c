package userpass

import (
	"bytes"
	"slices"
	"strings"
	"testing"

	"postilion/api"
)

// rows enumerates all rows of at most so many of the bytes.
func rows(of []byte, most int) func(yield func([]byte) bool) {
	return func(yield func([]byte) bool) {
		row := [][]byte{{}}
		for range most + 1 {
			var longer [][]byte
			for _, b := range row {
				if !yield(b) {
					return
				}
				for _, c := range of {
					longer = append(longer, append(slices.Clip(b), c))
				}
			}
			row = longer
		}
	}
}

// edges are bytes at the edges of what the chapter names, and a few beside them.
var edges = []byte{0, 1, 2, 3, 5, 254, 255}

// lengths are those at the edges of what a string may have, and a few beside them.
var lengths = []int{1, 2, 3, 127, 128, 254, 255}

// text returns so many bytes, each other than the one before it, others for another first one.
func text(n, first int) string {
	b := make([]byte, n)
	for i := range b {
		b[i] = byte(first + i*7)
	}
	return string(b)
}

// message returns the bytes of a credential message of these strings, whatever their lengths, of which it keeps the last eight bits.
func message(user, pass string) []byte {
	b := append([]byte{1, byte(len(user))}, user...)
	b = append(b, byte(len(pass)))
	return append(b, pass...)
}

// isMessage says whether all of b is one credential message.
func isMessage(b []byte) bool {
	if len(b) < 5 || b[0] != 1 || b[1] < 1 {
		return false
	}
	user := int(b[1])
	return len(b) > 2+user && b[2+user] >= 1 && len(b) == 3+user+int(b[2+user])
}

// isStatus says whether all of b is one status message.
func isStatus(b []byte) bool {
	return len(b) == 2 && b[0] == 1
}

// begins returns the length of what b begins with, and 0 if it begins with none.
func begins(b []byte, is func([]byte) bool) int {
	for n := range len(b) + 1 {
		if is(b[:n]) {
			return n
		}
	}
	return 0
}

// ones are as many as the longest message has bytes.
var ones = bytes.Repeat([]byte{1}, 513)

// extends says whether more bytes make one of b. If any do, then so do ones: as the first byte, as a length, as bytes of a string, and as a status.
func extends(b []byte, is func([]byte) bool) bool {
	all := slices.Concat(b, ones)
	for n := len(b) + 1; n <= len(ones); n++ {
		if is(all[:n]) {
			return true
		}
	}
	return false
}

// wanted says what is read from b: so many bytes, or which error.
func wanted(b []byte, is func([]byte) bool) (int, api.Errno) {
	switch n := begins(b, is); {
	case n > 0:
		return n, api.OK
	case extends(b, is):
		return 0, api.ErrMore
	}
	return 0, api.ErrForm
}

// takes fails the test unless Take reads from b what the chapter says, and leaves b as it was.
func takes(t *testing.T, b []byte) {
	t.Helper()
	before := bytes.Clone(b)
	user, pass, n, e := Take(b)
	size, err := wanted(b, isMessage)
	var wantUser, wantPass string
	if size > 0 {
		wantUser = string(before[2 : 2+int(before[1])])
		wantPass = string(before[3+len(wantUser) : size])
	}
	if user != wantUser || pass != wantPass || n != size || e != err {
		t.Fatalf("%v: %q %q %d %d, want %q %q %d %d", before, user, pass, n, e, wantUser, wantPass, size, err)
	}
	if !bytes.Equal(b, before) {
		t.Fatalf("%v became %v", before, b)
	}
}

// answers fails the test unless TakeAnswer reads from b what the chapter says, and leaves b as it was.
func answers(t *testing.T, b []byte) {
	t.Helper()
	before := bytes.Clone(b)
	ok, n, e := TakeAnswer(b)
	size, err := wanted(b, isStatus)
	want := size > 0 && before[1] == 0
	if ok != want || n != size || e != err {
		t.Fatalf("%v: %v %d %d, want %v %d %d", before, ok, n, e, want, size, err)
	}
	if !bytes.Equal(b, before) {
		t.Fatalf("%v became %v", before, b)
	}
}

// P13.1 and the section 'Examples': credential messages, their proper prefixes, and bytes that can't become one.
func TestTake(t *testing.T) {
	for _, x := range []struct {
		b          []byte
		user, pass string
		n          int
		e          api.Errno
	}{
		{[]byte{1, 1, 117, 2, 112, 113, 9}, "u", "pq", 6, api.OK},
		{[]byte{1, 1, 117, 2, 112, 113}, "u", "pq", 6, api.OK},
		{[]byte{1, 2, 117, 118, 1, 112}, "uv", "p", 6, api.OK},
		{[]byte{1, 1, 117, 1, 112}, "u", "p", 5, api.OK},
		{[]byte{1, 1, 117, 1, 112, 0}, "u", "p", 5, api.OK},
		{[]byte{1, 1, 117, 1, 112, 1, 1, 118, 1, 113}, "u", "p", 5, api.OK},
		{[]byte{1, 1, 0, 1, 0}, "\x00", "\x00", 5, api.OK},
		{[]byte{1, 1, 255, 1, 255}, "\xff", "\xff", 5, api.OK},
		{[]byte{1, 1, 10, 2, 13, 10}, "\n", "\r\n", 6, api.OK},
		{[]byte{1, 1, 1, 1, 1, 1, 1}, "\x01", "\x01", 5, api.OK},
		{[]byte{1, 2, 0, 0, 2, 0, 0, 0}, "\x00\x00", "\x00\x00", 7, api.OK},
		{[]byte{1, 3, 97, 59, 98, 2, 58, 59}, "a;b", ":;", 8, api.OK},
		{nil, "", "", 0, api.ErrMore},
		{[]byte{}, "", "", 0, api.ErrMore},
		{[]byte{1}, "", "", 0, api.ErrMore},
		{[]byte{1, 1}, "", "", 0, api.ErrMore},
		{[]byte{1, 2}, "", "", 0, api.ErrMore},
		{[]byte{1, 255}, "", "", 0, api.ErrMore},
		{[]byte{1, 1, 117}, "", "", 0, api.ErrMore},
		{[]byte{1, 1, 0}, "", "", 0, api.ErrMore},
		{[]byte{1, 2, 117}, "", "", 0, api.ErrMore},
		{[]byte{1, 2, 117, 0}, "", "", 0, api.ErrMore},
		{[]byte{1, 255, 117, 0}, "", "", 0, api.ErrMore},
		{[]byte{1, 1, 117, 1}, "", "", 0, api.ErrMore},
		{[]byte{1, 1, 117, 2}, "", "", 0, api.ErrMore},
		{[]byte{1, 1, 117, 255}, "", "", 0, api.ErrMore},
		{[]byte{1, 1, 117, 2, 112}, "", "", 0, api.ErrMore},
		{[]byte{1, 1, 117, 255, 112}, "", "", 0, api.ErrMore},
		{[]byte{0}, "", "", 0, api.ErrForm},
		{[]byte{2}, "", "", 0, api.ErrForm},
		{[]byte{5}, "", "", 0, api.ErrForm},
		{[]byte{255}, "", "", 0, api.ErrForm},
		{[]byte{0, 1, 117, 1, 112}, "", "", 0, api.ErrForm},
		{[]byte{2, 1, 117, 1, 112}, "", "", 0, api.ErrForm},
		{[]byte{5, 1, 117, 1, 112}, "", "", 0, api.ErrForm},
		{[]byte{5, 1, 1, 117, 1, 112}, "", "", 0, api.ErrForm},
		{[]byte{5, 0}, "", "", 0, api.ErrForm},
		{[]byte{1, 0}, "", "", 0, api.ErrForm},
		{[]byte{1, 0, 0}, "", "", 0, api.ErrForm},
		{[]byte{1, 0, 1, 112}, "", "", 0, api.ErrForm},
		{[]byte{1, 0, 1, 1, 117, 1, 112}, "", "", 0, api.ErrForm},
		{[]byte{1, 1, 117, 0}, "", "", 0, api.ErrForm},
		{[]byte{1, 1, 0, 0}, "", "", 0, api.ErrForm},
		{[]byte{1, 2, 117, 118, 0}, "", "", 0, api.ErrForm},
		{[]byte{1, 1, 117, 0, 1}, "", "", 0, api.ErrForm},
		{[]byte{1, 1, 117, 0, 1, 112}, "", "", 0, api.ErrForm},
	} {
		if user, pass, n, e := Take(x.b); user != x.user || pass != x.pass || n != x.n || e != x.e {
			t.Errorf("%v: %q %q %d %d, want %q %q %d %d", x.b, user, pass, n, e, x.user, x.pass, x.n, x.e)
		}
		takes(t, x.b)
	}
}

// P13.1: which error it is for each first byte, alone, ahead of each length, and ahead of all that a message has.
func TestTakeEachFirstByte(t *testing.T) {
	for c := range 256 {
		takes(t, []byte{byte(c)})
		takes(t, append([]byte{byte(c)}, message("u", "pq")[1:]...))
		takes(t, append([]byte{byte(c)}, message(text(255, c), text(255, 3))[1:]...))
		for n := range 256 {
			takes(t, []byte{byte(c), byte(n)})
			takes(t, []byte{byte(c), byte(n), 117})
			takes(t, []byte{byte(c), byte(n), 117, 1, 112})
		}
		if _, _, _, e := Take([]byte{byte(c)}); c == 1 && e != api.ErrMore || c != 1 && e != api.ErrForm {
			t.Errorf("%d: %d", c, e)
		}
	}
}

// P13.1: each length at the user name's place, with as many bytes behind it as it says, fewer, and more.
func TestTakeEachLengthOfUser(t *testing.T) {
	for length := range 256 {
		for n := range 260 {
			takes(t, append([]byte{1, byte(length)}, text(n, length)...))
		}
	}
}

// P13.1: each length at the password's place, with as many bytes behind it as it says, fewer, and more.
func TestTakeEachLengthOfPassword(t *testing.T) {
	for _, user := range []string{"u", "uv", text(255, 1)} {
		before := append(append([]byte{1, byte(len(user))}, user...), 0)
		for length := range 256 {
			before[len(before)-1] = byte(length)
			for _, n := range []int{0, 1, 2, length - 1, length, length + 1, 254, 255, 256, 300} {
				takes(t, slices.Concat(before, []byte(text(max(n, 0), length))))
			}
		}
	}
}

// P13.1: each length at one place with each length at the other: all is there, a byte is missing, and bytes stand behind it.
func TestTakeEachPair(t *testing.T) {
	for k := 1; k <= 255; k++ {
		for m := 1; m <= 255; m++ {
			user, pass := text(k, m), text(m, k)
			b := append(message(user, pass), 1, 0)
			size := k + m + 3
			for _, n := range []int{size, size + 1, size + 2} {
				if u, p, read, e := Take(b[:n]); u != user || p != pass || read != size || e != api.OK {
					t.Fatalf("%d and %d, %d bytes: %q %q %d %d", k, m, n, u, p, read, e)
				}
			}
			if u, p, read, e := Take(b[:size-1]); u != "" || p != "" || read != 0 || e != api.ErrMore {
				t.Fatalf("%d and %d, a byte is missing: %q %q %d %d", k, m, u, p, read, e)
			}
		}
	}
}

// P13.1: each byte at each place of a user name and of a password.
func TestTakeEachByte(t *testing.T) {
	for _, n := range []int{1, 2, 3, 8, 255} {
		for place := range n {
			for c := range 256 {
				b := []byte(text(n, c))
				b[place] = byte(c)
				one, other := string(b), text(n, c+1)
				if user, pass, size, e := Take(message(one, other)); user != one || pass != other || size != 2*n+3 || e != api.OK {
					t.Fatalf("%d as byte %d of a user name of %d: %q %q %d %d", c, place, n, user, pass, size, e)
				}
				if user, pass, size, e := Take(message(other, one)); user != other || pass != one || size != 2*n+3 || e != api.OK {
					t.Fatalf("%d as byte %d of a password of %d: %q %q %d %d", c, place, n, user, pass, size, e)
				}
			}
		}
	}
}

// P13.1: all short rows of the bytes at the edges.
func TestTakeAllShort(t *testing.T) {
	for b := range rows(edges, 5) {
		takes(t, b)
	}
	for b := range rows([]byte{0, 1, 2}, 9) {
		takes(t, b)
	}
}

// P13.1: what Take returns does not follow a later change of the input.
func TestTakeOwn(t *testing.T) {
	for _, k := range lengths {
		for _, m := range lengths {
			user, pass := text(k, 3), text(m, 5)
			b := append(message(user, pass), 70, 71)
			u, p, n, e := Take(b)
			for i := range b {
				b[i] ^= 255
			}
			if u != user || p != pass || n != k+m+3 || e != api.OK {
				t.Errorf("%d and %d: a change of the input reaches %q %q %d %d", k, m, u, p, n, e)
			}
		}
	}
}

// P13.2: messages, and strings that are empty or too long, in bytes, and not in letters.
func TestPrint(t *testing.T) {
	for _, x := range []struct {
		user, pass string
		want       []byte
	}{
		{"u", "pq", []byte{1, 1, 117, 2, 112, 113}},
		{"uv", "p", []byte{1, 2, 117, 118, 1, 112}},
		{"u", "p", []byte{1, 1, 117, 1, 112}},
		{"p", "u", []byte{1, 1, 112, 1, 117}},
		{"\x00", "\x00", []byte{1, 1, 0, 1, 0}},
		{"\n", "\r\n", []byte{1, 1, 10, 2, 13, 10}},
		{"\xff", "\xfe\xff", []byte{1, 1, 255, 2, 254, 255}},
		{"\x00\n\xff", "\x01\x02\x05", []byte{1, 3, 0, 10, 255, 3, 1, 2, 5}},
		{"a;b", ":;", []byte{1, 3, 97, 59, 98, 2, 58, 59}},
		{"é", "€", []byte{1, 2, 195, 169, 3, 226, 130, 172}},
		{" ", "U", []byte{1, 1, 32, 1, 85}},
		{"", "", nil},
		{"", "p", nil},
		{"u", "", nil},
		{"", text(255, 1), nil},
		{text(255, 1), "", nil},
		{text(256, 1), "p", nil},
		{"u", text(256, 1), nil},
		{text(256, 1), text(256, 1), nil},
		{text(256, 1), "", nil},
		{"", text(256, 1), nil},
		{text(257, 1), "p", nil},
		{"u", text(257, 1), nil},
		{text(512, 1), "p", nil},
		{"u", text(512, 1), nil},
		{text(1<<16+1, 1), "p", nil},
		{"u", text(1<<16+1, 1), nil},
		{strings.Repeat("é", 128), "p", nil},
		{"u", strings.Repeat("€", 86), nil},
	} {
		want := api.OK
		if x.want == nil {
			want = api.ErrArg
		}
		if b, e := Print(x.user, x.pass); !bytes.Equal(b, x.want) || e != want || e != api.OK && b != nil {
			t.Errorf("%q %q: %v %d, want %v %d", x.user, x.pass, b, e, x.want, want)
		}
	}
}

// P13.2: each length at each place, up to what is too long.
func TestPrintEachLength(t *testing.T) {
	for k := range 300 {
		for m := range 300 {
			user, pass := text(k, m), text(m, k)
			b, e := Print(user, pass)
			if k < 1 || k > 255 || m < 1 || m > 255 {
				if b != nil || e != api.ErrArg {
					t.Fatalf("%d and %d: %v %d", k, m, b, e)
				}
				continue
			}
			if !bytes.Equal(b, message(user, pass)) || !isMessage(b) || e != api.OK {
				t.Fatalf("%d and %d: %v %d", k, m, b, e)
			}
		}
	}
}

// P13.2: what Print returns is the caller's own, with all the memory behind it.
func TestPrintOwn(t *testing.T) {
	for _, k := range lengths {
		user, pass := text(k, 3), text(256-k, 5)
		b, e := Print(user, pass)
		other, err := Print(user, pass)
		_ = append(b, 80, 81, 82)
		clear(b)
		if !bytes.Equal(other, message(user, pass)) || e != api.OK || err != api.OK {
			t.Errorf("%d: a change of one message reaches %v", k, other)
		}
		if user != text(k, 3) || pass != text(256-k, 5) {
			t.Errorf("%d: a change of the message reaches %q %q", k, user, pass)
		}
	}
}

// P13.3: both status messages, which are read as such, and are the caller's own.
func TestAnswer(t *testing.T) {
	for range 3 {
		for _, x := range []struct {
			ok   bool
			want []byte
		}{{true, []byte{1, 0}}, {false, []byte{1, 1}}} {
			b := Answer(x.ok)
			if !bytes.Equal(b, x.want) {
				t.Fatalf("%v: %v", x.ok, b)
			}
			if ok, n, e := TakeAnswer(append(bytes.Clone(b), 1)); ok != x.ok || n != 2 || e != api.OK {
				t.Fatalf("%v: %v %d %d", x.ok, ok, n, e)
			}
			other := Answer(x.ok)
			_ = append(b, 80, 81, 82)
			clear(b)
			if !bytes.Equal(other, x.want) {
				t.Fatalf("%v: a change of one message reaches %v", x.ok, other)
			}
		}
	}
}

// P13.3 and the section 'Examples': status messages, their proper prefixes, and bytes that can't become one.
func TestTakeAnswer(t *testing.T) {
	for _, x := range []struct {
		b  []byte
		ok bool
		n  int
		e  api.Errno
	}{
		{[]byte{1, 0}, true, 2, api.OK},
		{[]byte{1, 7}, false, 2, api.OK},
		{[]byte{1, 1}, false, 2, api.OK},
		{[]byte{1, 2}, false, 2, api.OK},
		{[]byte{1, 128}, false, 2, api.OK},
		{[]byte{1, 255}, false, 2, api.OK},
		{[]byte{1, 0, 9}, true, 2, api.OK},
		{[]byte{1, 0, 1, 1}, true, 2, api.OK},
		{[]byte{1, 1, 0}, false, 2, api.OK},
		{[]byte{1, 7, 1, 0}, false, 2, api.OK},
		{[]byte{1, 255, 0, 0}, false, 2, api.OK},
		{nil, false, 0, api.ErrMore},
		{[]byte{}, false, 0, api.ErrMore},
		{[]byte{1}, false, 0, api.ErrMore},
		{[]byte{0}, false, 0, api.ErrForm},
		{[]byte{2}, false, 0, api.ErrForm},
		{[]byte{5}, false, 0, api.ErrForm},
		{[]byte{255}, false, 0, api.ErrForm},
		{[]byte{0, 0}, false, 0, api.ErrForm},
		{[]byte{2, 0}, false, 0, api.ErrForm},
		{[]byte{5, 0}, false, 0, api.ErrForm},
		{[]byte{5, 2}, false, 0, api.ErrForm},
		{[]byte{0, 1, 0}, false, 0, api.ErrForm},
		{[]byte{5, 1, 0}, false, 0, api.ErrForm},
	} {
		if ok, n, e := TakeAnswer(x.b); ok != x.ok || n != x.n || e != x.e {
			t.Errorf("%v: %v %d %d, want %v %d %d", x.b, ok, n, e, x.ok, x.n, x.e)
		}
		answers(t, x.b)
	}
}

// P13.3: each first byte, alone and ahead of each status byte; and bytes behind these.
func TestTakeAnswerEach(t *testing.T) {
	for c := range 256 {
		answers(t, []byte{byte(c)})
		for code := range 256 {
			answers(t, []byte{byte(c), byte(code)})
			answers(t, []byte{byte(c), byte(code), 0})
			answers(t, []byte{byte(c), byte(code), 1, 0})
		}
	}
	for code := range 256 {
		for n := range 20 {
			if ok, size, e := TakeAnswer(append([]byte{1, byte(code)}, text(n, n)...)); ok != (code == 0) || size != 2 || e != api.OK {
				t.Fatalf("%d and %d bytes: %v %d %d", code, n, ok, size, e)
			}
		}
	}
}

// P13.3: all short rows of the bytes at the edges.
func TestTakeAnswerAllShort(t *testing.T) {
	for b := range rows(edges, 4) {
		answers(t, b)
	}
}

// P13.4: what Print returns is read back, whatever follows it.
func TestReadBack(t *testing.T) {
	for _, k := range lengths {
		for _, m := range lengths {
			for first := range 256 {
				user, pass := text(k, first), text(m, 255-first)
				b, _ := Print(user, pass)
				for _, more := range [][]byte{nil, {0}, {1}, {5}, {255}, {1, 0}, b, []byte(text(300, first))} {
					if u, p, n, e := Take(slices.Concat(b, more)); u != user || p != pass || n != len(b) || e != api.OK {
						t.Fatalf("%q %q with %v: %q %q %d %d", user, pass, more, u, p, n, e)
					}
				}
			}
		}
	}
}

// P13.4: all short strings of the bytes at the edges, and of some others, are read back.
func TestReadBackAllShort(t *testing.T) {
	for user := range rows([]byte{0, 1, 10, 59, 255}, 3) {
		for pass := range rows([]byte{0, 1, 10, 58, 255}, 3) {
			b, e := Print(string(user), string(pass))
			if e != api.OK {
				continue
			}
			if u, p, n, e := Take(b); u != string(user) || p != string(pass) || n != len(b) || e != api.OK {
				t.Fatalf("%v %v: %q %q %d %d", user, pass, u, p, n, e)
			}
		}
	}
}

// P13.4: printing what was read yields the bytes that were read.
func TestPrintedAgain(t *testing.T) {
	read := func(b []byte) bool {
		user, pass, n, e := Take(b)
		if e != api.OK {
			return false
		}
		if again, err := Print(user, pass); !bytes.Equal(again, b[:n]) || err != api.OK {
			t.Fatalf("%v: %v %d", b[:n], again, err)
		}
		return true
	}
	count := 0
	for b := range rows([]byte{0, 1, 2, 255}, 8) {
		if read(b) {
			count++
		}
	}
	for _, k := range lengths {
		for _, m := range lengths {
			for first := range 256 {
				if !read(append(message(text(k, first), text(m, first+9)), 1, 0)) {
					t.Fatalf("%d and %d bytes, from %d on: not read", k, m, first)
				}
			}
		}
	}
	if count == 0 {
		t.Fatal("no short message was read")
	}
}

// P13.5: more bytes change no result other than ErrMore.
func TestMoreBytes(t *testing.T) {
	for b := range rows([]byte{0, 1, 2, 5, 255}, 5) {
		user, pass, n, e := Take(b)
		ok, size, err := TakeAnswer(b)
		for more := range rows([]byte{0, 1, 2, 255}, 2) {
			longer := slices.Concat(b, more)
			if u, p, k, x := Take(longer); e != api.ErrMore && (u != user || p != pass || k != n || x != e) {
				t.Fatalf("Take of %v: %q %q %d %d, and with %v: %q %q %d %d", b, user, pass, n, e, more, u, p, k, x)
			}
			if o, k, x := TakeAnswer(longer); err != api.ErrMore && (o != ok || k != size || x != err) {
				t.Fatalf("TakeAnswer of %v: %v %d %d, and with %v: %v %d %d", b, ok, size, err, more, o, k, x)
			}
		}
	}
}

// P13.5: each proper prefix of a credential message is ErrMore, whatever its strings hold.
func TestPrefixesOfMessages(t *testing.T) {
	for _, k := range lengths {
		for _, m := range lengths {
			for _, fill := range []byte{0, 1, 5, 10, 255} {
				b := message(string(bytes.Repeat([]byte{fill}, k)), string(bytes.Repeat([]byte{fill}, m)))
				for n := range b {
					if user, pass, size, e := Take(b[:n]); user != "" || pass != "" || size != 0 || e != api.ErrMore {
						t.Fatalf("%d bytes of %v: %q %q %d %d", n, b, user, pass, size, e)
					}
				}
				if _, _, size, e := Take(b); size != len(b) || e != api.OK {
					t.Fatalf("%v: %d %d", b, size, e)
				}
			}
		}
	}
}

// P13.5: each proper prefix of a status message is ErrMore.
func TestPrefixesOfStatuses(t *testing.T) {
	for code := range 256 {
		b := []byte{1, byte(code)}
		for n := range b {
			if ok, size, e := TakeAnswer(b[:n]); ok || size != 0 || e != api.ErrMore {
				t.Fatalf("%d bytes of %v: %v %d %d", n, b, ok, size, e)
			}
		}
	}
}

// P13.5: bytes that arrive one by one are read as soon as all of the message is there, and no sooner; those that can't become one are ErrForm as soon as that is so.
func TestByteByByte(t *testing.T) {
	for _, first := range [][]byte{
		message("u", "pq"), message("uv", "p"), message(text(255, 1), text(255, 2)), message(text(255, 0), "p"), message("u", text(255, 0)),
		message("", "p"), message("u", ""), message(text(255, 3), ""), {2, 1, 117, 1, 112}, Answer(true), Answer(false), {1, 7}, {5, 2},
	} {
		b := append(bytes.Clone(first), 1, 1, 117, 1, 112)
		for n := range len(b) + 1 {
			takes(t, b[:n])
			answers(t, b[:n])
		}
	}
}
