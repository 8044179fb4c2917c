package ask

import (
	"bytes"
	"regexp"
	"slices"
	"strings"
	"testing"

	"postilion/api"
)

// rows enumerates all rows of at most so many of the bytes.
func rows(of []byte, most int) func(yield func([]byte) bool) {
	return func(yield func([]byte) bool) {
		row := [][]byte{{}}
		for range most + 1 {
			var longer [][]byte
			for _, b := range row {
				if !yield(b) {
					return
				}
				for _, c := range of {
					longer = append(longer, append(slices.Clip(b), c))
				}
			}
			row = longer
		}
	}
}

// text returns so many bytes, each other than the one before it, others for another first one.
func text(n, first int) string {
	b := make([]byte, n)
	for i := range b {
		b[i] = byte(first + i*7)
	}
	return string(b)
}

// joined returns the bytes of a few pieces.
func joined(head []byte, middle string, tail ...byte) []byte {
	return slices.Concat(head, []byte(middle), tail)
}

// v4, v6 and name return the bytes of a request for such a host, valid or not, and name for any length up to 255.
func v4(four string, port ...byte) []byte { return joined([]byte{5, 1, 0, 1}, four, port...) }

func v6(sixteen string, port ...byte) []byte { return joined([]byte{5, 1, 0, 4}, sixteen, port...) }

func name(s string, port ...byte) []byte {
	return joined([]byte{5, 1, 0, 3, byte(len(s))}, s, port...)
}

// to returns a target.
func to(kind uint8, s string, port int) api.Target {
	return api.Target{Host: api.Host{Kind: kind, Text: s}, Port: port}
}

var (
	form   = regexp.MustCompile(`^[a-z0-9]([a-z0-9-]*[a-z0-9])?(\.[a-z0-9]([a-z0-9-]*[a-z0-9])?)*$`)
	number = regexp.MustCompile(`(^|\.)[0-9]+$`)
)

// isName says whether s is a name.
func isName(s string) bool {
	return len(s) <= 40 && form.MatchString(s) && !number.MatchString(s)
}

// lower returns s with its letters from A to Z in lower case, and all other bytes as they are.
func lower(s string) string {
	b := []byte(s)
	for i, c := range b {
		if j := strings.IndexByte("ABCDEFGHIJKLMNOPQRSTUVWXYZ", c); j >= 0 {
			b[i] = "abcdefghijklmnopqrstuvwxyz"[j]
		}
	}
	return string(b)
}

// isRequest says whether all of b is one request.
func isRequest(b []byte) bool {
	if len(b) < 7 || b[0] != 5 || b[1] != 1 || b[2] != 0 {
		return false
	}
	if at := len(b) - 2; b[at] == 0 && b[at+1] == 0 {
		return false
	}
	switch b[3] {
	case 1:
		return len(b) == 10
	case 4:
		return len(b) == 22
	case 3:
		return len(b) == 7+int(b[4]) && isName(lower(string(b[5:len(b)-2])))
	}
	return false
}

// isReply says whether all of b is one reply.
func isReply(b []byte) bool {
	if len(b) < 7 || b[0] != 5 || b[2] != 0 {
		return false
	}
	switch b[3] {
	case 1:
		return len(b) == 10
	case 4:
		return len(b) == 22
	case 3:
		return len(b) == 7+int(b[4])
	}
	return false
}

// asked returns the target for which all of b is the request.
func asked(b []byte) api.Target {
	t := api.Target{Port: int(b[len(b)-2])*256 + int(b[len(b)-1])}
	switch b[3] {
	case 1:
		t.Host = api.Host{Kind: api.HkV4, Text: string(b[4:8])}
	case 4:
		t.Host = api.Host{Kind: api.HkV6, Text: string(b[4:20])}
	case 3:
		t.Host = api.Host{Kind: api.HkName, Text: lower(string(b[5 : len(b)-2]))}
	}
	return t
}

// begins returns the length of what b begins with, and 0 if it begins with none.
func begins(b []byte, is func([]byte) bool) int {
	for n := range min(len(b), 262) + 1 {
		if is(b[:n]) {
			return n
		}
	}
	return 0
}

// extends says whether more bytes make one of b. If any do, then so do those of one of these messages, behind as many as b has.
func extends(b []byte, is func([]byte) bool) bool {
	for _, head := range [][]byte{{5, 1, 0, 1, 97}, {5, 1, 0, 3, 1}} {
		all := append(head, bytes.Repeat([]byte{'a'}, 262)...)
		if len(b) > 262 {
			return false
		}
		copy(all, b)
		for n := len(b) + 1; n <= 262; n++ {
			if is(all[:n]) {
				return true
			}
		}
	}
	return false
}

// wanted says what is read from b: so many bytes, or ErrMore, or the error of the first byte that can't be there.
func wanted(b []byte, is func([]byte) bool, errors map[int]api.Errno) (int, api.Errno) {
	if n := begins(b, is); n > 0 {
		return n, api.OK
	}
	if extends(b, is) {
		return 0, api.ErrMore
	}
	for i := range b {
		if !extends(b[:i+1], is) {
			if e, ok := errors[i]; ok {
				return 0, e
			}
			break
		}
	}
	return 0, api.ErrForm
}

// takes fails the test unless Take reads from b what the chapter says, and leaves b as it was.
func takes(t *testing.T, b []byte) {
	t.Helper()
	before := bytes.Clone(b)
	target, n, e := Take(b)
	size, err := wanted(before, isRequest, map[int]api.Errno{1: api.ErrMethod, 3: api.ErrType})
	var want api.Target
	if size > 0 {
		want = asked(before[:size])
	}
	if target != want || n != size || e != err {
		t.Fatalf("%v: %#v %d %d, want %#v %d %d", before, target, n, e, want, size, err)
	}
	if !bytes.Equal(b, before) {
		t.Fatalf("%v became %v", before, b)
	}
}

// replies fails the test unless TakeReply reads from b what the chapter says, and leaves b as it was.
func replies(t *testing.T, b []byte) {
	t.Helper()
	before := bytes.Clone(b)
	code, n, e := TakeReply(b)
	size, err := wanted(before, isReply, nil)
	var want uint8
	if size > 0 {
		want = before[1]
	}
	if code != want || n != size || e != err {
		t.Fatalf("%v: %d %d %d, want %d %d %d", before, code, n, e, want, size, err)
	}
	if !bytes.Equal(b, before) {
		t.Fatalf("%v became %v", before, b)
	}
}

const (
	name40 = "a234567890.b234567890.c234567890.d23456z"
	name41 = "a234567890.b234567890.c234567890.d23456zz"
	zero16 = "\x00\x00\x00\x00\x00\x00\x00\x00\x00\x00\x00\x00\x00\x00\x00\x00"
	last16 = "\x00\x00\x00\x00\x00\x00\x00\x00\x00\x00\x00\x00\x00\x00\x00\x01"
)

// P14.1 and the section 'Examples': requests, with and without bytes behind them.
func TestTake(t *testing.T) {
	for _, x := range []struct {
		b    []byte
		want api.Target
		n    int
	}{
		{[]byte{5, 1, 0, 1, 10, 0, 0, 7, 0, 80, 9}, to(api.HkV4, "\x0a\x00\x00\x07", 80), 10},
		{[]byte{5, 1, 0, 3, 3, 65, 46, 98, 1, 187}, to(api.HkName, "a.b", 443), 10},
		{[]byte{5, 1, 0, 1, 0, 0, 0, 0, 0, 1}, to(api.HkV4, "\x00\x00\x00\x00", 1), 10},
		{[]byte{5, 1, 0, 1, 255, 255, 255, 255, 255, 255}, to(api.HkV4, "\xff\xff\xff\xff", 65535), 10},
		{[]byte{5, 1, 0, 1, 1, 2, 3, 4, 0, 255}, to(api.HkV4, "\x01\x02\x03\x04", 255), 10},
		{[]byte{5, 1, 0, 1, 1, 2, 3, 4, 1, 0}, to(api.HkV4, "\x01\x02\x03\x04", 256), 10},
		{[]byte{5, 1, 0, 1, 1, 2, 3, 4, 1, 2}, to(api.HkV4, "\x01\x02\x03\x04", 258), 10},
		{[]byte{5, 1, 0, 1, 65, 90, 46, 45, 0, 80, 0}, to(api.HkV4, "AZ.-", 80), 10},
		{[]byte{5, 1, 0, 1, 5, 1, 0, 1, 0, 80, 5, 1, 0, 1, 1, 2, 3, 4, 0, 81}, to(api.HkV4, "\x05\x01\x00\x01", 80), 10},
		{v6(last16, 0, 80), to(api.HkV6, last16, 80), 22},
		{v6(zero16, 0, 1, 0), to(api.HkV6, zero16, 1), 22},
		{v6("ABCDEFGHIJKLMNOP", 255, 255, 5, 1, 0), to(api.HkV6, "ABCDEFGHIJKLMNOP", 65535), 22},
		{v6(text(16, 250), 1, 0), to(api.HkV6, text(16, 250), 256), 22},
		{name("a", 0, 1), to(api.HkName, "a", 1), 8},
		{name("A", 0, 1, 0), to(api.HkName, "a", 1), 8},
		{name("a", 1, 0, 5, 1, 0, 3), to(api.HkName, "a", 256), 8},
		{name("1a", 0, 80), to(api.HkName, "1a", 80), 9},
		{name("a1", 0, 80), to(api.HkName, "a1", 80), 9},
		{name("1.a", 0, 80), to(api.HkName, "1.a", 80), 10},
		{name("a-b", 0, 80), to(api.HkName, "a-b", 80), 10},
		{name("A--B", 0, 80), to(api.HkName, "a--b", 80), 11},
		{name("0-0", 0, 80), to(api.HkName, "0-0", 80), 10},
		{name("1.2.3.4a", 0, 80), to(api.HkName, "1.2.3.4a", 80), 15},
		{name("1.2.3.0x4", 0, 80), to(api.HkName, "1.2.3.0x4", 80), 16},
		{name("Example.ORG", 255, 255), to(api.HkName, "example.org", 65535), 18},
		{name(name40, 0, 80), to(api.HkName, name40, 80), 47},
		{name(name40, 0, 80, 0, 0, 0), to(api.HkName, name40, 80), 47},
		{name(strings.Repeat("Z", 40), 0, 80), to(api.HkName, strings.Repeat("z", 40), 80), 47},
	} {
		if target, n, e := Take(x.b); target != x.want || n != x.n || e != api.OK {
			t.Errorf("%v: %#v %d %d, want %#v %d", x.b, target, n, e, x.want, x.n)
		}
		takes(t, x.b)
	}
}

// P14.1 and the section 'Examples': proper prefixes of requests.
func TestTakeMore(t *testing.T) {
	for _, b := range [][]byte{
		nil,
		{},
		{5},
		{5, 1},
		{5, 1, 0},
		{5, 1, 0, 1},
		{5, 1, 0, 1, 0},
		{5, 1, 0, 1, 255},
		{5, 1, 0, 1, 10, 0, 0, 7},
		{5, 1, 0, 1, 10, 0, 0, 7, 0},
		{5, 1, 0, 1, 0, 0, 0, 0, 0},
		{5, 1, 0, 1, 10, 0, 0, 7, 255},
		{5, 1, 0, 4},
		{5, 1, 0, 4, 0},
		v6(zero16[1:]),
		v6(zero16),
		v6(zero16, 0),
		v6(zero16, 1),
		{5, 1, 0, 3},
		{5, 1, 0, 3, 1},
		{5, 1, 0, 3, 1, 97},
		{5, 1, 0, 3, 1, 97, 0},
		{5, 1, 0, 3, 1, 97, 1},
		{5, 1, 0, 3, 3},
		{5, 1, 0, 3, 3, 65},
		{5, 1, 0, 3, 3, 97, 46},
		{5, 1, 0, 3, 3, 97, 45},
		{5, 1, 0, 3, 3, 49, 50},
		{5, 1, 0, 3, 3, 49, 46},
		{5, 1, 0, 3, 3, 65, 46, 98},
		{5, 1, 0, 3, 3, 65, 46, 98, 1},
		joined([]byte{5, 1, 0, 3, 8}, "1.2.3.4"),
		joined([]byte{5, 1, 0, 3, 7}, "1.2.3."),
		joined([]byte{5, 1, 0, 3, 40}, ""),
		joined([]byte{5, 1, 0, 3, 40}, strings.Repeat("1", 39)),
		joined([]byte{5, 1, 0, 3, 40}, name40[:38]+"-"),
		joined([]byte{5, 1, 0, 3, 40}, name40[:38]+"."),
		name(name40),
		name(name40, 0),
	} {
		if target, n, e := Take(b); target != (api.Target{}) || n != 0 || e != api.ErrMore {
			t.Errorf("%v: %#v %d %d", b, target, n, e)
		}
		takes(t, b)
	}
}

// P14.1 and the section 'Examples': which error it is for what can't become a request.
func TestTakeWrong(t *testing.T) {
	for _, x := range []struct {
		b []byte
		e api.Errno
	}{
		{[]byte{4}, api.ErrForm},
		{[]byte{0}, api.ErrForm},
		{[]byte{1}, api.ErrForm},
		{[]byte{6}, api.ErrForm},
		{[]byte{255}, api.ErrForm},
		{[]byte{4, 2}, api.ErrForm},
		{[]byte{4, 1, 0, 2}, api.ErrForm},
		{[]byte{4, 1, 0, 1, 1, 2, 3, 4, 0, 80}, api.ErrForm},
		{[]byte{5, 0}, api.ErrMethod},
		{[]byte{5, 2}, api.ErrMethod},
		{[]byte{5, 3}, api.ErrMethod},
		{[]byte{5, 5}, api.ErrMethod},
		{[]byte{5, 255}, api.ErrMethod},
		{[]byte{5, 2, 1}, api.ErrMethod},
		{[]byte{5, 2, 0, 2}, api.ErrMethod},
		{[]byte{5, 2, 0, 1, 1, 2, 3, 4, 0, 80}, api.ErrMethod},
		{[]byte{5, 3, 0, 1, 1, 2, 3, 4, 0, 0}, api.ErrMethod},
		{[]byte{5, 1, 1}, api.ErrForm},
		{[]byte{5, 1, 5}, api.ErrForm},
		{[]byte{5, 1, 255}, api.ErrForm},
		{[]byte{5, 1, 1, 2}, api.ErrForm},
		{[]byte{5, 1, 1, 1, 1, 2, 3, 4, 0, 80}, api.ErrForm},
		{[]byte{5, 1, 0, 0}, api.ErrType},
		{[]byte{5, 1, 0, 2}, api.ErrType},
		{[]byte{5, 1, 0, 5}, api.ErrType},
		{[]byte{5, 1, 0, 6}, api.ErrType},
		{[]byte{5, 1, 0, 255}, api.ErrType},
		{[]byte{5, 1, 0, 2, 0}, api.ErrType},
		{[]byte{5, 1, 0, 0, 1, 2, 3, 4, 0, 80}, api.ErrType},
		{[]byte{5, 1, 0, 2, 1, 2, 3, 4, 0, 0}, api.ErrType},
		{[]byte{5, 1, 0, 5, 1, 97, 0, 80}, api.ErrType},
		{[]byte{5, 1, 0, 3, 0}, api.ErrForm},
		{[]byte{5, 1, 0, 3, 0, 0, 80}, api.ErrForm},
		{[]byte{5, 1, 0, 3, 0, 97, 0, 80}, api.ErrForm},
		{[]byte{5, 1, 0, 3, 41}, api.ErrForm},
		{[]byte{5, 1, 0, 3, 41, 97}, api.ErrForm},
		{[]byte{5, 1, 0, 3, 255}, api.ErrForm},
		{name(name41, 0, 80), api.ErrForm},
		{[]byte{5, 1, 0, 3, 3, 46}, api.ErrForm},
		{[]byte{5, 1, 0, 3, 9, 46}, api.ErrForm},
		{[]byte{5, 1, 0, 3, 3, 45}, api.ErrForm},
		{[]byte{5, 1, 0, 3, 3, 0}, api.ErrForm},
		{[]byte{5, 1, 0, 3, 3, 255}, api.ErrForm},
		{[]byte{5, 1, 0, 3, 3, 58}, api.ErrForm},
		{[]byte{5, 1, 0, 3, 9, 97, 32}, api.ErrForm},
		{[]byte{5, 1, 0, 3, 9, 97, 95}, api.ErrForm},
		{[]byte{5, 1, 0, 3, 9, 97, 46, 46}, api.ErrForm},
		{[]byte{5, 1, 0, 3, 9, 97, 46, 45}, api.ErrForm},
		{[]byte{5, 1, 0, 3, 9, 97, 45, 46}, api.ErrForm},
		{[]byte{5, 1, 0, 3, 1, 46}, api.ErrForm},
		{[]byte{5, 1, 0, 3, 1, 45}, api.ErrForm},
		{[]byte{5, 1, 0, 3, 1, 49}, api.ErrForm},
		{[]byte{5, 1, 0, 3, 2, 97, 45}, api.ErrForm},
		{[]byte{5, 1, 0, 3, 2, 97, 46}, api.ErrForm},
		{[]byte{5, 1, 0, 3, 3, 97, 46, 49}, api.ErrForm},
		{name("1.2.3.4"), api.ErrForm},
		{name("1.2.3.4", 0, 80), api.ErrForm},
		{name("1.2.3.256"), api.ErrForm},
		{name("::1"), api.ErrForm},
		{name("::1", 0, 80), api.ErrForm},
		{name("2001:db8::1:0"), api.ErrForm},
		{name("1:2:3:4:5:6:7:8", 0, 80), api.ErrForm},
		{joined([]byte{5, 1, 0, 3, 3}, "::"), api.ErrForm},
		{joined([]byte{5, 1, 0, 3, 3}, "a:"), api.ErrForm},
		{name("[::1]"), api.ErrForm},
		{name("a:80"), api.ErrForm},
		{name("0"), api.ErrForm},
		{name("80"), api.ErrForm},
		{name("a.1"), api.ErrForm},
		{name("1.2"), api.ErrForm},
		{name("ab\n"), api.ErrForm},
		{name("\xe2\x84\xaa"), api.ErrForm},
		{name("\xc3\x84"), api.ErrForm},
		{name(strings.Repeat("1", 40)), api.ErrForm},
		{name(name40[:39] + "-"), api.ErrForm},
		{name(name40[:39] + "."), api.ErrForm},
		{[]byte{5, 1, 0, 3, 1, 97, 0, 0}, api.ErrForm},
		{[]byte{5, 1, 0, 1, 1, 2, 3, 4, 0, 0}, api.ErrForm},
		{[]byte{5, 1, 0, 1, 1, 2, 3, 4, 0, 0, 1}, api.ErrForm},
		{v6(last16, 0, 0), api.ErrForm},
		{name(name40, 0, 0, 80), api.ErrForm},
	} {
		if target, n, e := Take(x.b); target != (api.Target{}) || n != 0 || e != x.e {
			t.Errorf("%v: %#v %d %d, want %d", x.b, target, n, e, x.e)
		}
		takes(t, x.b)
	}
}

// some are requests of each kind.
func some() [][]byte {
	return [][]byte{v4("\x0a\x00\x00\x07", 0, 80), v6(last16, 1, 187), name("a.b", 0, 80), name("X", 1, 0), name(name40, 255, 255)}
}

// P14.1: each byte at each of the first five places, with all, some and none of a request behind it.
func TestTakeEachOfTheFirst(t *testing.T) {
	for _, whole := range some() {
		for place := range 5 {
			for c := range 256 {
				b := append(bytes.Clone(whole), 0, 80)
				b[place] = byte(c)
				for _, n := range []int{place + 1, place + 2, len(whole) - 1, len(whole), len(b)} {
					takes(t, b[:n])
				}
			}
		}
	}
}

// P14.1: of two bytes that can't be there the first one tells the error.
func TestTakeTwoWrong(t *testing.T) {
	for _, whole := range some() {
		for place := range 4 {
			for next := place + 1; next < 5; next++ {
				for _, c := range []byte{0, 1, 2, 3, 4, 5, 6, 255} {
					for _, d := range []byte{0, 1, 2, 3, 4, 5, 6, 255} {
						b := bytes.Clone(whole)
						b[place], b[next] = c, d
						takes(t, b)
						takes(t, b[:next+1])
					}
				}
			}
		}
	}
}

// P14.1: all rows of four of the bytes at the edges, and of some more behind a request's beginning.
func TestTakeAllShort(t *testing.T) {
	for b := range rows([]byte{0, 1, 2, 3, 4, 5}, 5) {
		takes(t, b)
	}
	for b := range rows([]byte{0, 1, 2, 3, 4, 'a', '1', '.', '-'}, 4) {
		takes(t, joined([]byte{5, 1, 0}, string(b)))
		takes(t, joined([]byte{5, 1, 0, 3}, string(b)))
	}
}

// P14.1: all short names, and what is none, of which all or only some has arrived.
func TestTakeAllShortNames(t *testing.T) {
	for b := range rows([]byte("aZ09.-:"), 5) {
		for size := len(b); size <= len(b)+2; size++ {
			takes(t, joined([]byte{5, 1, 0, 3, byte(size)}, string(b)))
		}
		takes(t, name(string(b), 0))
		takes(t, name(string(b), 0, 80))
		takes(t, name(string(b), 0, 0))
	}
}

// P14.1: each length of a name, with as many bytes behind it as it says, fewer, and more.
func TestTakeEachLength(t *testing.T) {
	for length := range 256 {
		for n := range 60 {
			takes(t, joined([]byte{5, 1, 0, 3, byte(length)}, strings.Repeat("b", n)))
			takes(t, joined([]byte{5, 1, 0, 3, byte(length)}, strings.Repeat("1", n)))
		}
		s := strings.Repeat("C", length)
		target, n, e := Take(name(s, 0, 80))
		want, size, err := api.Target{}, 0, api.ErrForm
		if length >= 1 && length <= 40 {
			want, size, err = to(api.HkName, strings.Repeat("c", length), 80), 7+length, api.OK
		}
		if target != want || n != size || e != err {
			t.Errorf("%d: %#v %d %d", length, target, n, e)
		}
	}
}

// P14.1: each byte at each place of a name, which is then all there or ends with that byte.
func TestTakeEachByteOfAName(t *testing.T) {
	for _, s := range []string{"a", "bc", "d.e", "f-g", "1.2.h", name40} {
		for place := range len(s) {
			for c := range 256 {
				b := name(s, 0, 80)
				b[5+place] = byte(c)
				takes(t, b)
				takes(t, b[:6+place])
				takes(t, b[:len(b)-2])
			}
		}
	}
}

// P14.1: any bytes are an address, at each place and in each number of them.
func TestTakeEachByteOfAnAddress(t *testing.T) {
	for c := range 256 {
		for place := range 4 {
			four := []byte("1:a.")
			four[place] = byte(c)
			takes(t, v4(string(four), 0, 80, 0))
		}
		for place := range 16 {
			sixteen := []byte("1:a.-\x00\xff23456789Z")
			sixteen[place] = byte(c)
			takes(t, v6(string(sixteen), 0, 80, 0))
		}
		for n := range 30 {
			takes(t, v4(text(n, c)))
			takes(t, v6(text(n, c)))
		}
	}
}

// P14.1: each port, and its first byte with none behind it.
func TestTakeEachPort(t *testing.T) {
	for port := range 1 << 16 {
		for _, x := range []struct {
			b []byte
			h api.Host
		}{{v4("\x01\x02\x03\x04"), api.Host{Kind: api.HkV4, Text: "\x01\x02\x03\x04"}}, {v6(last16), api.Host{Kind: api.HkV6, Text: last16}}, {name("a"), api.Host{Kind: api.HkName, Text: "a"}}} {
			b := append(x.b, byte(port>>8), byte(port), 7)
			target, n, e := Take(b)
			want, size, err := api.Target{Host: x.h, Port: port}, len(b)-1, api.OK
			if port == 0 {
				want, size, err = api.Target{}, 0, api.ErrForm
			}
			if target != want || n != size || e != err {
				t.Fatalf("%v: %#v %d %d", b, target, n, e)
			}
			if target, n, e := Take(b[:len(b)-2]); target != (api.Target{}) || n != 0 || e != api.ErrMore {
				t.Fatalf("%v: %#v %d %d", b[:len(b)-2], target, n, e)
			}
		}
	}
}

// P14.1: what Take returns does not follow a later change of the input.
func TestTakeOwn(t *testing.T) {
	for _, b := range some() {
		want := asked(b)
		size := len(b)
		b = append(b, 7, 8)
		target, n, e := Take(b)
		for i := range b {
			b[i] ^= 255
		}
		if target != want || n != size || e != api.OK {
			t.Errorf("a change of the input reaches %#v %d %d", target, n, e)
		}
	}
}

// P14.2: targets of each kind, and those that are not valid.
func TestPrint(t *testing.T) {
	for _, x := range []struct {
		target api.Target
		want   []byte
	}{
		{to(api.HkV4, "\x0a\x00\x00\x07", 80), []byte{5, 1, 0, 1, 10, 0, 0, 7, 0, 80}},
		{to(api.HkV4, "\x00\x00\x00\x00", 1), []byte{5, 1, 0, 1, 0, 0, 0, 0, 0, 1}},
		{to(api.HkV4, "AZ.\xff", 65535), []byte{5, 1, 0, 1, 65, 90, 46, 255, 255, 255}},
		{to(api.HkV6, last16, 256), []byte{5, 1, 0, 4, 0, 0, 0, 0, 0, 0, 0, 0, 0, 0, 0, 0, 0, 0, 0, 1, 1, 0}},
		{to(api.HkV6, "ABCDEFGHIJKLMNO\xff", 255), []byte{5, 1, 0, 4, 65, 66, 67, 68, 69, 70, 71, 72, 73, 74, 75, 76, 77, 78, 79, 255, 0, 255}},
		{to(api.HkName, "a.b", 443), []byte{5, 1, 0, 3, 3, 97, 46, 98, 1, 187}},
		{to(api.HkName, "a", 258), []byte{5, 1, 0, 3, 1, 97, 1, 2}},
		{to(api.HkName, "1-z", 65280), []byte{5, 1, 0, 3, 3, 49, 45, 122, 255, 0}},
		{to(api.HkName, name40, 80), joined([]byte{5, 1, 0, 3, 40}, name40, 0, 80)},
		{api.Target{}, nil},
		{to(api.HkNone, "", 80), nil},
		{to(api.HkNone, "a", 80), nil},
		{to(4, "a", 80), nil},
		{to(4, last16, 80), nil},
		{to(255, "\x01\x02\x03\x04", 80), nil},
		{to(api.HkV4, "", 80), nil},
		{to(api.HkV4, "\x01\x02\x03", 80), nil},
		{to(api.HkV4, "\x01\x02\x03\x04\x05", 80), nil},
		{to(api.HkV4, "1.2.3.4", 80), nil},
		{to(api.HkV4, last16, 80), nil},
		{to(api.HkV6, "", 80), nil},
		{to(api.HkV6, "\x01\x02\x03\x04", 80), nil},
		{to(api.HkV6, last16[1:], 80), nil},
		{to(api.HkV6, last16+"\x00", 80), nil},
		{to(api.HkV6, "::1", 80), nil},
		{to(api.HkName, "", 80), nil},
		{to(api.HkName, "A", 80), nil},
		{to(api.HkName, "a.B", 80), nil},
		{to(api.HkName, "a..b", 80), nil},
		{to(api.HkName, ".a", 80), nil},
		{to(api.HkName, "a.", 80), nil},
		{to(api.HkName, "-a", 80), nil},
		{to(api.HkName, "a-", 80), nil},
		{to(api.HkName, "a.1", 80), nil},
		{to(api.HkName, "1", 80), nil},
		{to(api.HkName, "1.2.3.4", 80), nil},
		{to(api.HkName, "::1", 80), nil},
		{to(api.HkName, "a b", 80), nil},
		{to(api.HkName, "a\x00", 80), nil},
		{to(api.HkName, "\xff", 80), nil},
		{to(api.HkName, name41, 80), nil},
		{to(api.HkName, strings.Repeat("a", 255), 80), nil},
		{to(api.HkName, strings.Repeat("a", 257), 80), nil},
		{to(api.HkName, strings.Repeat("a", 1<<16+1), 80), nil},
		{to(api.HkName, "a", 0), nil},
		{to(api.HkName, "a", -1), nil},
		{to(api.HkName, "a", -80), nil},
		{to(api.HkName, "a", 65536), nil},
		{to(api.HkName, "a", 65537), nil},
		{to(api.HkName, "a", 1<<32+80), nil},
		{to(api.HkName, "a", -1<<63), nil},
		{to(api.HkName, "a", 1<<63-1), nil},
		{to(api.HkV4, "\x01\x02\x03\x04", 0), nil},
		{to(api.HkV4, "\x01\x02\x03\x04", 65536), nil},
		{to(api.HkV6, last16, 0), nil},
		{to(api.HkV6, last16, 65536), nil},
	} {
		want := api.OK
		if x.want == nil {
			want = api.ErrArg
		}
		if b, e := Print(x.target); !bytes.Equal(b, x.want) || e != want || e != api.OK && b != nil {
			t.Errorf("%#v: %v %d, want %v %d", x.target, b, e, x.want, want)
		}
	}
}

// P14.2: each kind with texts of each length, each byte in a name, and each port.
func TestPrintEach(t *testing.T) {
	for kind := range 256 {
		for n := range 60 {
			s := strings.Repeat("b", n)
			want, err := []byte(nil), api.ErrArg
			switch {
			case kind == int(api.HkV4) && n == 4:
				want, err = v4(s, 0, 80), api.OK
			case kind == int(api.HkV6) && n == 16:
				want, err = v6(s, 0, 80), api.OK
			case kind == int(api.HkName) && n >= 1 && n <= 40:
				want, err = name(s, 0, 80), api.OK
			}
			if b, e := Print(to(uint8(kind), s, 80)); !bytes.Equal(b, want) || e != err {
				t.Fatalf("kind %d, %d bytes: %v %d", kind, n, b, e)
			}
		}
	}
	for c := range 256 {
		for place := range 3 {
			s := []byte("abc")
			s[place] = byte(c)
			b, e := Print(to(api.HkName, string(s), 80))
			if isName(string(s)) && (!bytes.Equal(b, name(string(s), 0, 80)) || e != api.OK) || !isName(string(s)) && (b != nil || e != api.ErrArg) {
				t.Fatalf("%q: %v %d", s, b, e)
			}
		}
	}
	for port := 1; port < 1<<16; port++ {
		if b, e := Print(to(api.HkName, "a", port)); !bytes.Equal(b, name("a", byte(port/256), byte(port%256))) || e != api.OK {
			t.Fatalf("port %d: %v %d", port, b, e)
		}
	}
}

// P14.2: what Print returns is the caller's own, with all the memory behind it.
func TestPrintOwn(t *testing.T) {
	for _, want := range some() {
		want = []byte(lower(string(want)))
		target := asked(want)
		b, _ := Print(target)
		other, _ := Print(target)
		_ = append(b, 80, 81, 82)
		clear(b)
		if !bytes.Equal(other, want) || target != asked(want) {
			t.Errorf("a change of one request reaches %v %#v", other, target)
		}
	}
}

// P14.3 and the section 'Examples': the number of each code, and its reply, which is read as one of that number.
func TestReply(t *testing.T) {
	named := map[uint8]uint8{
		api.CdOK: 0, api.CdBad: 1, api.CdAuth: 2, api.CdMethod: 7, api.CdType: 8, api.CdLong: 1, api.CdLate: 1, api.CdBusy: 1,
		api.CdLoop: 2, api.CdRule: 2, api.CdQuota: 2, api.CdNoWay: 3, api.CdReach: 4, api.CdTime: 6,
	}
	for range 2 {
		for c := range 256 {
			code := uint8(c)
			want, ok := named[code]
			if !ok {
				want = 1
			}
			if n := Number(code); n != want {
				t.Errorf("%d: number %d, want %d", code, n, want)
			}
			b := Reply(code)
			if !bytes.Equal(b, []byte{5, want, 0, 1, 0, 0, 0, 0, 0, 0}) {
				t.Errorf("%d: %v", code, b)
			}
			if n, size, e := TakeReply(append(bytes.Clone(b), 5)); n != want || size != 10 || e != api.OK {
				t.Errorf("%d: %d %d %d", code, n, size, e)
			}
			other := Reply(code)
			_ = append(b, 80, 81, 82)
			clear(b)
			if !bytes.Equal(other, []byte{5, want, 0, 1, 0, 0, 0, 0, 0, 0}) {
				t.Errorf("%d: a change of one reply reaches %v", code, other)
			}
		}
	}
}

// P14.3 and the section 'Examples': replies, their proper prefixes, and bytes that can't become one.
func TestTakeReply(t *testing.T) {
	for _, x := range []struct {
		b    []byte
		want uint8
		n    int
		e    api.Errno
	}{
		{[]byte{5, 4, 0, 3, 1, 0, 7, 7}, 4, 8, api.OK},
		{[]byte{5, 2, 0, 1, 0, 0, 0, 0, 0, 0}, 2, 10, api.OK},
		{[]byte{5, 0, 0, 1, 1, 2, 3, 4, 0, 80, 9}, 0, 10, api.OK},
		{[]byte{5, 255, 0, 1, 255, 255, 255, 255, 255, 255}, 255, 10, api.OK},
		{[]byte{5, 9, 0, 1, 1, 2, 3, 4, 0, 0, 5, 0, 0}, 9, 10, api.OK},
		{joined([]byte{5, 1, 0, 4}, zero16, 0, 0), 1, 22, api.OK},
		{joined([]byte{5, 128, 0, 4}, text(16, 200), 255, 0, 1), 128, 22, api.OK},
		{[]byte{5, 0, 0, 3, 0, 0, 0}, 0, 7, api.OK},
		{[]byte{5, 6, 0, 3, 0, 7, 7, 9}, 6, 7, api.OK},
		{[]byte{5, 3, 0, 3, 1, 65, 0, 0}, 3, 8, api.OK},
		{[]byte{5, 3, 0, 3, 2, 46, 46, 0, 1}, 3, 9, api.OK},
		{joined([]byte{5, 3, 0, 3, 41}, text(41, 0), 0, 0), 3, 48, api.OK},
		{joined([]byte{5, 5, 0, 3, 255}, text(255, 0), 0, 0), 5, 262, api.OK},
		{joined([]byte{5, 5, 0, 3, 255}, text(255, 9), 1, 2, 3), 5, 262, api.OK},
		{nil, 0, 0, api.ErrMore},
		{[]byte{}, 0, 0, api.ErrMore},
		{[]byte{5}, 0, 0, api.ErrMore},
		{[]byte{5, 0}, 0, 0, api.ErrMore},
		{[]byte{5, 255}, 0, 0, api.ErrMore},
		{[]byte{5, 7, 0}, 0, 0, api.ErrMore},
		{[]byte{5, 7, 0, 1}, 0, 0, api.ErrMore},
		{[]byte{5, 7, 0, 3}, 0, 0, api.ErrMore},
		{[]byte{5, 7, 0, 4}, 0, 0, api.ErrMore},
		{[]byte{5, 7, 0, 1, 1, 2, 3}, 0, 0, api.ErrMore},
		{[]byte{5, 7, 0, 1, 1, 2, 3, 4}, 0, 0, api.ErrMore},
		{[]byte{5, 7, 0, 1, 1, 2, 3, 4, 0}, 0, 0, api.ErrMore},
		{joined([]byte{5, 1, 0, 4}, zero16, 0), 0, 0, api.ErrMore},
		{[]byte{5, 7, 0, 3, 0}, 0, 0, api.ErrMore},
		{[]byte{5, 7, 0, 3, 0, 0}, 0, 0, api.ErrMore},
		{[]byte{5, 7, 0, 3, 1, 0, 0}, 0, 0, api.ErrMore},
		{joined([]byte{5, 5, 0, 3, 255}, text(255, 0)), 0, 0, api.ErrMore},
		{joined([]byte{5, 5, 0, 3, 255}, text(255, 0), 0), 0, 0, api.ErrMore},
		{[]byte{0}, 0, 0, api.ErrForm},
		{[]byte{4}, 0, 0, api.ErrForm},
		{[]byte{6}, 0, 0, api.ErrForm},
		{[]byte{255}, 0, 0, api.ErrForm},
		{[]byte{4, 0, 0, 1, 1, 2, 3, 4, 0, 80}, 0, 0, api.ErrForm},
		{[]byte{5, 0, 1}, 0, 0, api.ErrForm},
		{[]byte{5, 1, 255}, 0, 0, api.ErrForm},
		{[]byte{5, 0, 1, 1, 1, 2, 3, 4, 0, 80}, 0, 0, api.ErrForm},
		{[]byte{5, 0, 0, 0}, 0, 0, api.ErrForm},
		{[]byte{5, 0, 0, 2}, 0, 0, api.ErrForm},
		{[]byte{5, 0, 0, 5}, 0, 0, api.ErrForm},
		{[]byte{5, 0, 0, 255}, 0, 0, api.ErrForm},
		{[]byte{5, 0, 0, 2, 1, 2, 3, 4, 0, 80}, 0, 0, api.ErrForm},
		{make([]byte, 22), 0, 0, api.ErrForm},
	} {
		if code, n, e := TakeReply(x.b); code != x.want || n != x.n || e != x.e {
			t.Errorf("%v: %d %d %d, want %d %d %d", x.b, code, n, e, x.want, x.n, x.e)
		}
		replies(t, x.b)
	}
}

// P14.3: each byte at each place of the first five, with all, some and none of a reply behind it.
func TestTakeReplyEachOfTheFirst(t *testing.T) {
	for _, whole := range [][]byte{Reply(api.CdOK), joined([]byte{5, 1, 0, 4}, last16, 0, 0), {5, 2, 0, 3, 0, 0, 0}, {5, 3, 0, 3, 2, 255, 0, 1, 1}} {
		for place := range 5 {
			for c := range 256 {
				b := append(bytes.Clone(whole), 5, 0)
				b[place] = byte(c)
				for _, n := range []int{place + 1, place + 2, len(whole) - 1, len(whole), len(b)} {
					replies(t, b[:n])
				}
			}
		}
	}
}

// P14.3: names of each length, with as many bytes behind it as it says, fewer, and more; addresses too.
func TestTakeReplyEachLength(t *testing.T) {
	for length := range 256 {
		for _, n := range []int{0, 1, 2, length - 1, length, length + 1, length + 2, length + 3, 262, 300} {
			replies(t, joined([]byte{5, byte(n), 0, 3, byte(length)}, text(max(n, 0), length)))
		}
		for n := range 30 {
			replies(t, joined([]byte{5, byte(length), 0, 1}, text(n, length)))
			replies(t, joined([]byte{5, byte(length), 0, 4}, text(n, length)))
		}
	}
}

// P14.3: any bytes are a name, an address and a port.
func TestTakeReplyEachByte(t *testing.T) {
	for _, whole := range [][]byte{Reply(api.CdOK), joined([]byte{5, 0, 0, 4}, last16, 1, 0), {5, 0, 0, 3, 2, 97, 98, 0, 0}, joined([]byte{5, 0, 0, 3, 255}, text(255, 0), 0, 0)} {
		for place := 5; place < len(whole); place++ {
			for c := range 256 {
				b := append(bytes.Clone(whole), 9)
				b[1], b[place] = byte(c), byte(c)
				if code, n, e := TakeReply(b); code != byte(c) || n != len(whole) || e != api.OK {
					t.Fatalf("%v: %d %d %d", b, code, n, e)
				}
			}
		}
	}
}

// P14.3: all rows of a few of the bytes at the edges, and of some behind a reply's beginning.
func TestTakeReplyAllShort(t *testing.T) {
	for b := range rows([]byte{0, 1, 3, 4, 5, 255}, 5) {
		replies(t, b)
	}
	for b := range rows([]byte{0, 1, 2, 255}, 6) {
		replies(t, joined([]byte{5, 0, 0, 3}, string(b)))
	}
}

// names are some of each length from 1 to 40, with hyphens, digits and dots in them.
func names() []string {
	all := []string{"a", "z9", "0a", "a-b", "a--b", "0-0", "1.a", "a.b.c", "1.2.3.4a", "example.org", "x1.y2.z3", name40}
	for n := 1; n <= 40; n++ {
		all = append(all, strings.Repeat("q", n), strings.Repeat("0", n-1)+"x", name40[40-n:][:n-1]+"y")
	}
	return slices.DeleteFunc(all, func(s string) bool { return !isName(s) })
}

// targets are some of each kind, with names of each length and with ports at the edges.
func targets() []api.Target {
	var hosts []api.Host
	for c := range 256 {
		hosts = append(hosts, api.Host{Kind: api.HkV4, Text: text(4, c)}, api.Host{Kind: api.HkV6, Text: text(16, c)})
	}
	for _, s := range names() {
		hosts = append(hosts, api.Host{Kind: api.HkName, Text: s})
	}
	var all []api.Target
	for _, h := range hosts {
		for _, port := range []int{1, 80, 255, 256, 257, 443, 65280, 65534, 65535} {
			all = append(all, api.Target{Host: h, Port: port})
		}
	}
	return all
}

// P14.4: what Print returns is read back, whatever follows it.
func TestReadBack(t *testing.T) {
	for _, target := range targets() {
		b, e := Print(target)
		if !isRequest(b) || e != api.OK {
			t.Fatalf("%#v: %v %d", target, b, e)
		}
		for _, more := range [][]byte{nil, {0}, {1}, {5}, {97}, {255}, {0, 0}, {46, 98}, b, []byte(text(300, len(b)))} {
			if read, n, e := Take(slices.Concat(b, more)); read != target || n != len(b) || e != api.OK {
				t.Fatalf("%#v with %v: %#v %d %d", target, more, read, n, e)
			}
		}
	}
}

// P14.4: all short names are read back.
func TestReadBackAllShort(t *testing.T) {
	count := 0
	for s := range rows([]byte("az09.-"), 5) {
		target := to(api.HkName, string(s), 80)
		b, e := Print(target)
		if isName(string(s)) != (e == api.OK) {
			t.Fatalf("%q: %d", s, e)
		}
		if e != api.OK {
			continue
		}
		count++
		if read, n, e := Take(append(b, 0)); read != target || n != len(b) || e != api.OK {
			t.Fatalf("%q: %#v %d %d", s, read, n, e)
		}
	}
	if count == 0 {
		t.Fatal("no name was printed")
	}
}

// P14.4: printing what was read yields the bytes that were read, with names in lower case.
func TestPrintedAgain(t *testing.T) {
	count := 0
	check := func(b []byte) {
		target, n, e := Take(b)
		if e != api.OK {
			return
		}
		count++
		want := bytes.Clone(b[:n])
		if want[3] == 3 {
			copy(want[5:], lower(string(want[5:n-2])))
		}
		if again, err := Print(target); !bytes.Equal(again, want) || err != api.OK {
			t.Fatalf("%v: %v %d", b[:n], again, err)
		}
	}
	for b := range rows([]byte{0, 1, 65, 97, 46}, 4) {
		check(v4(string(b), 65, 90))
		check(v6(zero16[len(b):]+string(b), 90, 0))
		check(name(string(b), 65, 90))
		check(joined([]byte{5, 1, 0, 3}, string(b), 65, 90, 1))
	}
	if count == 0 {
		t.Fatal("no request was read")
	}
	for _, s := range names() {
		for _, s := range []string{s, strings.ToUpper(s), strings.ToTitle(s[:1]) + s[1:]} {
			before := count
			check(name(s, 65, 90, 65))
			if count == before {
				t.Fatalf("%q: not read", s)
			}
		}
	}
}

// P14.5: more bytes change no result other than ErrMore.
func TestMoreBytes(t *testing.T) {
	check := func(b []byte) {
		target, n, e := Take(b)
		code, size, err := TakeReply(b)
		for more := range rows([]byte{0, 1, 'a', '.', 255}, 2) {
			longer := slices.Concat(b, more)
			if u, k, x := Take(longer); e != api.ErrMore && (u != target || k != n || x != e) {
				t.Fatalf("Take of %v: %#v %d %d, and with %v: %#v %d %d", b, target, n, e, more, u, k, x)
			}
			if c, k, x := TakeReply(longer); err != api.ErrMore && (c != code || k != size || x != err) {
				t.Fatalf("TakeReply of %v: %d %d %d, and with %v: %d %d %d", b, code, size, err, more, c, k, x)
			}
		}
	}
	for b := range rows([]byte{0, 1, 3, 4, 5}, 5) {
		check(b)
	}
	for b := range rows([]byte{1, 3, 'A', '1', '.', '-'}, 5) {
		check(joined([]byte{5, 1, 0, 3}, string(b)))
	}
	for b := range rows([]byte{0, 1, 255}, 3) {
		check(v4("\x01\x02\x03", b...))
		check(v6(last16[1:], b...))
		check(name(name40, b...))
	}
}

// P14.5: each proper prefix of a request is ErrMore, and so is that of a reply.
func TestPrefixes(t *testing.T) {
	for _, target := range targets() {
		b, _ := Print(target)
		for n := range b {
			if read, size, e := Take(b[:n]); read != (api.Target{}) || size != 0 || e != api.ErrMore {
				t.Fatalf("%d bytes of %v: %#v %d %d", n, b, read, size, e)
			}
		}
	}
	all := [][]byte{joined([]byte{5, 1, 0, 4}, last16, 0, 0)}
	for code := range 256 {
		all = append(all, Reply(uint8(code)), joined([]byte{5, byte(code), 0, 3, byte(code)}, text(code, code), 0, 0))
	}
	for _, b := range all {
		for n := range b {
			if code, size, e := TakeReply(b[:n]); code != 0 || size != 0 || e != api.ErrMore {
				t.Fatalf("%d bytes of %v: %d %d %d", n, b, code, size, e)
			}
		}
		if code, size, e := TakeReply(b); code != b[1] || size != len(b) || e != api.OK {
			t.Fatalf("%v: %d %d %d", b, code, size, e)
		}
	}
}

// P14.5: bytes that arrive one by one are read as soon as all of the message is there, and no sooner; those that can't become one are an error as soon as that is so.
func TestByteByByte(t *testing.T) {
	for _, first := range append(some(),
		name("Example.ORG", 0, 80), name("a..b", 0, 80), name("-a", 0, 80), name("a-", 0, 80), name("a.1", 0, 80), name("1.2.3.4", 0, 80), name("::1", 0, 80), name("", 0, 80), name(name41, 0, 80),
		v4("1234", 0, 0), v6(last16, 0, 0), name("a", 0, 0), []byte{5, 2, 0, 1, 1, 2, 3, 4, 0, 80}, []byte{5, 1, 1, 1, 1, 2, 3, 4, 0, 80}, []byte{5, 1, 0, 2, 1, 2, 3, 4, 0, 80}, []byte{4, 2, 1, 2},
		Reply(api.CdOK), Reply(api.CdTime), []byte{5, 4, 0, 3, 1, 0, 7, 7}, []byte{5, 4, 0, 3, 0, 7, 7}, joined([]byte{5, 5, 0, 3, 255}, text(255, 0), 0, 0), joined([]byte{5, 0, 0, 4}, last16, 0, 0),
	) {
		b := append(bytes.Clone(first), 5, 1, 0, 1)
		for n := range len(b) + 1 {
			takes(t, b[:n])
			replies(t, b[:n])
		}
	}
}

// P14.6: upper-case letters at any places of a name result in the same target, and so do they in what is not yet a name, or can't be one.
func TestCase(t *testing.T) {
	for _, s := range []string{"a", "z", "a.b", "m-n", "1x", "ex4m.org", "abcdefgh", "stuvwxyz", "a..b", "ab-", "a.1"} {
		for set := range 1 << len(s) {
			b := []byte(s)
			for i, c := range b {
				if set>>i&1 == 1 && c >= 'a' && c <= 'z' {
					b[i] = c - 32
				}
			}
			target, n, e := Take(name(string(b), 1, 187))
			if want, size, err := Take(name(s, 1, 187)); target != want || n != size || e != err || isName(s) && target.Host.Text != s {
				t.Fatalf("%q: %#v %d %d, want %#v %d %d", b, target, n, e, want, size, err)
			}
			takes(t, name(string(b)))
			takes(t, joined([]byte{5, 1, 0, 3, 40}, string(b)))
		}
	}
	for _, s := range names() {
		for place := range len(s) {
			b := []byte(s)
			b[place] = strings.ToUpper(s)[place]
			if target, n, e := Take(name(string(b), 0, 80)); target != to(api.HkName, s, 80) || n != len(s)+7 || e != api.OK {
				t.Fatalf("%q: %#v %d %d", b, target, n, e)
			}
		}
	}
}

// P14.6: a byte has no other form unless it is a letter from A to Z.
func TestCaseOfOtherBytes(t *testing.T) {
	for c := range 256 {
		s := "a" + string([]byte{byte(c)}) + "z"
		target, n, e := Take(name(s, 0, 80))
		want, size, err := to(api.HkName, lower(s), 80), 10, api.OK
		if !strings.Contains("abcdefghijklmnopqrstuvwxyz0123456789.-", lower(s)[1:2]) {
			want, size, err = api.Target{}, 0, api.ErrForm
		}
		if target != want || n != size || e != err {
			t.Errorf("%d: %#v %d %d", c, target, n, e)
		}
	}
}

// No call depends on the memory behind its input, or on calls before it.
func TestMemoryBehind(t *testing.T) {
	all := slices.Concat(name("a.b", 0, 80), Reply(api.CdOK))
	for n := range len(all) + 1 {
		for range 2 {
			u, k, x := Take(all[:n])
			target, size, e := Take(bytes.Clone(all[:n]))
			if u != target || k != size || x != e {
				t.Errorf("%d bytes: %#v %d %d, want %#v %d %d", n, u, k, x, target, size, e)
			}
		}
	}
}
