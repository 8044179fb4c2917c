package head

import (
	"bytes"
	"regexp"
	"slices"
	"sort"
	"strings"
	"testing"

	"postilion/api"
)

// rows enumerates all rows of at most so many of the pieces.
func rows(of []string, most int) func(yield func(string) bool) {
	return func(yield func(string) bool) {
		row := []string{""}
		for range most + 1 {
			var longer []string
			for _, s := range row {
				if !yield(s) {
					return
				}
				for _, piece := range of {
					longer = append(longer, s+piece)
				}
			}
			row = longer
		}
	}
}

var (
	whole  = regexp.MustCompile("^[ -~]+\r\n([!#$%&'*+.^_`|~0-9A-Za-z-]+:[ -~\t]*\r\n)*\r\n$")
	full   = regexp.MustCompile("^[ -~]+\r\n([!#$%&'*+.^_`|~0-9A-Za-z-]+:[ -~\t]*\r\n){16}$")
	line   = regexp.MustCompile("^[ -~]+$")
	called = regexp.MustCompile("^[!#$%&'*+.^_`|~0-9A-Za-z-]+$")
	kept   = regexp.MustCompile("^([!-~]([ -~\t]*[!-~])?)?$")
)

// isHead says whether all of b is one head.
func isHead(b string) bool {
	return len(b) <= 512 && whole.MatchString(b) && strings.Count(b, "\r\n") <= 18
}

// tails are what makes heads of their prefixes, wherever they end.
var tails = []string{"", "A\r\n\r\n", "\r\n\r\n", "\n\r\n", "\r\n", "\n", ":\r\n\r\n"}

// may says whether a head of any length, with any number of fields, begins with b, or is b.
func may(b string) bool {
	return slices.ContainsFunc(tails, func(tail string) bool { return whole.MatchString(b + tail) })
}

// lowered returns s with its letters from A to Z in lower case, and all other bytes as they are.
func lowered(s string) string {
	b := []byte(s)
	for i, c := range b {
		if j := strings.IndexByte("ABCDEFGHIJKLMNOPQRSTUVWXYZ", c); j >= 0 {
			b[i] = "abcdefghijklmnopqrstuvwxyz"[j]
		}
	}
	return string(b)
}

// told returns what the head tells that is all of b.
func told(b string) Head {
	lines := strings.Split(strings.TrimSuffix(b, "\r\n\r\n"), "\r\n")
	h := Head{Line: lines[0]}
	for _, l := range lines[1:] {
		name, value, _ := strings.Cut(l, ":")
		h.Fields = append(h.Fields, [2]string{lowered(name), strings.Trim(value, " \t")})
	}
	return h
}

// wanted says what is read from b: so many bytes, or the error of the first byte at which one arises, or ErrMore.
func wanted(b string) (int, api.Errno) {
	if end := strings.Index(b, "\r\n\r\n"); end >= 0 && isHead(b[:end+4]) {
		return end + 4, api.OK
	}
	wrong := sort.Search(len(b), func(i int) bool { return !may(b[:i+1]) })
	long := len(b)
	if len(b) > 511 {
		long = 511
	}
	for i := range long { // a line more, and it doesn't end the head
		if strings.HasSuffix(b[:i], "\r\n") && full.MatchString(b[:i]) && b[i] != '\r' {
			long = i
			break
		}
	}
	switch {
	case wrong <= long && wrong < len(b):
		return 0, api.ErrForm
	case long < len(b):
		return 0, api.ErrLong
	}
	return 0, api.ErrMore
}

// equal says whether two heads are, in all.
func equal(a, b Head) bool {
	return a.Line == b.Line && slices.Equal(a.Fields, b.Fields)
}

// takes fails the test unless Take reads from b what the chapter says, and leaves b as it was.
func takes(t *testing.T, b string) {
	t.Helper()
	given := []byte(b)
	h, n, e := Take(given)
	size, err := wanted(b)
	var want Head
	if size > 0 {
		want = told(b[:size])
	}
	if !equal(h, want) || n != size || e != err {
		t.Fatalf("%q: %q %d %d, want %q %d %d", b, h, n, e, want, size, err)
	}
	if e != api.OK && h.Fields != nil {
		t.Fatalf("%q: fields beside an error", b)
	}
	if string(given) != b {
		t.Fatalf("%q became %q", b, given)
	}
}

// fields returns so many lines of fields.
func fields(n int) string { return strings.Repeat("n:v\r\n", n) }

// as returns so many letters.
func as(n int) string { return strings.Repeat("A", n) }

// P15.1 and the section 'Examples': heads, with and without bytes behind them.
func TestTake(t *testing.T) {
	for _, x := range []struct {
		b    string
		want Head
		n    int
	}{
		{"A b\r\nXy: c d \r\nz:\r\n\r\n", Head{"A b", [][2]string{{"xy", "c d"}, {"z", ""}}}, 21},
		{"A\r\n\r\n", Head{"A", nil}, 5},
		{"A\r\n\r\n\r\n", Head{"A", nil}, 5},
		{"A\r\n\r\nB\r\n\r\n", Head{"A", nil}, 5},
		{"A\r\n\r\n\x00", Head{"A", nil}, 5},
		{" \r\n\r\n", Head{" ", nil}, 5},
		{"  \r\n\r\n\r", Head{"  ", nil}, 6},
		{" A \r\n\r\n", Head{" A ", nil}, 7},
		{":\r\n\r\n", Head{":", nil}, 5},
		{"x: y\r\n\r\n", Head{"x: y", nil}, 8},
		{"~\r\n\r\n", Head{"~", nil}, 5},
		{"CONNECT A.b:443 HTTP/1.1\r\nHost: A.b:443\r\n\r\n\x05\x01", Head{"CONNECT A.b:443 HTTP/1.1", [][2]string{{"host", "A.b:443"}}}, 43},
		{"A\r\nx:\r\n\r\n", Head{"A", [][2]string{{"x", ""}}}, 9},
		{"A\r\nx:y\r\n\r\n", Head{"A", [][2]string{{"x", "y"}}}, 10},
		{"A\r\nx::\r\n\r\n", Head{"A", [][2]string{{"x", ":"}}}, 10},
		{"A\r\nx:y:z\r\n\r\n", Head{"A", [][2]string{{"x", "y:z"}}}, 12},
		{"A\r\nx: y: z\r\n\r\n", Head{"A", [][2]string{{"x", "y: z"}}}, 14},
		{"A\r\nx: \r\n\r\n", Head{"A", [][2]string{{"x", ""}}}, 10},
		{"A\r\nx:\t\r\n\r\n", Head{"A", [][2]string{{"x", ""}}}, 10},
		{"A\r\nx: \t \t\t  \r\n\r\n", Head{"A", [][2]string{{"x", ""}}}, 16},
		{"A\r\nx: y\r\n\r\n", Head{"A", [][2]string{{"x", "y"}}}, 11},
		{"A\r\nx:y \r\n\r\n", Head{"A", [][2]string{{"x", "y"}}}, 11},
		{"A\r\nx:\ty\t\r\n\r\n", Head{"A", [][2]string{{"x", "y"}}}, 12},
		{"A\r\nx: \t  Y \tz\t \r\n\r\n", Head{"A", [][2]string{{"x", "Y \tz"}}}, 19},
		{"A\r\nx:a b\r\n\r\n", Head{"A", [][2]string{{"x", "a b"}}}, 12},
		{"A\r\nx:a\tb\r\n\r\n", Head{"A", [][2]string{{"x", "a\tb"}}}, 12},
		{"A\r\nx:  a\t \tb\r\n\r\n", Head{"A", [][2]string{{"x", "a\t \tb"}}}, 16},
		{"A\r\nABC-xyz-019:ABC\r\n\r\n", Head{"A", [][2]string{{"abc-xyz-019", "ABC"}}}, 22},
		{"A\r\nx:1\r\nX:2\r\nx:1\r\ny:3\r\n\r\n", Head{"A", [][2]string{{"x", "1"}, {"x", "2"}, {"x", "1"}, {"y", "3"}}}, 25},
		{"A\r\nb:2\r\na:1\r\n\r\n", Head{"A", [][2]string{{"b", "2"}, {"a", "1"}}}, 15},
		{"A\r\n!#$%&'*+-.^_`|~:v\r\n\r\n", Head{"A", [][2]string{{"!#$%&'*+-.^_`|~", "v"}}}, 24},
		{"A\r\n0:~\r\n9: !\r\n\r\n", Head{"A", [][2]string{{"0", "~"}, {"9", "!"}}}, 16},
		{"HTTP/1.1 200 OK\r\n\r\nbody", Head{"HTTP/1.1 200 OK", nil}, 19},
	} {
		if h, n, e := Take([]byte(x.b)); !equal(h, x.want) || n != x.n || e != api.OK {
			t.Errorf("%q: %q %d %d, want %q %d", x.b, h, n, e, x.want, x.n)
		}
		takes(t, x.b)
	}
}

// P15.1 and the section 'Examples': proper prefixes of heads, no bytes among them.
func TestTakeMore(t *testing.T) {
	if h, n, e := Take(nil); !equal(h, Head{}) || h.Fields != nil || n != 0 || e != api.ErrMore {
		t.Errorf("nil: %q %d %d", h, n, e)
	}
	for _, b := range []string{
		"", "A", " ", "~", ":", "A ", "A b", "A\r", "A\r\n", "A\r\n\r", "A\r\nx", "A\r\nX", "A\r\n!", "A\r\n-", "A\r\nx:", "A\r\nx::", "A\r\nx: ", "A\r\nx:\t", "A\r\nx:y", "A\r\nx:\r", "A\r\nx:y\r", "A\r\nx:y \r", "A\r\nx:\r\n", "A\r\nx:y\r\n", "A\r\nx:y\r\n\r", "A\r\nx:y\r\nx",
		as(511), as(510) + "\r", as(509) + "\r\n", as(508) + "\r\n\r", "A\r\n" + as(508), "A\r\nx:" + as(506), "A\r\nx:" + as(505) + "\r", "A\r\nx:" + as(504) + "\r\n", "A\r\nx:" + as(503) + "\r\n\r",
		"A\r\n" + fields(16), "A\r\n" + fields(16) + "\r", "A\r\n" + fields(15) + "n:" + strings.Repeat(" ", 500-75-1) + "\r\n",
	} {
		if h, n, e := Take([]byte(b)); !equal(h, Head{}) || h.Fields != nil || n != 0 || e != api.ErrMore {
			t.Errorf("%q: %q %d %d", b, h, n, e)
		}
		takes(t, b)
	}
}

// P15.1 and the section 'Examples': which error it is, and that it arises at the last byte first, and stays whatever follows.
func TestTakeWrong(t *testing.T) {
	for _, x := range []struct {
		b string
		e api.Errno
	}{
		{"\r", api.ErrForm}, {"\n", api.ErrForm}, {"\t", api.ErrForm}, {"\x00", api.ErrForm}, {"\x1f", api.ErrForm}, {"\x7f", api.ErrForm}, {"\x80", api.ErrForm}, {"\xff", api.ErrForm},
		{"A\t", api.ErrForm}, {"A\n", api.ErrForm}, {"A\x00", api.ErrForm}, {"A\x7f", api.ErrForm}, {"A\xc3", api.ErrForm},
		{"A\rx", api.ErrForm}, {"A\r\r", api.ErrForm}, {"A\r ", api.ErrForm}, {"A\r\x00", api.ErrForm},
		{"A\r\n\n", api.ErrForm}, {"A\r\n ", api.ErrForm}, {"A\r\n\t", api.ErrForm}, {"A\r\n:", api.ErrForm}, {"A\r\n(", api.ErrForm}, {"A\r\n\"", api.ErrForm}, {"A\r\n/", api.ErrForm}, {"A\r\n@", api.ErrForm}, {"A\r\n\x00", api.ErrForm}, {"A\r\n\x80", api.ErrForm},
		{"A\r\nx ", api.ErrForm}, {"A\r\nx\t", api.ErrForm}, {"A\r\nx\r", api.ErrForm}, {"A\r\nx\n", api.ErrForm}, {"A\r\nx\x00", api.ErrForm}, {"A\r\nx;", api.ErrForm}, {"A\r\nx\xe2", api.ErrForm},
		{"A\r\nx:\n", api.ErrForm}, {"A\r\nx:\x00", api.ErrForm}, {"A\r\nx:\x7f", api.ErrForm}, {"A\r\nx:\x80", api.ErrForm}, {"A\r\nx:y\n", api.ErrForm}, {"A\r\nx:y\x0b", api.ErrForm}, {"A\r\nx:y\xff", api.ErrForm},
		{"A\r\nx:\rx", api.ErrForm}, {"A\r\nx:\r\r", api.ErrForm}, {"A\r\nx:y\r ", api.ErrForm}, {"A\r\nx:y\r\n ", api.ErrForm}, {"A\r\nx:y\r\n\t", api.ErrForm}, {"A\r\nx:y\r\n:", api.ErrForm}, {"A\r\nx:y\r\n\n", api.ErrForm},
		{"A\r\n\r\r", api.ErrForm}, {"A\r\n\rx", api.ErrForm}, {"A\r\n\r ", api.ErrForm}, {"A\r\nx:y\r\n\r\x00", api.ErrForm},
		{as(512), api.ErrLong}, {as(511) + "\r", api.ErrLong}, {as(510) + "\r\n", api.ErrLong}, {as(509) + "\r\n\r", api.ErrLong}, {as(509) + "\r\nx", api.ErrLong}, {as(508) + "\r\nx:", api.ErrLong}, {as(507) + "\r\nx:y", api.ErrLong}, {as(506) + "\r\nx:y\r", api.ErrLong}, {as(505) + "\r\nx:y\r\n", api.ErrLong}, {as(504) + "\r\nx:y\r\n\r", api.ErrLong},
		{as(511) + "\n", api.ErrForm}, {as(511) + "\t", api.ErrForm}, {as(510) + "\r\r", api.ErrForm}, {as(510) + "\rx", api.ErrForm}, {as(509) + "\r\n ", api.ErrForm}, {as(509) + "\r\n:", api.ErrForm}, {as(508) + "\r\n\r\r", api.ErrForm}, {as(508) + "\r\n\rx", api.ErrForm}, {as(508) + "\r\nx ", api.ErrForm}, {as(507) + "\r\nx:\x00", api.ErrForm},
		{"A\r\n" + fields(16) + "n", api.ErrLong}, {"A\r\n" + fields(16) + "N", api.ErrLong}, {"A\r\n" + fields(16) + "!", api.ErrLong}, {"A\r\n" + fields(16) + "0", api.ErrLong},
		{"A\r\n" + fields(16) + " ", api.ErrForm}, {"A\r\n" + fields(16) + ":", api.ErrForm}, {"A\r\n" + fields(16) + "\n", api.ErrForm}, {"A\r\n" + fields(16) + "\x80", api.ErrForm},
	} {
		for _, tail := range []string{"", "\r\n\r\n", "\n", "A", "\r\n" + as(600)} {
			if h, n, e := Take([]byte(x.b + tail)); !equal(h, Head{}) || h.Fields != nil || n != 0 || e != x.e {
				t.Errorf("%q behind %q: %q %d %d, want %d", tail, x.b, h, n, e, x.e)
			}
		}
		if _, _, e := Take([]byte(x.b[:len(x.b)-1])); e != api.ErrMore {
			t.Errorf("%q: %d ahead of its last byte", x.b, e)
		}
		takes(t, x.b)
	}
}

// places are what stands ahead of each kind of place in a head.
var places = []string{
	"", "A", "A ", "A b", "A\r", "A\r\n", "A\r\n\r", "A\r\nx", "A\r\nX-y", "A\r\nx:", "A\r\nx: ", "A\r\nx:\t", "A\r\nx:y", "A\r\nx: y ", "A\r\nx:y\r", "A\r\nx:y \r", "A\r\nx:\r", "A\r\nx:y\r\n", "A\r\nx:y\r\n\r", "A\r\nx:y\r\nz", "A\r\nx:y\r\nz:",
}

// P15.1: each byte at each kind of place, with nothing and with each kind of bytes behind it.
func TestTakeEachByte(t *testing.T) {
	for _, ahead := range places {
		for c := range 256 {
			for _, tail := range []string{"", "\n", "\r\n", ":v\r\n\r\n", "v\r\n\r\n", "\r\n\r\n", "\n\r\n", "\n\r\n\r\n"} {
				takes(t, ahead+string([]byte{byte(c)})+tail)
			}
		}
	}
}

// P15.1: a first line of one byte, each byte, and of more, at each place.
func TestTakeEachByteOfTheLine(t *testing.T) {
	for c := range 256 {
		b := []byte{byte(c), '\r', '\n', '\r', '\n'}
		h, n, e := Take(b)
		if c >= 32 && c <= 126 {
			if h.Line != string(b[:1]) || len(h.Fields) != 0 || n != 5 || e != api.OK {
				t.Errorf("%d: %q %d %d", c, h, n, e)
			}
		} else if !equal(h, Head{}) || n != 0 || e != api.ErrForm {
			t.Errorf("%d: %q %d %d", c, h, n, e)
		}
		for place := range 7 {
			b := []byte("A b c d\r\nx: y\r\n\r\n")
			b[place] = byte(c)
			takes(t, string(b))
		}
	}
}

// P15.1: two wrong bytes at once: the first one tells the error.
func TestTakeTwoWrong(t *testing.T) {
	for _, ahead := range places {
		for _, c := range []string{"\x00", "\n", "\r", " ", ":", "\x80", "a"} {
			for _, between := range []string{"", "A", "\r\n", "\n", as(510 - len(ahead)), as(511 - len(ahead)), "\n" + strings.Repeat("n:v\r\n", 16)} {
				for _, d := range []string{"\x00", "\n", "\r", " ", ":", "\x80", "a"} {
					takes(t, ahead+c+between+d)
				}
			}
		}
	}
}

// P15.1: all short rows of the bytes at the edges, alone and behind beginnings.
func TestTakeAllShort(t *testing.T) {
	for b := range rows([]string{"A", ":", " ", "\t", "\r", "\n", "\x00"}, 6) {
		takes(t, b)
	}
	for b := range rows([]string{"a", "Z", ":", " ", "\t", "\r\n", "\r", "\xff"}, 4) {
		takes(t, "A\r\n"+b)
		takes(t, "A\r\nx:"+b)
		takes(t, "A\r\nx:"+b+"\r\n\r\n")
	}
	for b := range rows([]string{"A", "b:", "c: d", "\r\n", " ", ":"}, 6) {
		takes(t, b)
	}
}

// P15.1: values of all kinds of white space.
func TestTakeValues(t *testing.T) {
	for v := range rows([]string{" ", "\t", "a", "~"}, 6) {
		h, n, e := Take([]byte("A\r\nx:" + v + "\r\ny:" + v + "\r\n\r\n"))
		want := strings.Trim(v, " \t")
		if !equal(h, Head{"A", [][2]string{{"x", want}, {"y", want}}}) || n != 13+2*len(v) || e != api.OK {
			t.Fatalf("%q: %q %d %d", v, h, n, e)
		}
	}
}

// P15.1: each byte in a field's name, at its beginning, within it and at its end.
func TestTakeEachByteOfAName(t *testing.T) {
	for c := range 256 {
		for place := range 3 {
			name := []byte("Abc")
			name[place] = byte(c)
			h, n, e := Take([]byte("A\r\n" + string(name) + ":v\r\n\r\n"))
			if called.MatchString(string(name)) {
				if !equal(h, Head{"A", [][2]string{{lowered(string(name)), "v"}}}) || n != 12 || e != api.OK {
					t.Errorf("%q: %q %d %d", name, h, n, e)
				}
			} else if place == 0 || c != ':' {
				if !equal(h, Head{}) || n != 0 || e != api.ErrForm {
					t.Errorf("%q: %q %d %d", name, h, n, e)
				}
			}
			takes(t, "A\r\n"+string(name)+":v\r\n\r\n")
		}
	}
}

// P15.1: each number of fields.
func TestTakeFields(t *testing.T) {
	for count := range 20 {
		b := "A\r\n" + fields(count) + "\r\n"
		want, size, err := Head{Line: "A"}, len(b), api.OK
		for range count {
			want.Fields = append(want.Fields, [2]string{"n", "v"})
		}
		if count > 16 {
			want, size, err = Head{}, 0, api.ErrLong
		}
		if h, n, e := Take([]byte(b)); !equal(h, want) || n != size || e != err {
			t.Errorf("%d fields: %q %d %d", count, h, n, e)
		}
		for n := range b {
			takes(t, b[:n])
		}
		takes(t, b+"n:v\r\n")
	}
}

// P15.1: each byte where a field may begin, behind each number of fields.
func TestTakeBehindFields(t *testing.T) {
	for count := range 18 {
		for c := range 256 {
			for _, tail := range []string{"", ":", "\n", ":v\r\n\r\n"} {
				takes(t, "A\r\n"+fields(count)+string([]byte{byte(c)})+tail)
			}
		}
	}
}

// long are heads of n bytes, of each kind, and the places of their last bytes: within the line, a name, a value.
func long(n int) []string {
	return []string{
		as(n-4) + "\r\n\r\n",
		"A\r\n" + as(n-8) + ":\r\n\r\n",
		"A\r\nx:" + as(n-9) + "\r\n\r\n",
		"A\r\nx:" + strings.Repeat(" ", n-9) + "\r\n\r\n",
		"A\r\n" + fields(15) + "x:" + as(n-84) + "\r\n\r\n",
		as(n-84) + "\r\n" + fields(16) + "\r\n",
	}
}

// P15.1: heads of lengths about the greatest.
func TestTakeLong(t *testing.T) {
	for size := 505; size < 520; size++ {
		for _, b := range long(size) {
			if len(b) != size {
				t.Fatalf("%d bytes for %d: %q", len(b), size, b)
			}
			want, length, err := told(b), size, api.OK
			if size > 512 {
				want, length, err = Head{}, 0, api.ErrLong
			}
			for _, tail := range []string{"", "A", "\r\n", "\x00"} {
				if h, n, e := Take([]byte(b + tail)); !equal(h, want) || n != length || e != err {
					t.Errorf("%d bytes: %q %d %d", size, h, n, e)
				}
			}
			takes(t, b)
		}
	}
}

// P15.1: each byte as the 512th, and those at the edges as those beside it, in each state.
func TestTake512th(t *testing.T) {
	for size := 510; size <= 513; size++ {
		for _, ahead := range []string{
			as(size - 1), as(size-2) + "\r", as(size-3) + "\r\n", as(size-4) + "\r\n\r", as(size-4) + "\r\nx", as(size-5) + "\r\nx:", as(size-6) + "\r\nx:y", as(size-7) + "\r\nx:y\r", as(size-8) + "\r\nx:y\r\n", as(size-9) + "\r\nx:y\r\n\r",
			"A\r\n" + as(size-4), "A\r\nx:" + as(size-6), as(size-83) + "\r\n" + fields(16), as(size-84) + "\r\n" + fields(16) + "\r",
		} {
			if len(ahead) != size-1 {
				t.Fatalf("%d bytes for %d", len(ahead), size-1)
			}
			for c := range 256 {
				if size == 512 || strings.IndexByte("\x00\t\n\r :A\x7f\x80", byte(c)) >= 0 {
					takes(t, ahead+string([]byte{byte(c)}))
				}
			}
			takes(t, ahead)
			takes(t, ahead+"\n\r\n")
			takes(t, ahead+"A\n")
		}
	}
}

// some are heads of each kind.
func some() []string {
	return append([]string{
		"A\r\n\r\n", " \r\n\r\n", "A b\r\nXy: c d \r\nz:\r\n\r\n", "A\r\nx: \t\r\nX:\t a\tb \r\nx:::\r\n\r\n", "A\r\n!#$%&'*+-.^_`|~:v\r\n\r\n", "A\r\n" + fields(16) + "\r\n",
		"CONNECT a.b:443 HTTP/1.1\r\nHost: a.b:443\r\nProxy-Authorization: Basic dTpwOnE=\r\nHop-Token: x,y\r\n\r\n",
	}, long(512)...)
}

// P15.1: what Take returns is the caller's own: it does not follow a later change of the input, and no list shares its memory with another one.
func TestTakeOwn(t *testing.T) {
	for _, b := range some() {
		given := []byte(b + "more")
		h, n, e := Take(given)
		other, _, _ := Take(given)
		for i := range given {
			given[i] ^= 3
		}
		other.Fields = append(other.Fields, [2]string{"q", "q"})
		clear(other.Fields)
		if !equal(h, told(b)) || n != len(b) || e != api.OK {
			t.Errorf("a change reaches %q %d %d", h, n, e)
		}
	}
}

// P15.5: each proper prefix of a head results in ErrMore, and no bytes behind it change what is read.
func TestPrefixes(t *testing.T) {
	for _, b := range some() {
		for n := range b {
			if h, size, e := Take([]byte(b[:n])); !equal(h, Head{}) || size != 0 || e != api.ErrMore {
				t.Fatalf("%d bytes of %q: %q %d %d", n, b, h, size, e)
			}
		}
		for c := range 256 {
			if h, n, e := Take(append([]byte(b), byte(c), 'x', '\r', '\n')); !equal(h, told(b)) || n != len(b) || e != api.OK {
				t.Fatalf("%q with %d behind it: %q %d %d", b, c, h, n, e)
			}
		}
	}
	for _, ahead := range places {
		for c := range 256 {
			b := append([]byte(ahead), byte(c))
			h, n, e := Take(b)
			if e == api.ErrMore {
				continue
			}
			for _, tail := range []string{"\n", "A", ":", "\r\n\r\n", "\x00", as(600)} {
				if other, size, err := Take(append(bytes.Clone(b), tail...)); !equal(other, h) || size != n || err != e {
					t.Fatalf("%q: %q %d %d, and with %q behind it %q %d %d", b, h, n, e, tail, other, size, err)
				}
			}
		}
	}
}

// prints fails the test unless Print returns of h what the chapter says, and leaves h as it was.
func prints(t *testing.T, h Head) {
	t.Helper()
	before := Head{h.Line, slices.Clone(h.Fields)}
	want := h.Line + "\r\n"
	ok := line.MatchString(h.Line) && len(h.Fields) <= 16
	for _, f := range h.Fields {
		ok = ok && called.MatchString(f[0]) && kept.MatchString(f[1])
		want += f[0] + ":"
		if len(f[1]) > 0 {
			want += " "
		}
		want += f[1] + "\r\n"
	}
	want += "\r\n"
	err := api.OK
	if !ok || len(want) > 512 {
		want, err = "", api.ErrArg
	}
	b, e := Print(h)
	if string(b) != want || e != err || e != api.OK && b != nil {
		t.Fatalf("%q: %q %d, want %q %d", h, b, e, want, err)
	}
	if !equal(h, before) {
		t.Fatalf("%q became %q", before, h)
	}
	if e != api.OK {
		return
	}
	for i := range before.Fields { // P15.4: it is read back, whatever follows it
		before.Fields[i][0] = lowered(before.Fields[i][0])
	}
	for _, tail := range []string{"", "\r\n", "A", "\x00", "n:v\r\n\r\n"} {
		if read, n, e := Take(append(bytes.Clone(b), tail...)); !equal(read, before) || n != len(want) || e != api.OK {
			t.Fatalf("%q is read back as %q %d %d", b, read, n, e)
		}
	}
}

// with returns a head with the line A and these names and values.
func with(parts ...string) Head {
	h := Head{Line: "A"}
	for i := 0; i < len(parts); i += 2 {
		h.Fields = append(h.Fields, [2]string{parts[i], parts[i+1]})
	}
	return h
}

// P15.2: heads that can be printed.
func TestPrint(t *testing.T) {
	for _, x := range []struct {
		h    Head
		want string
	}{
		{Head{Line: "A b", Fields: [][2]string{{"Xy", "c d"}, {"z", ""}}}, "A b\r\nXy: c d\r\nz:\r\n\r\n"},
		{with(), "A\r\n\r\n"},
		{Head{"A", [][2]string{}}, "A\r\n\r\n"},
		{Head{" ", nil}, " \r\n\r\n"},
		{Head{" A ", nil}, " A \r\n\r\n"},
		{Head{"~:", nil}, "~:\r\n\r\n"},
		{Head{"x: y", nil}, "x: y\r\n\r\n"},
		{with("x", "y"), "A\r\nx: y\r\n\r\n"},
		{with("x", ""), "A\r\nx:\r\n\r\n"},
		{with("X", "Y"), "A\r\nX: Y\r\n\r\n"},
		{with("x", ":"), "A\r\nx: :\r\n\r\n"},
		{with("x", "a \t b"), "A\r\nx: a \t b\r\n\r\n"},
		{with("x", "1", "X", "2", "x", "1"), "A\r\nx: 1\r\nX: 2\r\nx: 1\r\n\r\n"},
		{with("b", "", "a", "!"), "A\r\nb:\r\na: !\r\n\r\n"},
		{with("!#$%&'*+-.^_`|~09azAZ", "~"), "A\r\n!#$%&'*+-.^_`|~09azAZ: ~\r\n\r\n"},
	} {
		if b, e := Print(x.h); string(b) != x.want || e != api.OK {
			t.Errorf("%q: %q %d", x.h, b, e)
		}
		prints(t, x.h)
	}
}

// P15.2: heads that can't be printed.
func TestPrintWrong(t *testing.T) {
	for _, h := range []Head{
		{}, {"", [][2]string{{"x", "y"}}}, {"\t", nil}, {"A\t", nil}, {"\r", nil}, {"\n", nil}, {"A\r", nil}, {"A\n", nil}, {"A\r\n", nil}, {"\r\nA", nil}, {"A\r\nx:y", nil}, {"A\r\nx: y", [][2]string{{"x", "y"}}}, {"A\r\n\r\n", nil}, {"A\r\n\r\nB", nil}, {"A\x00", nil}, {"A\x7f", nil}, {"A\x80", nil}, {"\u00e4", nil},
		with("", ""), with("", "v"), with("a b", "v"), with(" a", "v"), with("a ", "v"), with("a:", "v"), with(":", "v"), with("a:b", ""), with("a:b", "v"), with("a: b", ""), with("a\tb", "v"), with("a\r", "v"), with("a\n", "v"), with("\r\n", "v"), with("a:\r\nb", "v"), with("a: c\r\nb", "v"), with("a\x00", "v"), with("a\x7f", "v"), with("\x80", "v"), with("\u00e4", "v"), with("a;", "v"), with("(", "v"), with("a\"", "v"),
		with("a", " "), with("a", "\t"), with("a", " v"), with("a", "v "), with("a", "\tv"), with("a", "v\t"), with("a", "  "), with("a", " v "), with("a", "\n"), with("a", "\r"), with("a", "v\r"), with("a", "\r\n"), with("a", "v\r\n"), with("a", "v\r\n\r\n"), with("a", "v\r\nb: w"), with("a", "v\r\nb:"), with("a", "v\r\nb:", "b", ""), with("a", "\x00"), with("a", "\x7f"), with("a", "\x80"), with("a", "v\u00e4"), with("a", "v", "b", "w\n"), with("a", "v", "", "w"),
		{"A", make([][2]string, 1)}, {"A", make([][2]string, 16)}, {"A", make([][2]string, 17)},
		{"A", slices.Repeat([][2]string{{"n", "v"}}, 17)}, {"A", slices.Repeat([][2]string{{"n", ""}}, 17)}, {"A", slices.Repeat([][2]string{{"n", "v"}}, 1000)},
		{as(509), nil}, {as(513), nil}, {as(100000), nil}, with("a", strings.Repeat("v", 503)), with(as(505), ""), with(as(503), "v"),
	} {
		if b, e := Print(h); b != nil || e != api.ErrArg {
			t.Errorf("%q: %q %d", h, b, e)
		}
		prints(t, h)
	}
}

// P15.2: heads of each number of fields, and of each number of bytes about the greatest.
func TestPrintLong(t *testing.T) {
	for n := range 20 {
		prints(t, Head{"A", slices.Repeat([][2]string{{"N", "v"}}, n)})
		prints(t, Head{"A", slices.Repeat([][2]string{{"N", ""}}, n)})
	}
	for n := 400; n < 520; n++ {
		prints(t, Head{as(n), nil})
		prints(t, with(as(n), ""))
		prints(t, with(as(n), "v"))
		prints(t, with("n", as(n)))
		prints(t, Head{as(n), slices.Repeat([][2]string{{"N", ""}}, 16)})
		prints(t, Head{as(n), slices.Repeat([][2]string{{"N", "v"}}, 16)})
	}
	for _, x := range []struct {
		h Head
		n int
	}{{Head{as(507), nil}, 511}, {Head{as(508), nil}, 512}, {Head{as(509), nil}, 0}, {with("a", as(502)), 512}, {with("a", as(503)), 0}, {with(as(504), ""), 512}, {with(as(505), ""), 0}, {with(as(502), "v"), 512}, {with(as(503), "v"), 0}} {
		b, e := Print(x.h)
		if len(b) != x.n || (e == api.OK) != (x.n > 0) {
			t.Errorf("%d bytes %d, want %d", len(b), e, x.n)
		}
	}
}

// P15.2: each byte in each part of a head, at its beginning, within it, at its end, and alone.
func TestPrintEachByte(t *testing.T) {
	for c := range 256 {
		s := string([]byte{byte(c)})
		for _, part := range []string{s, s + "a", "a" + s, "a" + s + "b"} {
			prints(t, Head{part, nil})
			prints(t, Head{part, [][2]string{{"n", "v"}}})
			prints(t, with(part, ""))
			prints(t, with(part, "v"))
			prints(t, with("n", part))
			prints(t, with("n", "v", part, part))
		}
	}
}

// P15.2: all short parts of the bytes at the edges, which may make another head of this one.
func TestPrintAllShort(t *testing.T) {
	for s := range rows([]string{"a", ":", " ", "\t", "\r", "\n", "\r\n"}, 4) {
		prints(t, Head{s, nil})
		prints(t, Head{"B" + s, [][2]string{{"n", ""}}})
		prints(t, with(s, ""))
		prints(t, with(s, "v"))
		prints(t, with("n", s))
		prints(t, with("n", s, "m", ""))
	}
}

// P15.2: what Print returns is the caller's own.
func TestPrintOwn(t *testing.T) {
	h := with("Xy", "c d", "z", "")
	b, _ := Print(h)
	other, _ := Print(h)
	_ = append(b, "more"...)
	clear(b)
	if string(other) != "A\r\nXy: c d\r\nz:\r\n\r\n" || !equal(h, with("Xy", "c d", "z", "")) {
		t.Errorf("a change of what was printed reaches %q %q", other, h)
	}
	h.Fields[0][0] = "q"
	if string(other) != "A\r\nXy: c d\r\nz:\r\n\r\n" {
		t.Errorf("a change of the head reaches %q", other)
	}
}

// P15.3: heads that are equal, and ones that differ in one thing.
func TestSame(t *testing.T) {
	all := []Head{
		{}, {"A", nil}, {"a", nil}, {"A ", nil}, {"B", nil}, {"", [][2]string{{"", ""}}},
		with("", ""), with("", "", "", ""), with("x", ""), with("", "x"), with("X", ""), with("x", "y"), with("x", "Y"), with("x", "y "), with("x", "yx"), with("xy", "x"), with("xyx", ""),
		with("x", "y", "z", "w"), with("z", "w", "x", "y"), with("x", "y", "z", "q"), with("x", "y", "q", "w"), with("x", "y", "x", "y"), with("x", "y", "z", "w", "x", "y"), with("x", "w", "z", "y"), with("x", "yz", "", "w"),
		{"B", [][2]string{{"x", "y"}}}, {"A\r\nx: y", nil}, {"A", make([][2]string, 17)}, {"\xff", nil}, {"\xfe", nil},
	}
	for i, a := range all {
		for j, b := range all {
			b = Head{b.Line, slices.Clone(b.Fields)}
			if Same(a, b) != (i == j) {
				t.Errorf("%q and %q: %v", a, b, i != j)
			}
			if !equal(a, all[i]) || !equal(b, all[j]) {
				t.Errorf("%q or %q was changed", a, b)
			}
		}
	}
	if !Same(Head{"A", nil}, Head{"A", [][2]string{}}) || !Same(Head{"A", [][2]string{}}, Head{"A", nil}) {
		t.Error("no fields and an empty list of them differ")
	}
}

// P15.3: names, and what is none.
func TestName(t *testing.T) {
	for s, want := range map[string]bool{
		"": false, "a": true, "Z": true, "0": true, "Hop-Token": true, "proxy-authorization": true, "!#$%&'*+-.^_`|~": true,
		"a b": false, " ": false, " a": false, "a ": false, "a\t": false, ":": false, "a:": false, "a\r\n": false, "(": false, "a/b": false, "\x00": false, "\x7f": false, "\x80": false, "\u00e4": false, "a\u00e4": false, "\u212a": false,
		as(600): true, as(600) + " ": false,
	} {
		if Name(s) != want {
			t.Errorf("%q: %v", s, !want)
		}
	}
	for c := range 256 {
		want := c >= '0' && c <= '9' || c >= 'A' && c <= 'Z' || c >= 'a' && c <= 'z' || c == 33 || c >= 35 && c <= 39 || c == 42 || c == 43 || c == 45 || c == 46 || c >= 94 && c <= 96 || c == 124 || c == 126
		s := string([]byte{byte(c)})
		for _, name := range []string{s, s + "a", "a" + s, "a" + s + "b"} {
			if Name(name) != want {
				t.Errorf("%q: %v", name, !want)
			}
		}
	}
}

// P15.3: each byte in lower case.
func TestLower(t *testing.T) {
	for s, want := range map[string]string{
		"": "", "a": "a", "A": "a", "aB\xc9": "ab\xc9", "HTTP/1.1 [@Z]": "http/1.1 [@z]", "\u00c4\u212a\u0130": "\u00c4\u212a\u0130", "ABCDEFGHIJKLMNOPQRSTUVWXYZ": "abcdefghijklmnopqrstuvwxyz", as(600): strings.Repeat("a", 600),
	} {
		if s := Lower(s); s != want {
			t.Errorf("%q, want %q", s, want)
		}
	}
	for c := range 256 {
		s := string([]byte{'B', byte(c), '\xff', 'z'})
		if low := Lower(s); low != lowered(s) {
			t.Errorf("%q: %q", s, low)
		}
	}
}

// P15.3: values of names that occur never, once and several times, and in another case.
func TestValues(t *testing.T) {
	h := with("x", "1", "y", "", "x", "2", "X", "3", "z", "4", "x", "1", "", "5")
	for name, want := range map[string][]string{
		"x": {"1", "2", "1"}, "X": {"3"}, "y": {""}, "z": {"4"}, "Y": nil, "Z": nil, "xx": nil, "x ": nil, "": {"5"}, "\xff": nil,
	} {
		if l := h.Values(name); !slices.Equal(l, want) {
			t.Errorf("%q: %q", name, l)
		}
	}
	if l := (Head{}).Values(""); len(l) != 0 {
		t.Errorf("%q of no head", l)
	}
	if l := (Head{Line: "x"}).Values("x"); len(l) != 0 {
		t.Errorf("%q of a head without fields", l)
	}
	read, _, _ := Take([]byte("A\r\nHost: a\r\nhost: b\r\nHOST:\r\n\r\n"))
	if l := read.Values("host"); !slices.Equal(l, []string{"a", "b", ""}) || len(read.Values("Host")) != 0 {
		t.Errorf("%q", l)
	}
}

// P15.3: what Values returns is the caller's own.
func TestValuesOwn(t *testing.T) {
	h := with("x", "1", "y", "2", "x", "3")
	l, other := h.Values("x"), h.Values("x")
	_ = append(l, "4")
	clear(l)
	if !slices.Equal(other, []string{"1", "3"}) || !equal(h, with("x", "1", "y", "2", "x", "3")) {
		t.Errorf("a change of one list reaches %q %q", other, h)
	}
	h.Fields[0][1] = "5"
	if !slices.Equal(other, []string{"1", "3"}) {
		t.Errorf("a change of the head reaches %q", other)
	}
}

// P15.4: what was read can be printed, in at most as many bytes as it had and fields, and is read back as the same.
func TestRoundTrip(t *testing.T) {
	tried := 0
	back := func(b string) {
		h, n, e := Take([]byte(b))
		if e != api.OK {
			return
		}
		printed, e := Print(h)
		if n+len(h.Fields) > 512 && e != api.OK {
			return
		}
		tried++
		if e != api.OK || len(printed) > n+len(h.Fields) {
			t.Fatalf("%q: %q %d", b, printed, e)
		}
		read, size, e := Take(append(bytes.Clone(printed), "\r\n"...))
		if !equal(read, h) || size != len(printed) || e != api.OK {
			t.Fatalf("%q: %q, which is read back as %q %d %d", b, printed, read, size, e)
		}
	}
	for size := 90; size <= 512; size++ {
		for _, b := range long(size) {
			back(b)
		}
	}
	for _, b := range some() {
		back(b)
	}
	for b := range rows([]string{"A", "b:", "C: d", "\r\n", " ", "\t", ":"}, 6) {
		back("A\r\n" + b + "\r\n\r\n")
	}
	if tried < 3000 {
		t.Errorf("%d heads were read", tried)
	}
	for size := 496; size <= 512; size++ { // 16 fields, each a byte longer when it is printed
		h, _, _ := Take([]byte(as(size-84) + "\r\n" + fields(16) + "\r\n"))
		if b, e := Print(h); (e == api.OK) != (size == 496) || e == api.OK && len(b) != 512 {
			t.Errorf("%d bytes: %d %d", size, len(b), e)
		}
	}
}

// P15.1 and P15.2: Print refuses what Take would not read back, by its own words.
func TestPrintIsWhatIsRead(t *testing.T) {
	for s := range rows([]string{"a", ":", " ", "\r\n", "b: c"}, 5) {
		for _, h := range []Head{{s, nil}, with(s, ""), with("n", s), with("n", s, "a", "")} {
			text := h.Line + "\r\n"
			meant := Head{Line: h.Line}
			for _, f := range h.Fields {
				text += f[0] + ":"
				if f[1] != "" {
					text += " " + f[1]
				}
				text += "\r\n"
				meant.Fields = append(meant.Fields, [2]string{lowered(f[0]), f[1]})
			}
			text += "\r\n"
			size, _ := wanted(text)
			ok := size == len(text) && equal(told(text), meant)
			if b, e := Print(h); ok && (string(b) != text || e != api.OK) || !ok && (b != nil || e != api.ErrArg) {
				t.Fatalf("%q: %q %d", h, b, e)
			}
		}
	}
}
