package ascii

import (
	"bytes"
	"math"
	"math/big"
	"strconv"
	"strings"
	"testing"

	"postilion/api"
)

// texts enumerates all strings of at most so many bytes, each from the alphabet.
func texts(alphabet string, most int) func(yield func(string) bool) {
	return func(yield func(string) bool) {
		row := []string{""}
		for range most + 1 {
			var longer []string
			for _, s := range row {
				if !yield(s) {
					return
				}
				for i := range len(alphabet) {
					longer = append(longer, s+alphabet[i:i+1])
				}
			}
			row = longer
		}
	}
}

// at fails the test unless the reader has read and left so many bytes.
func at(t *testing.T, r *Reader, read, left int) {
	t.Helper()
	if r.At() != read || r.Left() != left {
		t.Fatalf("at %d, %d left; want %d, %d", r.At(), r.Left(), read, left)
	}
}

// read returns a reader of b that has read the first n bytes.
func read(t *testing.T, b []byte, n int) *Reader {
	t.Helper()
	r := New(b)
	for range n {
		if _, e := r.Byte(); e != api.OK {
			t.Fatalf("Byte of %v: %d", b, e)
		}
	}
	at(t, r, n, len(b)-n)
	return r
}

// P2.1: texts of numbers, at both ends of the ints.
func TestNumber(t *testing.T) {
	for _, c := range []struct {
		n int
		s string
	}{
		{0, "0"}, {1, "1"}, {9, "9"}, {10, "10"}, {11, "11"}, {80, "80"}, {99, "99"}, {100, "100"}, {1009, "1009"}, {65535, "65535"}, {1 << 40, "1099511627776"}, {math.MaxInt - 1, "9223372036854775806"}, {math.MaxInt, "9223372036854775807"},
	} {
		if s, e := Number(c.n); s != c.s || e != api.OK {
			t.Errorf("%d: %q %d", c.n, s, e)
		}
	}
	for _, n := range []int{-1, -2, -10, math.MinInt + 1, math.MinInt} {
		if s, e := Number(n); s != "" || e != api.ErrArg {
			t.Errorf("%d: %q %d", n, s, e)
		}
	}
}

// P2.1: what is parsed, what is not, and within which bounds.
func TestParse(t *testing.T) {
	for _, c := range []struct {
		s               string
		least, greatest int
		n               int
		e               api.Errno
	}{
		{"80", 1, 65535, 80, api.OK}, {"1", 1, 65535, 1, api.OK}, {"65535", 1, 65535, 65535, api.OK}, {"7", 7, 7, 7, api.OK}, {"1000", 999, 1001, 1000, api.OK},
		{"0", 0, 0, 0, api.OK}, {"0", 0, math.MaxInt, 0, api.OK}, {"0", 1, 9, 0, api.ErrForm}, {"1", 0, 0, 0, api.ErrForm}, {"5", 0, 3, 0, api.ErrForm}, {"9", 0, 8, 0, api.ErrForm},
		{"65536", 1, 65535, 0, api.ErrForm}, {"655350", 1, 65535, 0, api.ErrForm}, {"6", 7, 7, 0, api.ErrForm}, {"8", 7, 7, 0, api.ErrForm}, {"99", 100, 200, 0, api.ErrForm}, {"201", 100, 200, 0, api.ErrForm}, {"2000", 100, 200, 0, api.ErrForm},
		{"", 0, 9, 0, api.ErrForm}, {"080", 1, 65535, 0, api.ErrForm}, {"00", 0, 9, 0, api.ErrForm}, {"01", 0, 9, 0, api.ErrForm}, {"000", 0, 999, 0, api.ErrForm}, {"10", 0, 99, 10, api.OK}, {"100", 0, 999, 100, api.OK},
		{"-1", 0, 9, 0, api.ErrForm}, {"+1", 0, 9, 0, api.ErrForm}, {"-0", 0, 9, 0, api.ErrForm}, {" 1", 0, 9, 0, api.ErrForm}, {"1 ", 0, 9, 0, api.ErrForm}, {"1\n", 0, 9, 0, api.ErrForm}, {"1\x00", 0, 9, 0, api.ErrForm}, {"a", 0, 99, 0, api.ErrForm}, {"1a", 0, 99, 0, api.ErrForm}, {"1_0", 0, 99, 0, api.ErrForm}, {"1.0", 0, 99, 0, api.ErrForm}, {"0x1", 0, 99, 0, api.ErrForm}, {"1e1", 0, 99, 0, api.ErrForm}, {"\xd9\xa1", 0, 99, 0, api.ErrForm},
	} {
		if n, e := Parse(c.s, c.least, c.greatest); n != c.n || e != c.e {
			t.Errorf("%q from %d to %d: %d %d", c.s, c.least, c.greatest, n, e)
		}
	}
}

// P2.1: numbers near 2^63, beyond it, and those that a wrap-round would take for small ones.
func TestParseGreatest(t *testing.T) {
	const top = math.MaxInt
	for _, c := range []struct {
		s               string
		least, greatest int
		n               int
		e               api.Errno
	}{
		{"9223372036854775806", 0, top, top - 1, api.OK}, {"9223372036854775807", 0, top, top, api.OK}, {"9223372036854775807", top, top, top, api.OK}, {"9223372036854775806", top, top, 0, api.ErrForm}, {"9223372036854775807", 0, top - 1, 0, api.ErrForm},
		{"9223372036854775808", 0, top, 0, api.ErrForm}, {"9223372036854775809", 0, top, 0, api.ErrForm}, {"9223372036854775810", 0, top, 0, api.ErrForm}, {"9999999999999999999", 0, top, 0, api.ErrForm}, {"92233720368547758070", 0, top, 0, api.ErrForm}, {"92233720368547758079", 0, top, 0, api.ErrForm},
		{"18446744073709551615", 0, top, 0, api.ErrForm}, {"18446744073709551616", 0, top, 0, api.ErrForm}, {"18446744073709551621", 0, top, 0, api.ErrForm}, {"18446744073709551621", 0, 9, 0, api.ErrForm}, {"36893488147419103237", 0, 9, 0, api.ErrForm},
		{"09223372036854775807", 0, top, 0, api.ErrForm}, {strings.Repeat("9", 400), 0, top, 0, api.ErrForm}, {"1" + strings.Repeat("0", 400), 0, top, 0, api.ErrForm}, {strings.Repeat("0", 400), 0, top, 0, api.ErrForm},
	} {
		if n, e := Parse(c.s, c.least, c.greatest); n != c.n || e != c.e {
			t.Errorf("%q from %d to %d: %d %d", c.s, c.least, c.greatest, n, e)
		}
	}
}

// P2.1: bounds that contain no number, or one below 0, whatever the text: ErrArg comes before ErrForm.
func TestParseBounds(t *testing.T) {
	for _, b := range [][2]int{{-1, 9}, {-1, -1}, {math.MinInt, math.MaxInt}, {math.MinInt, math.MinInt}, {1, 0}, {9, 6}, {math.MaxInt, 0}, {0, -1}, {0, math.MinInt}, {math.MaxInt, math.MaxInt - 1}} {
		for _, s := range []string{"", "0", "1", "5", "9", "05", "x", "-1", "9223372036854775807", "9223372036854775808"} {
			if n, e := Parse(s, b[0], b[1]); n != 0 || e != api.ErrArg {
				t.Errorf("%q from %d to %d: %d %d", s, b[0], b[1], n, e)
			}
		}
	}
}

// parsed says what the chapter asks of Parse, with numbers that are never too great.
func parsed(s string, least, greatest int) (int, api.Errno) {
	if least < 0 || least > greatest {
		return 0, api.ErrArg
	}
	n, ok := new(big.Int).SetString(s, 10)
	if !ok || n.String() != s || n.Cmp(big.NewInt(int64(least))) < 0 || n.Cmp(big.NewInt(int64(greatest))) > 0 {
		return 0, api.ErrForm
	}
	return int(n.Int64()), api.OK
}

// P2.1: all short texts of a few bytes, within bounds at which one digit decides.
func TestParseAllShortTexts(t *testing.T) {
	for s := range texts("0159+-/: ", 4) {
		for _, b := range [][2]int{{0, 0}, {0, 4}, {0, 5}, {1, 9}, {5, 15}, {9, 10}, {10, 99}, {0, 155}, {159, 951}, {0, 999}, {1, 5159}, {0, math.MaxInt}, {-1, 5}, {6, 5}} {
			n, e := Parse(s, b[0], b[1])
			if wn, we := parsed(s, b[0], b[1]); n != wn || e != we {
				t.Errorf("%q from %d to %d: %d %d, want %d %d", s, b[0], b[1], n, e, wn, we)
			}
		}
	}
}

// P2.1: each byte, alone, and before and behind a digit.
func TestParseEachByte(t *testing.T) {
	for c := range 256 {
		for _, s := range []string{string([]byte{byte(c)}), string([]byte{'1', byte(c)}), string([]byte{byte(c), '1'}), string([]byte{'1', byte(c), '1'})} {
			n, e := Parse(s, 0, 999)
			if wn, we := parsed(s, 0, 999); n != wn || e != we {
				t.Errorf("%q: %d %d, want %d %d", s, n, e, wn, we)
			}
		}
	}
}

// P2.1: each text about a bound, with bounds of each length.
func TestParseAboutTheBounds(t *testing.T) {
	for _, greatest := range []int{0, 1, 8, 9, 10, 11, 19, 20, 99, 100, 101, 255, 256, 999, 1000, 65535, api.MaxNumber, math.MaxInt - 10, math.MaxInt - 1, math.MaxInt} {
		for d := int64(-12); d <= 12; d++ {
			s := new(big.Int).Add(big.NewInt(int64(greatest)), big.NewInt(d)).String()
			for _, least := range []int{0, max(greatest-3, 0), greatest} {
				n, e := Parse(s, least, greatest)
				if wn, we := parsed(s, least, greatest); n != wn || e != we {
					t.Errorf("%q from %d to %d: %d %d, want %d %d", s, least, greatest, n, e, wn, we)
				}
			}
		}
	}
}

// P2.2: words of each length, and what is near one.
func TestWord(t *testing.T) {
	for s, want := range map[string]bool{
		"a": true, "z": true, "0": true, "9": true, "a1": true, "1a": true, "007": true, "letters": true, "eightlet": true, "12345678": true, "zzzz9999": true,
		"": false, "ninebytes": false, "123456789": false, strings.Repeat("a", 16): false, strings.Repeat("a", 256): false, strings.Repeat("a", 257): false,
		"A": false, "A1": false, "aB": false, "eightleT": false, "NINEBYTES": false, "a-b": false, "a b": false, " a": false, "a ": false, "a\n": false, "a.b": false, "a;b": false, "a,b": false, "a_b": false, "\x00": false, "\xff": false, "ä": false, "aä": false, "１": false,
	} {
		if Word(s) != want {
			t.Errorf("%q: %v", s, !want)
		}
	}
}

// P2.2: each byte at each place of a word of each length.
func TestWordEachByte(t *testing.T) {
	for c := range 256 {
		good := strings.Contains("abcdefghijklmnopqrstuvwxyz0123456789", string([]byte{byte(c)}))
		for length := 1; length <= api.MaxID+1; length++ {
			for place := range length {
				b := bytes.Repeat([]byte{'m'}, length)
				b[place] = byte(c)
				if want := good && length <= api.MaxID; Word(string(b)) != want {
					t.Fatalf("%q: %v", b, !want)
				}
			}
		}
	}
}

// P2.2: each byte's lower-case form, alone and among others.
func TestLower(t *testing.T) {
	const great, small = "ABCDEFGHIJKLMNOPQRSTUVWXYZ", "abcdefghijklmnopqrstuvwxyz"
	for c := range 256 {
		was := string([]byte{byte(c)})
		want := was
		if i := strings.Index(great, was); i >= 0 {
			want = small[i : i+1]
		}
		for _, side := range [][2]string{{"", ""}, {"a", ""}, {"", "z"}, {"-", "\xff"}, {"\xc3", "\x80"}} {
			if s := Lower(side[0] + was + side[1]); s != side[0]+want+side[1] {
				t.Errorf("%q: %q", side[0]+was+side[1], s)
			}
		}
	}
	for s, want := range map[string]string{"": "", great: small, small: small, "Example.ORG:80": "example.org:80", "@[`{": "@[`{", "ÄÖ": "ÄÖ", "\u212a": "\u212a", "\u0130": "\u0130", "A\xffB": "a\xffb", "\xc0\xc1": "\xc0\xc1"} {
		if got := Lower(s); got != want {
			t.Errorf("%q: %q", s, got)
		}
	}
}

// P2.2: each pair of bytes.
func TestSameEachPair(t *testing.T) {
	for a := range 256 {
		for b := range 256 {
			x, y := string([]byte{byte(a)}), string([]byte{byte(b)})
			small, great := min(a, b), max(a, b)
			want := a == b || small >= 'A' && small <= 'Z' && great == small+32
			if Same(x, y) != want || Same("p"+x+"q", "P"+y+"Q") != want {
				t.Errorf("%q, %q: %v", x, y, !want)
			}
		}
	}
}

// P2.2: strings of several bytes; those that only Unicode takes for the same are not.
func TestSame(t *testing.T) {
	for _, c := range []struct {
		a, b string
		want bool
	}{
		{"", "", true}, {"host", "HOST", true}, {"Proxy-Authorization", "proxy-authorizatioN", true}, {"a\xff", "A\xff", true}, {"ä", "ä", true},
		{"", "a", false}, {"a", "ab", false}, {"ab", "a", false}, {"a", "a ", false}, {"ab", "ba", false}, {"a", "b", false}, {"k", "\u212a", false}, {"K", "\u212a", false}, {"s", "\u017f", false}, {"ä", "Ä", false}, {"\xff", "\xfe", false}, {"\xff", "\ufffd", false}, {"@", "`", false}, {"[", "{", false},
	} {
		if Same(c.a, c.b) != c.want || Same(c.b, c.a) != c.want {
			t.Errorf("%q, %q: %v", c.a, c.b, !c.want)
		}
	}
}

// P2.3: a new reader has read nothing, and has nothing to do with another one.
func TestNew(t *testing.T) {
	for _, b := range [][]byte{nil, {}} {
		at(t, New(b), 0, 0)
	}
	b := []byte{1, 2, 3}
	x, y := New(b), New(b)
	at(t, x, 0, 3)
	x.Byte()
	x.Pair()
	at(t, x, 3, 0)
	at(t, y, 0, 3)
}

// No call panics: a Reader of no value has nothing to read.
func TestZeroReader(t *testing.T) {
	r := new(Reader)
	for what, want := range []api.Errno{api.ErrMore, api.ErrMore, api.ErrArg, api.OK, api.ErrMore, api.ErrMore, api.ErrMore} {
		if a := call(r, nil, what); a.e != want || a.bytes != "" {
			t.Errorf("call %d: %v", what, a)
		}
	}
	at(t, r, 0, 0)
}

// P2.3: the reader has bytes of its own; what is passed is neither kept nor changed.
func TestNewCopies(t *testing.T) {
	b := []byte{1, 2, 3, 'a', 13, 10, 4, 5}
	r := New(b)
	clear(b)
	if c, e := r.Byte(); c != 1 || e != api.OK {
		t.Errorf("%d %d", c, e)
	}
	if n, e := r.Pair(); n != 2<<8+3 || e != api.OK {
		t.Errorf("%d %d", n, e)
	}
	if s, e := r.Line(1); s != "a" || e != api.OK {
		t.Errorf("%q %d", s, e)
	}
	if got, e := r.Bytes(2); !bytes.Equal(got, []byte{4, 5}) || e != api.OK {
		t.Errorf("%v %d", got, e)
	}
	if !bytes.Equal(b, make([]byte, 8)) {
		t.Errorf("what was passed is changed: %v", b)
	}
}

// P2.3: each byte; and none when none is left, as often as it is asked.
func TestByte(t *testing.T) {
	all := make([]byte, 256)
	for i := range all {
		all[i] = byte(i)
	}
	r := New(all)
	for i := range all {
		if c, e := r.Byte(); int(c) != i || e != api.OK {
			t.Fatalf("%d: %d %d", i, c, e)
		}
		at(t, r, i+1, 255-i)
	}
	for range 3 {
		if c, e := r.Byte(); c != 0 || e != api.ErrMore {
			t.Fatalf("%d %d", c, e)
		}
		at(t, r, 256, 0)
	}
}

// P2.3: each pair.
func TestPair(t *testing.T) {
	for n := range 1 << 16 {
		r := New([]byte{byte(n >> 8), byte(n), 7})
		if got, e := r.Pair(); got != n || e != api.OK {
			t.Fatalf("%d: %d %d", n, got, e)
		}
		at(t, r, 2, 1)
	}
}

// P2.3: a single byte is no pair, and is still there when a pair was asked for.
func TestPairOfTooFew(t *testing.T) {
	for _, b := range [][]byte{nil, {9}} {
		r := New(b)
		for range 2 {
			if n, e := r.Pair(); n != 0 || e != api.ErrMore {
				t.Errorf("%v: %d %d", b, n, e)
			}
			at(t, r, 0, len(b))
		}
	}
	r := read(t, []byte{1, 2, 9}, 2)
	if n, e := r.Pair(); n != 0 || e != api.ErrMore {
		t.Errorf("%d %d", n, e)
	}
	if c, e := r.Byte(); c != 9 || e != api.OK {
		t.Errorf("%d %d", c, e)
	}
}

// P2.3: Bytes of every number, at every place: below 0, 0, just what is left, one more, and far more.
func TestBytes(t *testing.T) {
	all := []byte{1, 2, 3, 4, 5}
	for place := range len(all) + 1 {
		for _, n := range []int{math.MinInt, -2, -1, 0, 1, 2, 3, 4, 5, 6, 7, math.MaxInt - 1, math.MaxInt} {
			r := read(t, all, place)
			var want []byte
			err, now := api.OK, place
			switch {
			case n < 0:
				err = api.ErrArg
			case n > len(all)-place:
				err = api.ErrMore
			default:
				want, now = all[place:place+n], place+n
			}
			if b, e := r.Bytes(n); !bytes.Equal(b, want) || e != err {
				t.Errorf("place %d, %d: %v %d", place, n, b, e)
			}
			at(t, r, now, len(all)-now)
		}
	}
}

// P2.3: a number below 0 is told before there are too few bytes.
func TestBytesOfNone(t *testing.T) {
	r := New(nil)
	if b, e := r.Bytes(0); len(b) != 0 || e != api.OK {
		t.Errorf("%v %d", b, e)
	}
	if b, e := r.Bytes(-1); b != nil || e != api.ErrArg {
		t.Errorf("%v %d", b, e)
	}
	if b, e := r.Bytes(1); b != nil || e != api.ErrMore {
		t.Errorf("%v %d", b, e)
	}
}

// P2.3: what is returned belongs to the caller: to write into it, or to append to it, changes nothing that is read later.
func TestBytesAreCopies(t *testing.T) {
	r := New([]byte{1, 2, 3, 4})
	again := *r // it reads the same bytes once more
	a, _ := r.Bytes(2)
	a[0], a[1] = 9, 9
	_ = append(a, 9, 9)
	b, _ := r.Bytes(1)
	b[0] = 9
	_ = append(b, 9)
	if !bytes.Equal(a, []byte{9, 9}) {
		t.Errorf("what was returned is changed: %v", a)
	}
	if c, e := r.Byte(); c != 4 || e != api.OK {
		t.Errorf("%d %d", c, e)
	}
	if b, e := again.Bytes(4); !bytes.Equal(b, []byte{1, 2, 3, 4}) || e != api.OK {
		t.Errorf("%v %d", b, e)
	}
}

// lined says what the chapter asks of Line: the line and the bytes that are read, or the error.
func lined(b []byte, most int) (line string, n int, e api.Errno) {
	if most < 0 {
		return "", 0, api.ErrArg
	}
	for i := 0; i+1 < len(b); i++ {
		if b[i] == 13 && b[i+1] == 10 && i <= most {
			return string(b[:i]), i + 2, api.OK
		} else if b[i] == 13 && b[i+1] == 10 {
			return "", 0, api.ErrForm
		}
	}
	left := len(b)
	if left > 0 && b[left-1] == 13 {
		left--
	}
	if left > most {
		return "", 0, api.ErrForm
	}
	return "", 0, api.ErrMore
}

// P2.4: every short input, from every place, with every number.
func TestLineOfAllShortInputs(t *testing.T) {
	for s := range texts("\r\na", 7) {
		for place := range len(s) + 1 {
			for _, most := range []int{math.MinInt, -1, 0, 1, 2, 3, 4, 5, 6, 7, 8, math.MaxInt - 1, math.MaxInt} {
				r := read(t, []byte(s), place)
				line, e := r.Line(most)
				want, n, err := lined([]byte(s[place:]), most)
				if line != want || e != err {
					t.Fatalf("%q from %d, most %d: %q %d, want %q %d", s, place, most, line, e, want, err)
				}
				at(t, r, place+n, len(s)-place-n)
			}
		}
	}
}

// P2.4: the edges, one by one.
func TestLine(t *testing.T) {
	for _, c := range []struct {
		s    string
		most int
		line string
		e    api.Errno
		at   int
	}{
		// just most bytes before the end, one more, and none
		{"ab\r\nc", 2, "ab", api.OK, 4}, {"ab\r\n", 9, "ab", api.OK, 4}, {"ab\r\n", 1, "", api.ErrForm, 0}, {"\r\n", 0, "", api.OK, 2}, {"\r\n\r\n", 0, "", api.OK, 2}, {"a\r\n", 0, "", api.ErrForm, 0}, {"a\r\n", math.MaxInt, "a", api.OK, 3},
		// the end isn't there
		{"", 0, "", api.ErrMore, 0}, {"ab", 2, "", api.ErrMore, 0}, {"ab", 1, "", api.ErrForm, 0}, {"a", 0, "", api.ErrForm, 0}, {"ab", math.MaxInt, "", api.ErrMore, 0},
		// a 13 that is the last byte
		{"\r", 0, "", api.ErrMore, 0}, {"ab\r", 2, "", api.ErrMore, 0}, {"ab\r", 1, "", api.ErrForm, 0}, {"ab\r\r", 3, "", api.ErrMore, 0}, {"ab\r\r", 2, "", api.ErrForm, 0}, {"\r\r", 0, "", api.ErrForm, 0}, {"\r\r", 1, "", api.ErrMore, 0},
		// a 13 that no 10 follows, and a 10 that follows no 13
		{"a\rb\r\n", 3, "a\rb", api.OK, 5}, {"a\rb\r\n", 2, "", api.ErrForm, 0}, {"\r\r\n", 1, "\r", api.OK, 3}, {"\r\r\n", 0, "", api.ErrForm, 0}, {"a\nb\r\n", 3, "a\nb", api.OK, 5}, {"\n\r\n", 1, "\n", api.OK, 3}, {"\n\r", 1, "", api.ErrMore, 0}, {"\n\r", 0, "", api.ErrForm, 0}, {"a\r\rb", 4, "", api.ErrMore, 0}, {"a\n", 2, "", api.ErrMore, 0},
		// the first end counts
		{"a\r\nb\r\n", 9, "a", api.OK, 3}, {"abc\r\n\r\n", 2, "", api.ErrForm, 0},
		// any other byte is a line's
		{"\x00\xff\xc3\r\n", 3, "\x00\xff\xc3", api.OK, 5}, {"\x8d\x8a\r\n", 2, "\x8d\x8a", api.OK, 4},
		// numbers below 0, whatever is there
		{"a\r\n", -1, "", api.ErrArg, 0}, {"", -1, "", api.ErrArg, 0}, {"ab", math.MinInt, "", api.ErrArg, 0},
	} {
		r := New([]byte(c.s))
		if line, e := r.Line(c.most); line != c.line || e != c.e {
			t.Errorf("%q, most %d: %q %d", c.s, c.most, line, e)
		}
		at(t, r, c.at, len(c.s)-c.at)
	}
}

// P2.4: a line that is too long for one number is there for a greater one.
func TestLineAgain(t *testing.T) {
	r := New([]byte("abc\r\nd"))
	for most := range 3 {
		if line, e := r.Line(most); line != "" || e != api.ErrForm {
			t.Errorf("%d: %q %d", most, line, e)
		}
	}
	if line, e := r.Line(3); line != "abc" || e != api.OK {
		t.Errorf("%q %d", line, e)
	}
	at(t, r, 5, 1)
}

// P2.4: long lines, about the bound of a head.
func TestLineLong(t *testing.T) {
	for _, most := range []int{255, 256, api.MaxHead, 100000} {
		for n := most - 2; n <= most+2; n++ {
			for _, end := range []string{"", "\r", "\r\n", "\r\nx"} {
				s := strings.Repeat("y", n) + end
				r := New([]byte(s))
				line, e := r.Line(most)
				want, k, err := lined([]byte(s), most)
				if line != want || e != err {
					t.Errorf("%d bytes and %q, most %d: %d bytes, %d", n, end, most, len(line), e)
				}
				at(t, r, k, len(s)-k)
			}
		}
	}
}

// P2.5: a nil *Reader, whatever it is asked: ErrNil comes before the other errors.
func TestNil(t *testing.T) {
	var r *Reader
	at(t, r, 0, 0)
	if c, e := r.Byte(); c != 0 || e != api.ErrNil {
		t.Errorf("%d %d", c, e)
	}
	if n, e := r.Pair(); n != 0 || e != api.ErrNil {
		t.Errorf("%d %d", n, e)
	}
	for _, n := range []int{math.MinInt, -1, 0, 1, math.MaxInt} {
		if b, e := r.Bytes(n); b != nil || e != api.ErrNil {
			t.Errorf("%d: %v %d", n, b, e)
		}
		if s, e := r.Line(n); s != "" || e != api.ErrNil {
			t.Errorf("%d: %q %d", n, s, e)
		}
	}
	at(t, r, 0, 0)
}

// P2.5: the numbers follow each call, and stay when one is refused.
func TestAtLeft(t *testing.T) {
	r := New([]byte{1, 2, 3, 'a', 13, 10, 4, 5})
	for _, c := range []struct {
		do func() api.Errno
		e  api.Errno
		at int
	}{
		{func() api.Errno { _, e := r.Byte(); return e }, api.OK, 1},
		{func() api.Errno { _, e := r.Pair(); return e }, api.OK, 3},
		{func() api.Errno { _, e := r.Line(0); return e }, api.ErrForm, 3},
		{func() api.Errno { _, e := r.Line(1); return e }, api.OK, 6},
		{func() api.Errno { _, e := r.Line(2); return e }, api.ErrMore, 6},
		{func() api.Errno { _, e := r.Bytes(3); return e }, api.ErrMore, 6},
		{func() api.Errno { _, e := r.Bytes(0); return e }, api.OK, 6},
		{func() api.Errno { _, e := r.Bytes(1); return e }, api.OK, 7},
		{func() api.Errno { _, e := r.Pair(); return e }, api.ErrMore, 7},
		{func() api.Errno { _, e := r.Bytes(-1); return e }, api.ErrArg, 7},
		{func() api.Errno { _, e := r.Line(-1); return e }, api.ErrArg, 7},
		{func() api.Errno { _, e := r.Byte(); return e }, api.OK, 8},
		{func() api.Errno { _, e := r.Byte(); return e }, api.ErrMore, 8},
	} {
		if e := c.do(); e != c.e {
			t.Fatalf("at %d: %d, want %d", c.at, e, c.e)
		}
		at(t, r, c.at, 8-c.at)
	}
}

// P2.6: from numbers to texts and back: small ones, and those about each power of 2 and of 10.
func TestRoundTripOfNumbers(t *testing.T) {
	var all []int
	for n := range 20000 {
		all = append(all, n)
	}
	for p, q := 1, 1; ; p *= 2 {
		for d := -2; d <= 2; d++ {
			all = append(all, max(p+d, 0), max(q+d, 0))
		}
		if q <= math.MaxInt/10 {
			q *= 10
		}
		if p > math.MaxInt/2 {
			break
		}
	}
	for _, n := range append(all, math.MaxInt-1, math.MaxInt) {
		s, e := Number(n)
		if e != api.OK || s != strconv.Itoa(n) {
			t.Fatalf("%d: %q %d", n, s, e)
		}
		for _, b := range [][2]int{{0, math.MaxInt}, {n, n}, {0, n}, {n, math.MaxInt}} {
			if got, e := Parse(s, b[0], b[1]); got != n || e != api.OK {
				t.Fatalf("%q from %d to %d: %d %d", s, b[0], b[1], got, e)
			}
		}
	}
}

// P2.6: from texts to numbers and back: whatever is parsed is the text of what it is parsed as.
func TestRoundTripOfTexts(t *testing.T) {
	count := 0
	for s := range texts("0129 -a", 5) {
		n, e := Parse(s, 0, math.MaxInt)
		if e != api.OK {
			continue
		}
		count++
		if back, e := Number(n); back != s || e != api.OK {
			t.Errorf("%q: %d, %q %d", s, n, back, e)
		}
	}
	if want := 1 + 3*(1+4+16+64+256); count != want { // 0, and those that begin with another digit
		t.Errorf("%d texts were parsed, want %d", count, want)
	}
}

// answer is what a call on a reader answered: the bytes read, what it told of them, the error.
type answer struct {
	bytes, told string
	e           api.Errno
}

// calls is the number of calls that call knows.
const calls = 9

// call does one of the calls that read, and says what the reader's place makes of it.
func call(r *Reader, b []byte, what int) answer {
	before := r.At()
	var a answer
	switch what {
	case 0:
		c, e := r.Byte()
		a = answer{told: strconv.Itoa(int(c)), e: e}
	case 1:
		n, e := r.Pair()
		a = answer{told: strconv.Itoa(n), e: e}
	case 2, 3, 4, 5:
		got, e := r.Bytes(what - 3)
		a = answer{told: string(got), e: e}
	default:
		s, e := r.Line(what - 6)
		a = answer{told: s, e: e}
	}
	a.bytes = string(b[before:r.At()])
	return a
}

// P2.7: with more bytes behind the input, no answer but ErrMore changes; nor does what a later call answers.
func TestMoreBytes(t *testing.T) {
	const steps = 3
	rows := calls * calls * calls
	for s := range texts("\r\na", 5) {
		b := []byte(s)
		for length := range len(b) {
			for row := range rows {
				few, all := New(b[:length]), New(b)
				for step, left := 0, row; step < steps; step++ {
					x := call(few, b, left%calls)
					if x.e == api.ErrMore {
						break // the two part here
					}
					if y := call(all, b, left%calls); x != y {
						t.Fatalf("%q, then %q: call %d: %v, then %v", s[:length], s[length:], left%calls, x, y)
					}
					left /= calls
				}
			}
		}
	}
}

// P2.7: the bytes read, one after the other, are those of the input, and no line has its end in it.
func TestBytesInOrder(t *testing.T) {
	for s := range texts("\r\na", 6) {
		for row := range calls * calls * calls {
			r := New([]byte(s))
			var seen []byte
			for left := row; left > 0; left /= calls {
				seen = append(seen, spelt(t, r, s, left%calls)...)
			}
			rest, e := r.Bytes(r.Left())
			if e != api.OK || string(append(seen, rest...)) != s {
				t.Fatalf("%q, row %d: %q and then %q", s, row, seen, rest)
			}
		}
	}
}

// spelt does one of the calls that read, and makes of its answer the bytes that it read.
func spelt(t *testing.T, r *Reader, s string, what int) []byte {
	t.Helper()
	a := call(r, []byte(s), what)
	if a.e != api.OK {
		if a.bytes != "" {
			t.Fatalf("%q: call %d read %q with error %d", s, what, a.bytes, a.e)
		}
		return nil
	}
	n, _ := strconv.Atoi(a.told)
	switch {
	case what == 0:
		return []byte{byte(n)}
	case what == 1:
		return []byte{byte(n >> 8), byte(n)}
	case what <= 5:
		return []byte(a.told)
	}
	if strings.Contains(a.told, "\r\n") {
		t.Fatalf("%q: the line %q has an end in it", s, a.told)
	}
	return []byte(a.told + "\r\n")
}

// P2.7: each byte comes out as it went in, by each of the calls.
func TestEachByte(t *testing.T) {
	for c := range 256 {
		x := byte(c)
		r := New([]byte{x, x, x, x, x, 13, 10})
		one, _ := r.Byte()
		two, _ := r.Pair()
		three, _ := r.Bytes(1)
		line, e := r.Line(1)
		if one != x || two != c<<8+c || !bytes.Equal(three, []byte{x}) || line != string([]byte{x}) || e != api.OK {
			t.Errorf("%d: %d %d %v %q %d", c, one, two, three, line, e)
		}
		at(t, r, 7, 0)
	}
}

// The chapter's examples.
func TestExamples(t *testing.T) {
	if n, e := Parse("80", 1, 65535); n != 80 || e != api.OK {
		t.Errorf("%d %d", n, e)
	}
	for _, s := range []string{"080", "", "65536"} {
		if n, e := Parse(s, 1, 65535); n != 0 || e != api.ErrForm {
			t.Errorf("%q: %d %d", s, n, e)
		}
	}
	if !Word("a1") || Word("A1") {
		t.Errorf("a1: %v, A1: %v", Word("a1"), Word("A1"))
	}
	r := New([]byte{'a', 'b', 13, 10, 'c'})
	if s, e := r.Line(9); s != "ab" || e != api.OK {
		t.Errorf("%q %d", s, e)
	}
	if s, e := r.Line(9); s != "" || e != api.ErrMore {
		t.Errorf("%q %d", s, e)
	}
}
