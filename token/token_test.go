package token

import (
	"math"
	"regexp"
	"slices"
	"strings"
	"testing"

	"postilion/api"
)

// rows enumerates all rows of at most so many of the pieces, the shorter ones first.
func rows(of []string, most int) func(yield func([]string) bool) {
	return func(yield func([]string) bool) {
		row := [][]string{{}}
		for range most + 1 {
			var longer [][]string
			for _, l := range row {
				if !yield(l) {
					return
				}
				for _, piece := range of {
					longer = append(longer, append(slices.Clip(l), piece))
				}
			}
			row = longer
		}
	}
}

// one returns the string of that byte alone.
func one(c int) string { return string([]byte{byte(c)}) }

// ids returns so many ids, each another one.
func ids(n int) []string {
	return strings.Split("a,b2,0,zzzzzzzz,9,01234567,c,node8,i9,10,eleven,l2", ",")[:n]
}

// idForm is the form of an id.
var idForm = regexp.MustCompile(`^[a-z0-9]{1,8}$`)

// validly says whether the list is valid.
func validly(l []string) bool {
	for _, id := range l {
		if !idForm.MatchString(id) {
			return false
		}
	}
	return len(l) <= 8
}

// inID says whether the byte can occur in an id.
func inID(sep byte) bool {
	return strings.Contains("abcdefghijklmnopqrstuvwxyz0123456789", one(int(sep)))
}

// joined returns the elements with the separator between them.
func joined(l []string, sep byte) string {
	var b []byte
	for i, id := range l {
		if i > 0 {
			b = append(b, sep)
		}
		b = append(b, id...)
	}
	return string(b)
}

// parsed says what is parsed from s: byte by byte, each of the last element, or the separator behind it.
func parsed(s string, sep byte) ([]string, api.Errno) {
	if inID(sep) {
		return nil, api.ErrArg
	}
	if s == "" {
		return nil, api.OK
	}
	l := []string{""}
	for i := range len(s) {
		if s[i] == sep {
			l = append(l, "")
		} else {
			l[len(l)-1] += s[i : i+1]
		}
	}
	if !validly(l) {
		return nil, api.ErrForm
	}
	return l, api.OK
}

// parses fails the test unless Parse answers what the chapter says, and, if s is the text of a list, Print prints that list as s.
func parses(t *testing.T, s string, sep byte) {
	t.Helper()
	l, e := Parse(s, sep)
	if want, err := parsed(s, sep); !slices.Equal(l, want) || e != err || e != api.OK && l != nil {
		t.Fatalf("%q with %q: %q %d, want %q %d", s, sep, l, e, want, err)
	}
	if e != api.OK {
		return
	}
	if text, e := Print(l, sep); text != s || e != api.OK {
		t.Fatalf("%q with %q: %q, which is printed as %q %d", s, sep, l, text, e)
	}
}

// prints fails the test unless Print answers what the chapter says and leaves the list as it was, and, if it is valid, Parse reads it back.
func prints(t *testing.T, l []string, sep byte) {
	t.Helper()
	before := slices.Clone(l)
	s, e := Print(l, sep)
	want, err := "", api.ErrArg
	if validly(l) && !inID(sep) {
		want, err = joined(l, sep), api.OK
	}
	if s != want || e != err || !slices.Equal(l, before) {
		t.Fatalf("%q with %q: %q %d, want %q %d; it is %q now", before, sep, s, e, want, err, l)
	}
	if e != api.OK {
		return
	}
	if back, e := Parse(s, sep); !slices.Equal(back, l) || e != api.OK {
		t.Fatalf("%q with %q: %q, which is parsed as %q %d", l, sep, s, back, e)
	}
}

// checks fails the test unless Check answers what the chapter says and leaves the list as it was.
func checks(t *testing.T, own string, l []string, most int) {
	t.Helper()
	before := slices.Clone(l)
	want := api.ErrLoop
	if validly(l) && !slices.Contains(l, own) && len(l) < most {
		want = api.OK
	}
	if e := Check(own, l, most); e != want || !slices.Equal(l, before) {
		t.Fatalf("own %q of %q, most %d: %d, want %d; it is %q now", own, before, most, e, want, l)
	}
}

// allows fails the test unless May answers what the chapter says and leaves the list as it was, and ID answers the same for a list of one.
func allows(t *testing.T, l []string) {
	t.Helper()
	before := slices.Clone(l)
	if ok := May(l); ok != validly(before) || !slices.Equal(l, before) {
		t.Fatalf("%q: %v; it is %q now", before, ok, l)
	}
	for _, s := range l {
		if ok := ID(s); ok != idForm.MatchString(s) {
			t.Fatalf("%q: %v", s, ok)
		}
	}
}

var (
	good = []string{"a", "z", "0", "9", "00", "01", "a1", "1a", "zz", "abcdefg", "abcdefgh", "stuvwxyz", "01234567", "98765432", "a0b1c2d3", "aaaaaaaa", "99999999"}
	bad  = []string{
		"", "A", "Z", "aA", "Aa", "aBc", "abcdefghi", "123456789", "ninebytes", "abcdefgH", "abcdefgh,", ",abcdefgh", strings.Repeat("a", 16), strings.Repeat("0", 255), strings.Repeat("a", 1<<16),
		" ", " a", "a ", "a b", "\t", "a\n", "\na", "\r\n", "\x00", "a\x00", "\x00a", ",", ";", "a,", ",a", "a,b", "a;b", "-", "_", "a-b", "a_b", "a.b", "a/b", "a:b", "+1", "-1", "1.5", "`", "{", "/", ":", "@", "[", "*",
		"\x7f", "\x80", "\xff", "a\xff", "\xe4", "\u00e4", "a\u00e4", "\u0430", "\uff41", "\u0661", "\u00b2", "\u00df", "\u212a", "\u0131", "\ufffd", "\ufeffa", "a\u0301", "\U0001d41a",
	}
)

// P17.1: strings that are ids, and strings that are none.
func TestID(t *testing.T) {
	for _, s := range good {
		if !ID(s) || !May([]string{s}) {
			t.Errorf("%q: no id", s)
		}
		allows(t, []string{s})
	}
	for _, s := range bad {
		if ID(s) || May([]string{s}) {
			t.Errorf("%q: an id", s)
		}
		allows(t, []string{s})
	}
}

// P17.1: ids of every length.
func TestIDEachLength(t *testing.T) {
	for n := range 300 {
		for _, c := range []string{"a", "z", "0", "9", "m", "5"} {
			if s := strings.Repeat(c, n); ID(s) != (n >= 1 && n <= 8) {
				t.Errorf("%d times %q: %v", n, c, ID(s))
			}
		}
	}
}

// P17.1: each byte at each place of ids of each length: in place of one, and between them.
func TestIDEachByte(t *testing.T) {
	for n := range 10 {
		for _, fill := range []string{"a", "z", "0", "9"} {
			s := strings.Repeat(fill, n)
			for place := range n {
				for c := range 256 {
					x := s[:place] + one(c) + s[place+1:]
					if want := n <= 8 && inID(byte(c)); ID(x) != want {
						t.Fatalf("%q: %v", x, !want)
					}
				}
			}
			for place := range n + 1 {
				for c := range 256 {
					x := s[:place] + one(c) + s[place:]
					if want := n < 8 && inID(byte(c)); ID(x) != want {
						t.Fatalf("%q: %v", x, !want)
					}
				}
			}
		}
	}
}

// P17.1: all strings of one byte and of two.
func TestIDAllPairs(t *testing.T) {
	for c := range 256 {
		if s := one(c); ID(s) != inID(byte(c)) {
			t.Errorf("%q: %v", s, ID(s))
		}
		for d := range 256 {
			if s := one(c) + one(d); ID(s) != (inID(byte(c)) && inID(byte(d))) {
				t.Fatalf("%q: %v", s, ID(s))
			}
		}
	}
}

// P17.1: all characters that are more than one byte, and all of one, alone and behind a letter.
func TestIDEachRune(t *testing.T) {
	for r := rune(0); r <= 0x1ffff; r++ {
		want := r < 128 && inID(byte(r))
		if s := string(r); ID(s) != want || ID("a"+s) != want {
			t.Fatalf("%q: %v %v", s, ID(s), ID("a"+s))
		}
	}
}

// P17.1: lists of every number of elements, of ids that are each another one or all the same.
func TestMayEachNumber(t *testing.T) {
	for n := range 13 {
		for _, l := range [][]string{ids(n), slices.Repeat([]string{"a"}, n), slices.Repeat([]string{"01234567"}, n)} {
			if May(l) != (n <= 8) {
				t.Errorf("%q: %v", l, May(l))
			}
			allows(t, l)
		}
	}
	if !May(nil) || !May([]string{}) {
		t.Errorf("no tokens: %v %v", May(nil), May([]string{}))
	}
	for _, n := range []int{9, 10, 16, 255, 256, 257, 1 << 16} {
		for _, id := range []string{"a", "", "A"} {
			if May(slices.Repeat([]string{id}, n)) {
				t.Errorf("%d times %q", n, id)
			}
		}
	}
}

// P17.1: a string that is no id at each place of lists of each number of elements, with room behind them or none.
func TestMayEachPlace(t *testing.T) {
	for n := range 11 {
		for place := range n {
			for _, s := range bad {
				l := slices.Clone(ids(n))
				l[place] = s
				if May(l) || May(append(make([]string, 0, 20), l...)) {
					t.Fatalf("%q", l)
				}
			}
			for _, s := range good {
				l := slices.Clone(ids(n))
				l[place] = s
				if May(l) != (n <= 8) {
					t.Fatalf("%q", l)
				}
			}
			for c := range 256 {
				for _, s := range []string{one(c), one(c) + "a", "b" + one(c), "b" + one(c) + "a"} {
					l := slices.Clone(ids(n))
					l[place] = s
					allows(t, l)
				}
			}
		}
	}
}

// P17.1: one id twice, at each two places.
func TestMayTwice(t *testing.T) {
	for i := range 8 {
		for k := range 8 {
			l := slices.Clone(ids(8))
			l[i] = l[k]
			if !May(l) {
				t.Errorf("%q", l)
			}
		}
	}
}

// P17.1: all lists of a few elements.
func TestMayAllLists(t *testing.T) {
	for l := range rows([]string{"", "a", "b2", "A", "01234567", "ninebytes", "a,b"}, 5) {
		allows(t, l)
	}
	for l := range rows([]string{"a", ""}, 10) {
		allows(t, l)
	}
}

// P17.1: what lies behind a list isn't looked at.
func TestMayBehind(t *testing.T) {
	l := []string{"a", "b", "", "A", "a", "a", "a", "a", "a"}
	if !May(l[:2]) || May(l[:3]) {
		t.Errorf("%v %v", May(l[:2]), May(l[:3]))
	}
}

// P17.2 and the section 'Examples': texts, and strings that are none.
func TestParse(t *testing.T) {
	for _, x := range []struct {
		s    string
		sep  byte
		want []string
		e    api.Errno
	}{
		{"", ',', nil, api.OK}, {"", ';', nil, api.OK}, {"", 0, nil, api.OK}, {"", 255, nil, api.OK},
		{"a", ',', []string{"a"}, api.OK}, {"a,b2", ',', []string{"a", "b2"}, api.OK}, {"b2,a", ',', []string{"b2", "a"}, api.OK}, {"a;b2", ';', []string{"a", "b2"}, api.OK}, {"a,a", ',', []string{"a", "a"}, api.OK}, {"a;b;a", ';', []string{"a", "b", "a"}, api.OK}, {"0,1,2", ',', []string{"0", "1", "2"}, api.OK},
		{"01234567,zzzzzzzz", ',', []string{"01234567", "zzzzzzzz"}, api.OK}, {"a,b,c,d,e,f,g,h", ',', []string{"a", "b", "c", "d", "e", "f", "g", "h"}, api.OK}, {"aaaaaaaa;bbbbbbbb;cccccccc;dddddddd;eeeeeeee;ffffffff;gggggggg;hhhhhhhh", ';', []string{"aaaaaaaa", "bbbbbbbb", "cccccccc", "dddddddd", "eeeeeeee", "ffffffff", "gggggggg", "hhhhhhhh"}, api.OK},
		{"a b", ' ', []string{"a", "b"}, api.OK}, {"a\x00b", 0, []string{"a", "b"}, api.OK}, {"a\xffb\xffc", 255, []string{"a", "b", "c"}, api.OK}, {"a\x80b", 128, []string{"a", "b"}, api.OK}, {"aAb", 'A', []string{"a", "b"}, api.OK}, {"a\nb", '\n', []string{"a", "b"}, api.OK}, {"a\xc3b", 0xc3, []string{"a", "b"}, api.OK},
		{",", ',', nil, api.ErrForm}, {",,", ',', nil, api.ErrForm}, {"a,", ',', nil, api.ErrForm}, {",a", ',', nil, api.ErrForm}, {"a,,b", ',', nil, api.ErrForm}, {"a,b,", ',', nil, api.ErrForm}, {",a,b", ',', nil, api.ErrForm}, {"a,,", ',', nil, api.ErrForm}, {";", ';', nil, api.ErrForm}, {";a", ';', nil, api.ErrForm}, {"a;", ';', nil, api.ErrForm},
		{"A", ',', nil, api.ErrForm}, {"a,B", ',', nil, api.ErrForm}, {"A,b", ',', nil, api.ErrForm}, {"a;b", ',', nil, api.ErrForm}, {"a,b", ';', nil, api.ErrForm}, {"a,b;c", ',', nil, api.ErrForm}, {"a,b;c", ';', nil, api.ErrForm}, {";", ',', nil, api.ErrForm}, {",", ';', nil, api.ErrForm}, {"a b", ',', nil, api.ErrForm}, {"a, b", ',', nil, api.ErrForm}, {"a ,b", ',', nil, api.ErrForm}, {" a", ',', nil, api.ErrForm}, {"a ", ',', nil, api.ErrForm}, {"a,b\r\n", ',', nil, api.ErrForm}, {" ", ',', nil, api.ErrForm}, {"a\u00e4", ',', nil, api.ErrForm},
		{"\u00c3", 0xc3, nil, api.ErrForm}, {"a\u00e4b", 0xe4, nil, api.ErrForm}, {"a\xe4b", 0xe4, []string{"a", "b"}, api.OK}, {"a\u00e4b", 0xc3, nil, api.ErrForm}, {"a\u00e4b", 0xa4, nil, api.ErrForm}, {"a\ufffdb", 255, nil, api.ErrForm}, {"a\xffb", 254, nil, api.ErrForm},
		{"ninebytes", ',', nil, api.ErrForm}, {"ninebytes,a", ',', nil, api.ErrForm}, {"a,ninebytes", ',', nil, api.ErrForm}, {"abcdefgh,abcdefghi", ',', nil, api.ErrForm}, {"a,b,c,d,e,f,g,h,i", ',', nil, api.ErrForm}, {"a,b,c,d,e,f,g,h,", ',', nil, api.ErrForm}, {",a,b,c,d,e,f,g,h", ',', nil, api.ErrForm}, {"a,b,c,d,e,f,g,h,i,j", ',', nil, api.ErrForm}, {"a,a,a,a,a,a,a,a,a", ',', nil, api.ErrForm},
		{"a", 'a', nil, api.ErrArg}, {"", 'a', nil, api.ErrArg}, {"", '0', nil, api.ErrArg}, {"b", 'a', nil, api.ErrArg}, {"bac", 'a', nil, api.ErrArg}, {"a,b", 'z', nil, api.ErrArg}, {"0z9", 'z', nil, api.ErrArg}, {"a1b", '1', nil, api.ErrArg}, {"a,", '9', nil, api.ErrArg}, {"A", 'm', nil, api.ErrArg}, {"ninebytes", '0', nil, api.ErrArg},
	} {
		if l, e := Parse(x.s, x.sep); !slices.Equal(l, x.want) || e != x.e || e != api.OK && l != nil {
			t.Errorf("%q with %q: %q %d, want %q %d", x.s, x.sep, l, e, x.want, x.e)
		}
		parses(t, x.s, x.sep)
	}
}

// P17.2: each separator, those that can occur in an id among them, with strings that are texts with it and strings that aren't.
func TestEachSeparator(t *testing.T) {
	for c := range 256 {
		sep, other := byte(c), ","
		if sep == ',' {
			other = ";"
		}
		texts := []string{"", "a", "0", "a" + one(c) + "b", "b2" + one(c) + "a" + one(c) + "b2", strings.Join(ids(8), one(c))}
		others := []string{one(c), "a" + one(c), one(c) + "a", "a" + one(c) + one(c) + "b", "a" + other + "b", "a" + other + one(c) + "b", "a" + one(c) + "b" + other, "A" + one(c) + "B-", "ninebytes", "ninebytes" + one(c) + "a", strings.Join(ids(9), one(c)), "a" + string(rune(c)) + "\u00e9"}
		for _, s := range texts {
			l, e := Parse(s, sep)
			if inID(sep) && (l != nil || e != api.ErrArg) || !inID(sep) && e != api.OK {
				t.Errorf("%q with %q: %q %d", s, sep, l, e)
			}
			parses(t, s, sep)
		}
		for _, s := range others {
			l, e := Parse(s, sep)
			if l != nil || inID(sep) && e != api.ErrArg || !inID(sep) && e != api.ErrForm {
				t.Errorf("%q with %q: %q %d", s, sep, l, e)
			}
			parses(t, s, sep)
		}
		for _, l := range [][]string{nil, {}, {"a"}, {"a", "b"}, {"a", "a"}, ids(7), ids(8), ids(9), {""}, {"a", "B"}, {one(c)}, {"a", "b" + one(c)}, {"a" + one(c) + "b"}, {"ninebytes"}} {
			prints(t, l, sep)
		}
	}
}

// P17.2: each separator within texts with each other one.
func TestParseOtherSeparators(t *testing.T) {
	for c := range 256 {
		for d := range 256 {
			parses(t, "a"+one(d)+"b", byte(c))
			parses(t, "a"+one(c)+"b"+one(d)+"c", byte(c))
			parses(t, "a"+one(d)+one(c)+"b", byte(c))
			parses(t, one(d), byte(c))
		}
	}
}

// P17.2: each byte at each place of a text: in place of one, and between them; and each of its bytes left out.
func TestParseEachByte(t *testing.T) {
	for _, s := range []string{"a,b2,c", "abcdefgh,01234567", "a,b,c,d,e,f,g,h", "a"} {
		for place := range len(s) {
			for c := range 256 {
				parses(t, s[:place]+one(c)+s[place+1:], ',')
				parses(t, s[:place]+one(c)+s[place:], ',')
				parses(t, s+one(c), ',')
			}
			parses(t, s[:place]+s[place+1:], ',')
			parses(t, s[:place], ',')
			parses(t, s[place:], ',')
		}
	}
}

// P17.2, P17.5: all strings of a few pieces, with separators that occur in them and one that doesn't.
func TestParseAllStrings(t *testing.T) {
	for l := range rows([]string{"a", "0", ",", ";", "A", "\xff"}, 6) {
		for _, sep := range []byte{',', ';', 'A', 0xff, 0, 'a'} {
			parses(t, strings.Join(l, ""), sep)
		}
	}
	for l := range rows([]string{"a", "01234567", ","}, 9) {
		parses(t, strings.Join(l, ""), ',')
	}
}

// P17.2: every number of ids in a text, of every length, with the separator ahead of them, behind them, or twice between two of them.
func TestParseEachNumber(t *testing.T) {
	for n := 1; n <= 12; n++ {
		for size := 1; size <= 10; size++ {
			l := slices.Repeat([]string{strings.Repeat("x", size)}, n)
			s := strings.Join(l, ",")
			got, e := Parse(s, ',')
			if ok := n <= 8 && size <= 8; ok && (!slices.Equal(got, l) || e != api.OK) || !ok && (got != nil || e != api.ErrForm) {
				t.Errorf("%q: %q %d", s, got, e)
			}
			for i := range len(s) + 1 {
				if i == 0 || i == len(s) || s[i] == ',' {
					x := s[:i] + "," + s[i:]
					if got, e := Parse(x, ','); got != nil || e != api.ErrForm {
						t.Errorf("%q: %q %d", x, got, e)
					}
				}
			}
		}
	}
}

// P17.2: long strings.
func TestParseLong(t *testing.T) {
	for _, s := range []string{"a", ",", "a,", ",a", "A", "abcdefgh,", ";", "\xff"} {
		for _, head := range []string{"", "a,", "a,b,c,d,e,f,g,h,"} {
			long := head + strings.Repeat(s, 1<<20)
			if l, e := Parse(long, ','); l != nil || e != api.ErrForm {
				t.Errorf("%q and %d times %q: %q %d", head, 1<<20, s, l, e)
			}
			if l, e := Parse(long, 'a'); l != nil || e != api.ErrArg {
				t.Errorf("%q and %d times %q: %q %d", head, 1<<20, s, l, e)
			}
		}
	}
}

// P17.2: what Parse returned is the caller's own, with the room behind it.
func TestParseOwn(t *testing.T) {
	for n := range 9 {
		s := strings.Join(ids(n), ",")
		l, _ := Parse(s, ',')
		other, _ := Parse(s, ',')
		_ = append(l, "more")
		for i := range l {
			l[i] = "x"
		}
		if again, e := Parse(s, ','); !slices.Equal(other, ids(n)) || !slices.Equal(again, ids(n)) || e != api.OK {
			t.Errorf("%q: %q %q %d", s, other, again, e)
		}
	}
}

// P17.2: texts of lists, of none among them.
func TestPrint(t *testing.T) {
	for _, x := range []struct {
		l    []string
		sep  byte
		want string
		e    api.Errno
	}{
		{nil, ',', "", api.OK}, {[]string{}, ';', "", api.OK}, {[]string{"a"}, ',', "a", api.OK}, {[]string{"a", "b2"}, ',', "a,b2", api.OK}, {[]string{"b2", "a"}, ';', "b2;a", api.OK}, {[]string{"a", "a"}, ';', "a;a", api.OK}, {[]string{"a", "b"}, 0, "a\x00b", api.OK}, {[]string{"a", "b"}, 0xe4, "a\xe4b", api.OK}, {[]string{"a", "b", "c"}, 255, "a\xffb\xffc", api.OK}, {[]string{"a", "b"}, 'A', "aAb", api.OK},
		{ids(8), ',', "a,b2,0,zzzzzzzz,9,01234567,c,node8", api.OK},
		{nil, 'a', "", api.ErrArg}, {nil, 'z', "", api.ErrArg}, {nil, '0', "", api.ErrArg}, {nil, '9', "", api.ErrArg}, {[]string{"a"}, 'b', "", api.ErrArg}, {[]string{"a", "b"}, 'c', "", api.ErrArg}, {[]string{"A"}, 'a', "", api.ErrArg},
		{[]string{""}, ',', "", api.ErrArg}, {[]string{"", ""}, ',', "", api.ErrArg}, {[]string{"a", ""}, ',', "", api.ErrArg}, {[]string{"", "a"}, ',', "", api.ErrArg}, {[]string{"A"}, ',', "", api.ErrArg}, {[]string{"a", "b", "C"}, ',', "", api.ErrArg}, {[]string{"a,b"}, ',', "", api.ErrArg}, {[]string{"a", "b,"}, ',', "", api.ErrArg}, {[]string{"a;b"}, ',', "", api.ErrArg}, {[]string{"ninebytes"}, ',', "", api.ErrArg}, {ids(9), ',', "", api.ErrArg}, {ids(12), ';', "", api.ErrArg}, {make([]string, 9), ',', "", api.ErrArg},
	} {
		if s, e := Print(x.l, x.sep); s != x.want || e != x.e {
			t.Errorf("%q with %q: %q %d, want %q %d", x.l, x.sep, s, e, x.want, x.e)
		}
		prints(t, x.l, x.sep)
	}
}

// P17.2: a string that is no id at each place of lists of each number of elements.
func TestPrintEachPlace(t *testing.T) {
	for n := range 11 {
		prints(t, ids(n), ',')
		for place := range n {
			for _, s := range bad {
				l := slices.Clone(ids(n))
				l[place] = s
				if text, e := Print(l, ','); text != "" || e != api.ErrArg {
					t.Fatalf("%q: %q %d", l, text, e)
				}
			}
			for _, s := range good {
				l := slices.Clone(ids(n))
				l[place] = s
				prints(t, l, ';')
			}
		}
	}
}

// P17.2, P17.5: all lists of a few elements.
func TestPrintAllLists(t *testing.T) {
	for l := range rows([]string{"", "a", "b2", "A", "01234567", "ninebytes", "a,b"}, 5) {
		for _, sep := range []byte{',', ';', 0, 0xff, 'b'} {
			prints(t, l, sep)
		}
	}
}

// P17.5: all valid lists of two ids, and many of others: the text of a valid list is parsed as that list, and no other list has that text.
func TestRoundTrip(t *testing.T) {
	texts := map[string]int{}
	count := 0
	for l := range rows([]string{"a", "aa"}, 8) {
		s, e := Print(l, ';')
		if back, err := Parse(s, ';'); !slices.Equal(back, l) || e != api.OK || err != api.OK {
			t.Fatalf("%q: %q %d, which is parsed as %q %d", l, s, e, back, err)
		}
		texts[s]++
		count++
	}
	if len(texts) != count {
		t.Errorf("%d texts of %d lists", len(texts), count)
	}
	for l := range rows(good, 3) {
		s, e := Print(l, ',')
		if back, err := Parse(s, ','); !slices.Equal(back, l) || e != api.OK || err != api.OK {
			t.Fatalf("%q: %q %d, which is parsed as %q %d", l, s, e, back, err)
		}
	}
}

// P17.3 and the section 'Examples'.
func TestCheck(t *testing.T) {
	two := []string{"a", "b"}
	for _, x := range []struct {
		own  string
		l    []string
		most int
		e    api.Errno
	}{
		{"c", two, 3, api.OK}, {"c", two, 4, api.OK}, {"c", two, 8, api.OK}, {"c", two, math.MaxInt, api.OK}, {"c", two, 2, api.ErrLoop}, {"c", two, 1, api.ErrLoop}, {"c", two, 0, api.ErrLoop}, {"c", two, -1, api.ErrLoop}, {"c", two, math.MinInt, api.ErrLoop},
		{"b", two, 3, api.ErrLoop}, {"a", two, 3, api.ErrLoop}, {"b", two, 2, api.ErrLoop}, {"a", two, math.MaxInt, api.ErrLoop}, {"ab", two, 3, api.OK}, {"aa", two, 3, api.OK}, {"", two, 3, api.OK}, {"A", two, 3, api.OK}, {"a,b", two, 3, api.OK}, {"ninebytes", two, 3, api.OK},
		{"a", nil, 1, api.OK}, {"a", []string{}, 1, api.OK}, {"a", nil, 0, api.ErrLoop}, {"a", nil, -1, api.ErrLoop}, {"", nil, 1, api.OK}, {"", nil, 0, api.ErrLoop},
		{"c", []string{"a", "a"}, 3, api.OK}, {"a", []string{"a", "a"}, 3, api.ErrLoop}, {"aa", []string{"a", "a"}, 3, api.OK}, {"a", []string{"aa"}, 3, api.OK}, {"node1", []string{"node", "node12"}, 3, api.OK},
		{"c", []string{"A"}, 3, api.ErrLoop}, {"c", []string{""}, 3, api.ErrLoop}, {"", []string{""}, 3, api.ErrLoop}, {"A", []string{"A"}, 3, api.ErrLoop}, {"c", []string{"a", "b", "ninebytes"}, 8, api.ErrLoop}, {"c", []string{"a,b"}, 3, api.ErrLoop}, {"c", make([]string, 9), 20, api.ErrLoop},
		{"x", ids(7), 8, api.OK}, {"x", ids(7), 7, api.ErrLoop}, {"x", ids(8), 8, api.ErrLoop}, {"x", ids(8), 9, api.OK}, {"x", ids(9), 9, api.ErrLoop}, {"x", ids(9), 10, api.ErrLoop}, {"x", ids(9), math.MaxInt, api.ErrLoop},
	} {
		if e := Check(x.own, x.l, x.most); e != x.e {
			t.Errorf("own %q of %q, most %d: %d, want %d", x.own, x.l, x.most, e, x.e)
		}
		checks(t, x.own, x.l, x.most)
	}
}

// mosts are limits about those of lists, and those at the edges of numbers.
var mosts = []int{math.MinInt, math.MinInt + 1, -1 << 40, -9, -8, -1, 0, 1, 2, 3, 4, 5, 6, 7, 8, 9, 10, 11, 12, 13, 255, 256, 1 << 31, 1 << 40, math.MaxInt}

// P17.3: own at each place of lists of each number of elements and at none, with each limit; with and without an element that is no id.
func TestCheckEachPlace(t *testing.T) {
	for n := range 13 {
		for _, most := range mosts {
			checks(t, "own", ids(n), most)
			for place := range n {
				l := slices.Clone(ids(n))
				checks(t, l[place], l, most)
				l[place] = "own"
				if e := Check("own", l, most); e != api.ErrLoop {
					t.Errorf("%q, most %d: %d", l, most, e)
				}
				for _, s := range []string{"", "A", "ninebytes", "a,b", " own", "own "} {
					l[place] = s
					for _, own := range []string{"own", s, ""} {
						if e := Check(own, l, most); e != api.ErrLoop {
							t.Errorf("own %q of %q, most %d: %d", own, l, most, e)
						}
					}
				}
			}
		}
	}
}

// P17.3: all lists of a few elements, with own ids that are among them and that aren't, some of them no ids, with each limit.
func TestCheckAllLists(t *testing.T) {
	for l := range rows([]string{"", "a", "b2", "A", "01234567", "ninebytes"}, 4) {
		for _, own := range []string{"", "a", "b2", "b", "A", "01234567", "ninebytes", "c", "a,b2"} {
			for _, most := range mosts {
				checks(t, own, l, most)
			}
		}
	}
	for l := range rows([]string{"a", "b"}, 9) {
		for _, own := range []string{"a", "b", "c"} {
			for most := -1; most < 12; most++ {
				checks(t, own, l, most)
			}
		}
	}
}

// P17.3: what lies behind a list isn't looked at.
func TestCheckBehind(t *testing.T) {
	l := []string{"a", "b", "own", ""}
	if e := Check("own", l[:2], 3); e != api.OK {
		t.Errorf("%d", e)
	}
	if e := Check("own", l[:3], 4); e != api.ErrLoop {
		t.Errorf("%d", e)
	}
}

// P17.4: lists of each number of elements, valid and not, and own ids of each kind.
func TestNext(t *testing.T) {
	lists := [][]string{nil, {}, {""}, {"A"}, {"a", ""}, {"ninebytes", "a,b"}, {"own"}, {"own", "own"}, make([]string, 9), slices.Repeat([]string{"a"}, 1000)}
	for n := range 13 {
		lists = append(lists, ids(n))
	}
	for _, l := range lists {
		for _, own := range append(bad, good...) {
			before := slices.Clone(l)
			next := Next(own, l)
			if len(next) != len(l)+1 || !slices.Equal(next[:len(l)], before) || next[len(l)] != own {
				t.Fatalf("%q behind %q: %q", own, before, next)
			}
			if !slices.Equal(l, before) {
				t.Fatalf("%q became %q", before, l)
			}
		}
	}
	for l := range rows([]string{"", "a", "A", "own"}, 5) {
		if next := Next("own", l); !slices.Equal(next, append(slices.Clip(l), "own")) {
			t.Fatalf("%q: %q", l, next)
		}
	}
}

// P17.4: what Next returns is the caller's own, and the list that was passed stays as it was, however much room there is behind its elements.
func TestNextOwn(t *testing.T) {
	for n := range 10 {
		for room := range 10 {
			all := append(slices.Clone(ids(n)), slices.Repeat([]string{"kept"}, room)...)
			l := all[:n]
			whole := func() bool {
				return slices.Equal(l, ids(n)) && slices.Equal(all, append(slices.Clone(ids(n)), slices.Repeat([]string{"kept"}, room)...))
			}
			x, y := Next("x", l), Next("y", l)
			if !whole() || x[n] != "x" || y[n] != "y" {
				t.Fatalf("%d elements, room for %d: %q %q %q", n, room, all, x, y)
			}
			longer := append(x, "more")
			for i := range longer {
				longer[i] = "changed"
			}
			for i := range x {
				x[i] = "changed"
			}
			if !whole() || !slices.Equal(y, append(ids(n), "y")) {
				t.Fatalf("%d elements, room for %d: a change of what was returned reaches %q, or %q", n, room, all, y)
			}
			clear(all)
			if !slices.Equal(y, append(ids(n), "y")) {
				t.Fatalf("%d elements, room for %d: a change of what was passed reaches %q", n, room, y)
			}
		}
	}
}

// P17.4: a row of lists, each the one before with one more: none reaches another one.
func TestNextRow(t *testing.T) {
	var all [][]string
	var l []string
	for _, own := range ids(12) {
		l = Next(own, l)
		all = append(all, l, Next("side", l))
	}
	for i := range 12 {
		if !slices.Equal(all[2*i], ids(i+1)) || !slices.Equal(all[2*i+1], append(slices.Clone(ids(i+1)), "side")) {
			t.Errorf("%d: %q %q", i, all[2*i], all[2*i+1])
		}
	}
}

// passes lets a request pass the instances, one behind the other, till one refuses it, and returns how many let it pass, and the tokens that it has then.
func passes(t *testing.T, path []string, most int) (int, []string) {
	t.Helper()
	var l []string
	for n, own := range path {
		before := slices.Clone(l)
		if e := Check(own, l, most); e == api.ErrLoop {
			return n, l
		} else if e != api.OK {
			t.Fatalf("own %q of %q, most %d: %d", own, l, most, e)
		}
		l = Next(own, l)
		if len(l) != n+1 || !slices.Equal(l[:n], before) || Check(own, l, most) != api.ErrLoop {
			t.Fatalf("%q behind %q: %q, with which it is let pass again", own, before, l)
		}
	}
	return len(path), l
}

// expected says how many of the instances let a request pass: as long as each id is new, and there are fewer than most tokens, and a valid list of them.
func expected(path []string, most int) int {
	for n, own := range path {
		if n >= most || slices.Contains(path[:n], own) || !validly(path[:n]) {
			return n
		}
	}
	return len(path)
}

// P17.6: all paths through a few instances, with each limit.
func TestTerminationAllPaths(t *testing.T) {
	for path := range rows([]string{"a", "b", "c", "d4"}, 6) {
		for most := -1; most < 8; most++ {
			n, l := passes(t, path, most)
			if want := expected(path, most); n != want || !slices.Equal(l, path[:n]) {
				t.Fatalf("%q, most %d: %d, %q, want %d", path, most, n, l, want)
			}
		}
	}
}

// P17.6: a path of instances that are all new goes on as long as there are fewer than most tokens, and no longer; with one that comes again, no longer than to that one.
func TestTerminationLong(t *testing.T) {
	for most := -2; most <= 8; most++ {
		if n, l := passes(t, ids(12), most); n != max(most, 0) || !slices.Equal(l, ids(n)) {
			t.Errorf("most %d: %d, %q", most, n, l)
		}
		for second := 1; second < 12; second++ {
			for first := range second {
				path := slices.Clone(ids(12))
				path[second] = path[first]
				if n, l := passes(t, path, most); n != min(max(most, 0), second) || !slices.Equal(l, path[:n]) {
					t.Errorf("%q, most %d: %d, %q", path, most, n, l)
				}
			}
		}
	}
}

// P17.6: with limits that no valid list reaches, and with own ids that are none, it ends too.
func TestTerminationBeyond(t *testing.T) {
	for _, most := range mosts {
		for _, path := range [][]string{ids(12), append([]string{"A"}, ids(11)...), append(slices.Clone(ids(3)), "", "x", "y"), {"", ""}, {"", "a", ""}, slices.Repeat([]string{"ninebytes"}, 12)} {
			if n, l := passes(t, path, most); n != expected(path, most) || n > 9 || !slices.Equal(l, path[:n]) {
				t.Errorf("%q, most %d: %d, %q", path, most, n, l)
			}
		}
	}
}

// The chapter's examples.
func TestExamples(t *testing.T) {
	for _, x := range []struct {
		s    string
		want []string
		e    api.Errno
	}{{"a,b2", []string{"a", "b2"}, api.OK}, {"", nil, api.OK}, {"a,", nil, api.ErrForm}, {"A", nil, api.ErrForm}, {"a;b", nil, api.ErrForm}, {strings.Join(ids(9), ","), nil, api.ErrForm}} {
		if l, e := Parse(x.s, ','); !slices.Equal(l, x.want) || e != x.e {
			t.Errorf("%q: %q %d", x.s, l, e)
		}
	}
	if l, e := Parse("a", 'a'); l != nil || e != api.ErrArg {
		t.Errorf("%q %d", l, e)
	}
	two := []string{"a", "b"}
	for _, x := range []struct {
		own  string
		most int
		e    api.Errno
	}{{"c", 3, api.OK}, {"c", 2, api.ErrLoop}, {"b", 3, api.ErrLoop}} {
		if e := Check(x.own, two, x.most); e != x.e {
			t.Errorf("own %s, most %d: %d", x.own, x.most, e)
		}
	}
}
