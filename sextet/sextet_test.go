package sextet

import (
	"bytes"
	"encoding/base64"
	"math"
	"slices"
	"strings"
	"testing"

	"postilion/api"
)

// rows enumerates all rows of at most so many of the bytes.
func rows(of []byte, most int) func(yield func([]byte) bool) {
	return func(yield func([]byte) bool) {
		row := [][]byte{{}}
		for range most + 1 {
			var longer [][]byte
			for _, b := range row {
				if !yield(b) {
					return
				}
				for _, c := range of {
					longer = append(longer, append(slices.Clip(b), c))
				}
			}
			row = longer
		}
	}
}

// mixed returns so many bytes without a visible order, others for another seed.
func mixed(n int, seed uint32) []byte {
	b := make([]byte, n)
	for i := range b {
		seed = seed*1664525 + 1013904223
		b[i] = byte(seed >> 24)
	}
	return b
}

// encoded writes the encoding of b from the bits, as the chapter says it, one digit 0 or 1 each.
func encoded(b []byte) string {
	var digits strings.Builder
	for _, c := range b {
		for i := 7; i >= 0; i-- {
			digits.WriteByte('0' + c>>i&1)
		}
	}
	bits := digits.String()
	for len(bits)%6 != 0 {
		bits += "0"
	}
	var text strings.Builder
	for ; bits != ""; bits = bits[6:] {
		value := 0
		for _, d := range bits[:6] {
			value = value*2 + int(d-'0')
		}
		text.WriteByte(character(value))
	}
	return text.String() + []string{"", "==", "="}[len(b)%3]
}

// character returns the character of that value.
func character(value int) byte {
	switch {
	case value < 26:
		return byte('A' + value)
	case value < 52:
		return byte('a' + value - 26)
	case value < 62:
		return byte('0' + value - 52)
	}
	return "+/"[value-62]
}

// decoded says with the library what s decodes to; the library passes over the ends of lines, and this doesn't.
func decoded(s string) ([]byte, api.Errno) {
	b, err := base64.StdEncoding.Strict().DecodeString(s)
	if err != nil || strings.ContainsAny(s, "\r\n") {
		return nil, api.ErrForm
	}
	return b, api.OK
}

// decodes fails the test unless s decodes to what the library says, and an error comes with no bytes.
func decodes(t *testing.T, s string) {
	t.Helper()
	b, e := Decode(s)
	want, err := decoded(s)
	if !bytes.Equal(b, want) || e != err || e != api.OK && b != nil {
		t.Fatalf("%q: %v %d, want %v %d", s, b, e, want, err)
	}
}

// encodes fails the test unless b has the encoding that the bits and the library say, of the length that Size says.
func encodes(t *testing.T, b []byte) {
	t.Helper()
	s := Encode(b)
	if want := base64.StdEncoding.EncodeToString(b); s != want || want != encoded(b) {
		t.Fatalf("%v: %q, want %q", b, s, want)
	}
	if Size(len(b)) != len(s) {
		t.Fatalf("%d bytes: %d characters, Size says %d", len(b), len(s), Size(len(b)))
	}
}

// P5.1: encodings of few bytes, of the least and the greatest ones, and of each value.
func TestEncode(t *testing.T) {
	for b, want := range map[string]string{
		"": "", "f": "Zg==", "fo": "Zm8=", "foo": "Zm9v", "foob": "Zm9vYg==", "fooba": "Zm9vYmE=", "foobar": "Zm9vYmFy", "foobarb": "Zm9vYmFyYg==",
		"\x00": "AA==", "\x00\x00": "AAA=", "\x00\x00\x00": "AAAA", "\x00\x00\x00\x00": "AAAAAA==", "\xff": "/w==", "\xff\xff": "//8=", "\xff\xff\xff": "////", "\xff\xff\xff\xff": "/////w==",
		"\x00\xff": "AP8=", "\xff\x00": "/wA=", "\x00\x00\xff": "AAD/", "\x00\xff\x00": "AP8A", "\xff\x00\x00": "/wAA", "\x00\xff\xff": "AP//", "\xff\x00\xff": "/wD/", "\xff\xff\x00": "//8A", "\x00\x00\x00\xff": "AAAA/w==", "\xff\xff\xff\x00": "////AA==",
		"\x01": "AQ==", "\x80": "gA==", "\x03": "Aw==", "\x04": "BA==", "\x00\x01": "AAE=", "\x00\x0f": "AA8=", "\x00\x10": "ABA=", "\x00\x00\x01": "AAAB", "\x00\x00\x3f": "AAA/", "\x00\x00\x40": "AABA", "\xfb\xf0": "+/A=", "\xfb": "+w==", "\xff\xfe\xfd": "//79",
		"user:pass": "dXNlcjpwYXNz", "a1;b2:c": "YTE7YjI6Yw==",
		"\x00\x10\x83\x10\x51\x87\x20\x92\x8b\x30\xd3\x8f\x41\x14\x93\x51\x55\x97\x61\x96\x9b\x71\xd7\x9f\x82\x18\xa3\x92\x59\xa7\xa2\x9a\xab\xb2\xdb\xaf\xc3\x1c\xb3\xd3\x5d\xb7\xe3\x9e\xbb\xf3\xdf\xbf": "ABCDEFGHIJKLMNOPQRSTUVWXYZabcdefghijklmnopqrstuvwxyz0123456789+/",
	} {
		if s := Encode([]byte(b)); s != want || Size(len(b)) != len(want) {
			t.Errorf("%q: %q, Size %d; want %q", b, s, Size(len(b)), want)
		}
		encodes(t, []byte(b))
	}
	if s := Encode(nil); s != "" {
		t.Errorf("nil: %q", s)
	}
}

// P5.1: all bytes, all pairs of bytes, and all short rows of bytes whose bits lie at the ends of characters.
func TestEncodeAllShortBytes(t *testing.T) {
	for c := range 256 {
		encodes(t, []byte{byte(c)})
		for d := range 256 {
			encodes(t, []byte{byte(c), byte(d)})
		}
	}
	for b := range rows([]byte{0x00, 0x01, 0x03, 0x0f, 0x3f, 0x80, 0xc0, 0xfc, 0xff}, 5) {
		encodes(t, b)
	}
}

// P5.1: each byte at each place of a group, and of the groups behind it.
func TestEncodeEachPlace(t *testing.T) {
	for n := 1; n <= 7; n++ {
		for place := range n {
			for c := range 256 {
				for _, fill := range []byte{0, 255, 'a'} {
					b := bytes.Repeat([]byte{fill}, n)
					b[place] = byte(c)
					encodes(t, b)
				}
			}
		}
	}
}

// P5.1: bytes of each length, and of great ones.
func TestEncodeEachLength(t *testing.T) {
	for n := range 600 {
		encodes(t, mixed(n, uint32(n)))
		encodes(t, make([]byte, n))
		encodes(t, bytes.Repeat([]byte{255}, n))
	}
	for n := 1 << 16; n < 1<<16+3; n++ {
		encodes(t, mixed(n, 7))
	}
}

// P5.1: Encode leaves what it is passed as it is, beyond its end too, and its answer does not follow a later change of that.
func TestEncodeKeepsNothing(t *testing.T) {
	for n := range 9 {
		all := mixed(n+4, 3)
		before := bytes.Clone(all)
		s := Encode(all[:n])
		if !bytes.Equal(all, before) {
			t.Errorf("%d bytes: %v became %v", n, before, all)
		}
		clear(all)
		if s != encoded(before[:n]) {
			t.Errorf("%d bytes: %q", n, s)
		}
	}
}

// P5.1: the length of the encoding of few bytes, of none, and of great numbers of them.
func TestSize(t *testing.T) {
	for _, c := range []struct{ n, size int }{
		{math.MinInt, 0}, {math.MinInt + 1, 0}, {-1 << 40, 0}, {-6, 0}, {-5, 0}, {-4, 0}, {-3, 0}, {-2, 0}, {-1, 0}, {0, 0},
		{1, 4}, {2, 4}, {3, 4}, {4, 8}, {5, 8}, {6, 8}, {7, 12}, {8, 12}, {9, 12}, {10, 16}, {17, 24}, {57, 76}, {255, 340}, {256, 344}, {511, 684},
		{1<<31 - 2, 2863311528}, {1<<31 - 1, 2863311532}, {1 << 31, 2863311532}, {1<<31 + 1, 2863311532}, {1<<31 + 2, 2863311536}, {1<<32 - 1, 5726623060}, {1 << 32, 5726623064},
		{1<<40 - 2, 1466015503700}, {1<<40 - 1, 1466015503700}, {1 << 40, 1466015503704},
	} {
		if n := Size(c.n); n != c.size {
			t.Errorf("%d: %d, want %d", c.n, n, c.size)
		}
	}
}

// P5.1: Size grows by four at every third number, at small numbers and about each power of 2; so it is the library's length.
func TestSizeByNumbers(t *testing.T) {
	for n := range 10000 {
		if Size(n) != base64.StdEncoding.EncodedLen(n) {
			t.Errorf("%d: %d", n, Size(n))
		}
	}
	for p := 4; p <= 1<<40; p *= 2 {
		for n := p - 4; n <= min(p+4, 1<<40); n++ {
			if Size(n) != base64.StdEncoding.EncodedLen(n) {
				t.Errorf("%d: %d", n, Size(n))
			}
		}
	}
	for n := 1; n <= 1<<40; n = n*3 + 1 {
		if n%3 != 1 || Size(n) != Size(n-1)+4 || Size(n+1) != Size(n) || Size(n+2) != Size(n) {
			t.Errorf("about %d: %d %d %d %d", n, Size(n-1), Size(n), Size(n+1), Size(n+2))
		}
	}
}

// P5.1: Size never panics, wherever its result isn't specified.
func TestSizeBeyond(t *testing.T) {
	for _, n := range []int{1<<40 + 1, 1 << 61, 1 << 62, math.MaxInt / 4 * 3, math.MaxInt - 2, math.MaxInt - 1, math.MaxInt} {
		Size(n)
	}
}

// P5.2: what decodes.
func TestDecode(t *testing.T) {
	for s, want := range map[string]string{
		"": "", "Zg==": "f", "Zm8=": "fo", "Zm9v": "foo", "Zm9vYg==": "foob", "Zm9vYmE=": "fooba", "Zm9vYmFy": "foobar", "AA==": "\x00", "AAA=": "\x00\x00", "AAAA": "\x00\x00\x00", "AAAAAA==": "\x00\x00\x00\x00", "/w==": "\xff", "//8=": "\xff\xff", "////": "\xff\xff\xff", "/////w==": "\xff\xff\xff\xff", "//79": "\xff\xfe\xfd", "+/A=": "\xfb\xf0", "dXNlcjpwYXNz": "user:pass", "Ag==": "\x02", "AAE=": "\x00\x01",
	} {
		if b, e := Decode(s); string(b) != want || e != api.OK {
			t.Errorf("%q: %q %d", s, b, e)
		}
		decodes(t, s)
	}
}

// P5.2: nothing else: paddings, bits, white space, other characters.
func TestDecodeNothingElse(t *testing.T) {
	for _, s := range []string{
		// padding that is missing
		"Z", "Zg", "Zm8", "Zg=", "Zm9vY", "Zm9vYg", "Zm9vYg=", "Zm9vYmE", "A", "AA", "AAA", "AAAAA", "AAAAAA", "AAAAAAA",
		// too much of it
		"Zg===", "Zg====", "Zm8==", "Zm9v=", "Zm9v==", "Zm9v===", "Zm9v====", "Z===", "Zg==Z===", "Zm9v====Zm9v", "Zm9vYg===", "Zm9vYmE==",
		// padding in the middle, ahead or alone
		"Zg=A", "Z=g=", "Z=gA", "=Zg=", "=Zm9", "=Zm9v", "==Zg", "Zg==Zg==", "Zg==Zm9v", "Zm8=Zm9v", "Zm8=Zm8=", "Zm9vZg==Zm9v", "Zm=v", "Zm9=Ym==", "Z==v", "Z=9v", "=", "==", "===", "====", "=====", "======", "========", "A=A=", "=A==", "A==A",
		// bits that aren't 0
		"Zh==", "Zi==", "Zk==", "Zo==", "Zv==", "Zn==", "Zm9=", "Zm+=", "Zm/=", "AB==", "AP==", "A/==", "AAB=", "AAC=", "AAD=", "AA/=", "////AB==", "////AAB=", "AAAAZh==", "AAAAZm9=",
		// white space
		" ", "    ", "\n", "\r\n\r\n", "Zm9v ", " Zm9v", "Zm 9v", "Zm9v\n", "\nZm9v", "Zm9v\r\n", "Zm\r\n9v", "Zm9v\nYmFy", "Zm9v\r\nYmFy", "Zm9v\tYmFy", "Zm9vYmFy\r\n\r\n", "Zg==\r\n", "Zg==\r\n\r\n", "Zg =", "Zg= ", "Zg= =", " Zg=", "Zg\n=", "Zg=\n=", "Zm8 ", "Zg==    ", "    Zg==", "\v\f \t", "\u00a0\u00a0",
		// characters beside the alphabet
		"Zm-_", "-w==", "_w==", "__79", "--79", "Zm9-", "_m9v", "Zm.v", "Zm9,", "*m9v", "Z!9v", "Zm9@", "Zm9[", "Zm9`", "Zm9{", "Zm9:", "Z\x009v", "\x00\x00\x00\x00", "Zm9\x7f", "Zm9\x80", "Zm9\xff", "\xff\xff\xff\xff", "Z\xc3\xa4v", "\u00e4\u00f6", "Zm\xfa==", "Zm9\xb1", "\xcb==", "Zm\xbd=", "Zg=\xbd", "Zg\xbd\xbd", "Zg~~", "Zg..", "Zm9v....", "Zm9v\x00\x00\x00\x00",
	} {
		if b, e := Decode(s); b != nil || e != api.ErrForm {
			t.Errorf("%q: %q %d", s, b, e)
		}
		decodes(t, s)
	}
}

// P5.2: all short strings of characters at which something else is to be decided each.
func TestDecodeAllShortStrings(t *testing.T) {
	for s := range rows([]byte("AQg/= \n"), 7) {
		decodes(t, string(s))
	}
	for s := range rows([]byte("Bw="), 9) {
		decodes(t, string(s))
	}
}

// P5.2: all last groups with two paddings, of which there are 256, one a byte; and their characters' bytes with more bits than a character has.
func TestDecodeTwoPaddings(t *testing.T) {
	count := 0
	for c := range 256 {
		for d := range 256 {
			s := string([]byte{byte(c), byte(d), '=', '='})
			decodes(t, s)
			decodes(t, "Zm9v"+s)
			if _, e := Decode(s); e == api.OK {
				count++
			}
		}
	}
	if count != 256 {
		t.Errorf("%d strings decode", count)
	}
}

// P5.2: all last groups with one padding, of which there are 65536, one a pair of bytes.
func TestDecodeOnePadding(t *testing.T) {
	count := 0
	for v := range 64 {
		for w := range 64 {
			for c := range 256 {
				s := string([]byte{character(v), character(w), byte(c), '='})
				decodes(t, s)
				if _, e := Decode(s); e == api.OK {
					count++
				}
			}
		}
	}
	if count != 1<<16+256 { // those with two paddings are among them
		t.Errorf("%d strings decode", count)
	}
}

// P5.2: each byte at each place of encodings of each form.
func TestDecodeEachPlace(t *testing.T) {
	for n := range 9 {
		for _, b := range [][]byte{mixed(n, 11), make([]byte, n), bytes.Repeat([]byte{255}, n)} {
			s := encoded(b)
			for place := range len(s) {
				for c := range 256 {
					x := []byte(s)
					x[place] = byte(c)
					decodes(t, string(x))
					decodes(t, s[:place]+string([]byte{byte(c)})+s[place:])
				}
				decodes(t, s[:place])
				decodes(t, s[place:])
				decodes(t, s[:place]+s[place+1:])
			}
		}
	}
}

// P5.2: long strings, with a fault at any place or none.
func TestDecodeLong(t *testing.T) {
	b := mixed(1<<20, 5)
	s := base64.StdEncoding.EncodeToString(b)
	if got, e := Decode(s); !bytes.Equal(got, b) || e != api.OK {
		t.Errorf("%d bytes %d", len(got), e)
	}
	for _, place := range []int{0, 1, 3, 4, 1000, len(s) / 2, len(s) - 5, len(s) - 2, len(s) - 1} {
		x := []byte(s)
		x[place] = '-'
		if got, e := Decode(string(x)); got != nil || e != api.ErrForm {
			t.Errorf("a fault at %d: %d bytes %d", place, len(got), e)
		}
	}
	for _, c := range []string{"=", " ", "-", "\xff"} {
		if got, e := Decode(strings.Repeat(c, 1<<20)); got != nil || e != api.ErrForm {
			t.Errorf("%q: %d bytes %d", c, len(got), e)
		}
	}
}

// P5.2: what Decode returned belongs to the caller: a change of it, and of what lies beyond its end, reaches no other answer.
func TestDecodeAnswersShareNothing(t *testing.T) {
	for _, s := range []string{"Zg==", "Zm8=", "Zm9v", "Zm9vYg=="} {
		a, _ := Decode(s)
		b, _ := Decode(s)
		clear(a)
		clear(append(a, 9, 9, 9))
		if want, _ := decoded(s); !bytes.Equal(b, want) {
			t.Errorf("%q: %v", s, b)
		}
		if again, e := Decode(s); !bytes.Equal(again, b) || e != api.OK {
			t.Errorf("%q: %v %d", s, again, e)
		}
	}
}

// returns fails the test unless b comes back from its encoding.
func returns(t *testing.T, b []byte) {
	t.Helper()
	s := Encode(b)
	if got, e := Decode(s); !bytes.Equal(got, b) || e != api.OK {
		t.Fatalf("%v: %q, %v %d", b, s, got, e)
	}
}

// P5.3: from bytes to the encoding and back: short ones, those of each length, and many triples.
func TestRoundTripOfBytes(t *testing.T) {
	returns(t, nil)
	for c := range 256 {
		returns(t, []byte{byte(c)})
		for d := range 256 {
			returns(t, []byte{byte(c), byte(d)})
		}
	}
	for v := 0; v < 1<<24; v += 17 {
		returns(t, []byte{byte(v >> 16), byte(v >> 8), byte(v)})
	}
	for b := range rows([]byte{0, 1, 127, 128, 255}, 7) {
		returns(t, b)
	}
	for n := range 1000 {
		returns(t, mixed(n, uint32(n)+1))
	}
}

// P5.3: from strings to bytes and back: whatever decodes is the encoding of what it decodes to.
func TestRoundTripOfStrings(t *testing.T) {
	count := 0
	for s := range rows([]byte("AQg/+8= "), 6) {
		b, e := Decode(string(s))
		if e != api.OK {
			continue
		}
		count++
		if back := Encode(b); back != string(s) {
			t.Errorf("%q: %v, %q", s, b, back)
		}
	}
	if want := 1 + 6*6*6*6 + 6*6*4 + 6*3; count != want { // of these six, A, Q, g and 8 end with two bits of 0; A, Q and g with four
		t.Errorf("%d strings decode, want %d", count, want)
	}
}

// P5.4: bytes whose number is a multiple of three, and others behind them.
func TestConcatenation(t *testing.T) {
	for groups := range 8 {
		for n := range 14 {
			for seed := range uint32(20) {
				a, b := mixed(3*groups, seed), mixed(n, seed+100)
				if s, both := Encode(a)+Encode(b), Encode(append(slices.Clip(a), b...)); s != both {
					t.Fatalf("%v and %v: %q, %q", a, b, s, both)
				}
			}
		}
	}
	for a := range rows([]byte{0, 127, 255}, 6) {
		for b := range rows([]byte{0, 128, 255}, 4) {
			if s, both := Encode(a)+Encode(b), Encode(append(slices.Clip(a), b...)); len(a)%3 == 0 && s != both {
				t.Fatalf("%v and %v: %q, %q", a, b, s, both)
			}
		}
	}
}

// P5.4: the strings of such bytes decode one behind the other, too; others have a padding between them, so they don't.
func TestConcatenationOfStrings(t *testing.T) {
	for n := range 8 {
		for m := range 8 {
			a, b := mixed(n, 1), mixed(m, 2)
			got, e := Decode(Encode(a) + Encode(b))
			switch {
			case n%3 == 0 || m == 0:
				if !bytes.Equal(got, append(slices.Clip(a), b...)) || e != api.OK {
					t.Errorf("%v and %v: %v %d", a, b, got, e)
				}
			case got != nil || e != api.ErrForm:
				t.Errorf("%v and %v: %v %d", a, b, got, e)
			}
		}
	}
}

// P5.5: each character of encodings of each form, replaced by each other byte.
func TestOneCharacter(t *testing.T) {
	for n := range 10 {
		for seed := range uint32(8) {
			b := mixed(n, seed)
			s := Encode(b)
			for place := range len(s) {
				for c := range 256 {
					x := []byte(s)
					x[place] = byte(c)
					got, e := Decode(string(x))
					if s == string(x) {
						continue
					}
					if e == api.OK && bytes.Equal(got, b) {
						t.Fatalf("%q and %q: %v", s, x, b)
					}
					if e != api.OK && (e != api.ErrForm || got != nil) {
						t.Fatalf("%q: %v %d", x, got, e)
					}
				}
			}
		}
	}
}

// P5.5: no other character of the alphabet denotes nothing within a full group: each of the 64 yields other bytes.
func TestOneCharacterOfAFullGroup(t *testing.T) {
	for place := range 4 {
		seen := map[string]bool{}
		for v := range 64 {
			s := []byte("Zm9v")
			s[place] = character(v)
			b, e := Decode(string(s))
			if e != api.OK || len(b) != 3 || seen[string(b)] {
				t.Errorf("%q: %v %d", s, b, e)
			}
			seen[string(b)] = true
		}
	}
}

// The chapter's examples.
func TestExamples(t *testing.T) {
	for _, c := range []struct{ b, s string }{{"", ""}, {"f", "Zg=="}, {"fo", "Zm8="}, {"foo", "Zm9v"}, {"foobar", "Zm9vYmFy"}, {"\xff\xfe\xfd", "//79"}} {
		if s := Encode([]byte(c.b)); s != c.s {
			t.Errorf("%q: %q", c.b, s)
		}
		if b, e := Decode(c.s); string(b) != c.b || e != api.OK {
			t.Errorf("%q: %q %d", c.s, b, e)
		}
	}
	for _, s := range []string{"Zg", "Zh==", "Zg=", "=", "Zm9v "} {
		if b, e := Decode(s); b != nil || e != api.ErrForm {
			t.Errorf("%q: %q %d", s, b, e)
		}
	}
	for n, want := range map[int]int{0: 0, 1: 4, 3: 4, 4: 8} {
		if Size(n) != want {
			t.Errorf("%d: %d", n, Size(n))
		}
	}
}
