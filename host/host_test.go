package host

import (
	"math"
	"net/netip"
	"regexp"
	"slices"
	"strconv"
	"strings"
	"testing"

	"postilion/api"
)

// v4 returns the HkV4 of those bytes.
func v4(b ...byte) api.Host {
	return api.Host{Kind: api.HkV4, Text: string(b)}
}

// v6 returns the HkV6 of those groups.
func v6(groups ...uint16) api.Host {
	var b []byte
	for _, g := range groups {
		b = append(b, byte(g>>8), byte(g))
	}
	return api.Host{Kind: api.HkV6, Text: string(b)}
}

// named returns the HkName of that text.
func named(s string) api.Host {
	return api.Host{Kind: api.HkName, Text: s}
}

// rows enumerates all rows of at most so many words, each from the list, joined by the separator.
func rows(words []string, sep string, most int) func(yield func(string) bool) {
	return func(yield func(string) bool) {
		row := []string{""}
		for length := range most + 1 {
			var longer []string
			for _, s := range row {
				if !yield(s) {
					return
				}
				for _, w := range words {
					if length > 0 {
						w = sep + w
					}
					longer = append(longer, s+w)
				}
			}
			row = longer
		}
	}
}

// texts enumerates all strings of at most so many bytes, each from the alphabet.
func texts(alphabet string, most int) func(yield func(string) bool) {
	return rows(strings.Split(alphabet, ""), "", most)
}

// small returns s with its letters from A to Z in lower case, and great the other way round.
func small(s string) string {
	return strings.Map(func(r rune) rune {
		if r >= 'A' && r <= 'Z' {
			return r + 32
		}
		return r
	}, s)
}

func great(s string) string {
	return strings.Map(func(r rune) rune {
		if r >= 'a' && r <= 'z' {
			return r - 32
		}
		return r
	}, s)
}

var (
	nameForm   = regexp.MustCompile(`^[a-z0-9]([a-z0-9-]*[a-z0-9])?(\.[a-z0-9]([a-z0-9-]*[a-z0-9])?)*$`)
	numberLast = regexp.MustCompile(`(^|\.)[0-9]+$`)
	dotsForm   = regexp.MustCompile(`^[0-9.]*$`)
	targetForm = regexp.MustCompile(`(?s)^(\[[^\[\]]*\]|[^:\[\]]*):([1-9][0-9]{0,4})$`)
)

// isNameToo says by patterns what a name is.
func isNameToo(s string) bool {
	return len(s) <= 40 && nameForm.MatchString(s) && !numberLast.MatchString(s)
}

// denoted says what host the string denotes, with the library's reader of addresses: it knows the same forms, and some more.
func denoted(s string) (api.Host, api.Errno) {
	colon := strings.Contains(s, ":")
	if !colon && !dotsForm.MatchString(s) {
		if isNameToo(small(s)) {
			return named(small(s)), api.OK
		}
		return api.Host{}, api.ErrHost
	}
	a, err := netip.ParseAddr(s)
	switch {
	case err != nil || colon && strings.ContainsAny(s, ".%"):
		return api.Host{}, api.ErrHost
	case colon:
		return api.Host{Kind: api.HkV6, Text: string(a.AsSlice())}, api.OK
	}
	return v4(a.AsSlice()...), api.OK
}

// denotedTarget says what target the string denotes.
func denotedTarget(s string) (api.Target, api.Errno) {
	parts := targetForm.FindStringSubmatch(s)
	if parts == nil {
		return api.Target{}, api.ErrHost
	}
	text := strings.Trim(parts[1], "[]")
	h, e := denoted(text)
	port, err := strconv.Atoi(parts[2])
	if e != api.OK || err != nil || port > 65535 || (text != parts[1]) != (h.Kind == api.HkV6) {
		return api.Target{}, api.ErrHost
	}
	return api.Target{Host: h, Port: port}, api.OK
}

// textToo says what the text of an HkV6 is: with each run of at least two groups 0 cut out in turn, the longest, the first of those.
func textToo(groups []uint16) string {
	words := func(part []uint16) string {
		var all []string
		for _, g := range part {
			all = append(all, strconv.FormatInt(int64(g), 16))
		}
		return strings.Join(all, ":")
	}
	for length := len(groups); length >= 2; length-- {
		for from := 0; from+length <= len(groups); from++ {
			if !slices.ContainsFunc(groups[from:from+length], func(g uint16) bool { return g != 0 }) {
				return words(groups[:from]) + "::" + words(groups[from+length:])
			}
		}
	}
	return words(groups)
}

// is fails the test unless the host is valid and has that text.
func is(t *testing.T, h api.Host, text string) {
	t.Helper()
	if s := Text(h); s != text || !May(h) {
		t.Errorf("%d %q: %q, %v; want %q", h.Kind, h.Text, s, May(h), text)
	}
}

// isNone fails the test if the host is valid or has a text, or if it has one with a port.
func isNone(t *testing.T, h api.Host) {
	t.Helper()
	x := api.Target{Host: h, Port: 80}
	if Text(h) != "" || May(h) || Print(x) != "" || MayTarget(x) {
		t.Errorf("%d %q: %q, %v; as a target %q, %v", h.Kind, h.Text, Text(h), May(h), Print(x), MayTarget(x))
	}
}

// parses fails the test unless the string denotes that host.
func parses(t *testing.T, s string, want api.Host) {
	t.Helper()
	if h, e := Parse(s); h != want || e != api.OK {
		t.Errorf("%q: %v, %d; want %v", s, h, e, want)
	}
}

// parsesNone fails the test if the string denotes a host.
func parsesNone(t *testing.T, s string) {
	t.Helper()
	if h, e := Parse(s); h != (api.Host{}) || e != api.ErrHost {
		t.Errorf("%q: %v, %d", s, h, e)
	}
}

// parsesNoTarget fails the test if the string denotes a target.
func parsesNoTarget(t *testing.T, s string) {
	t.Helper()
	if x, e := ParseTarget(s); x != (api.Target{}) || e != api.ErrHost {
		t.Errorf("%q: %v, %d", s, x, e)
	}
}

// holds fails the test unless what is parsed is what the chapter says, valid, and parsed again from its text; and the same in lower and in upper case.
func holds(t *testing.T, s string) {
	t.Helper()
	want, err := denoted(s)
	h, e := Parse(s)
	if h != want || e != err {
		t.Fatalf("%q: %v, %d; want %v, %d", s, h, e, want, err)
	}
	for _, other := range []string{small(s), great(s)} {
		if o, oe := Parse(other); o != h || oe != e {
			t.Fatalf("%q: %v, %d; %q: %v, %d", s, h, e, other, o, oe)
		}
	}
	if e != api.OK {
		return
	}
	if !May(h) {
		t.Fatalf("%q: %v isn't valid", s, h)
	}
	text := Text(h)
	if h.Kind != api.HkV6 && text != small(s) {
		t.Fatalf("%q: the text is %q", s, text)
	}
	if again, e := Parse(text); again != h || e != api.OK {
		t.Fatalf("%q: %v, then %v, %d", s, h, again, e)
	}
}

// holdsTarget is holds for targets.
func holdsTarget(t *testing.T, s string) {
	t.Helper()
	want, err := denotedTarget(s)
	x, e := ParseTarget(s)
	if x != want || e != err {
		t.Fatalf("%q: %v, %d; want %v, %d", s, x, e, want, err)
	}
	if o, oe := ParseTarget(great(s)); o != x || oe != e {
		t.Fatalf("%q: %v, %d; in upper case: %v, %d", s, x, e, o, oe)
	}
	if e != api.OK {
		return
	}
	if !MayTarget(x) {
		t.Fatalf("%q: %v isn't valid", s, x)
	}
	if again, e := ParseTarget(Print(x)); again != x || e != api.OK {
		t.Fatalf("%q: %v, then %v, %d", s, x, again, e)
	}
}

// P4.1: every kind, with every number of bytes about those of addresses.
func TestMayKinds(t *testing.T) {
	for kind := range 256 {
		for length := range 45 {
			for _, c := range []string{"\x00", "a", "1", "\xff"} {
				h := api.Host{Kind: uint8(kind), Text: strings.Repeat(c, length)}
				want := kind == 1 && length == 4 || kind == 2 && length == 16 || kind == 3 && c == "a" && length >= 1 && length <= 40
				if May(h) != want || (Text(h) != "") != want {
					t.Errorf("kind %d, %d times %q: %v, %q", kind, length, c, !want, Text(h))
				}
			}
		}
	}
}

// P4.1, P4.2: the text of an address is no address, and no name of another kind.
func TestMayTexts(t *testing.T) {
	for _, h := range []api.Host{
		{}, {Kind: api.HkNone, Text: "a"}, {Kind: api.HkV4, Text: "1.2.3.4"}, {Kind: api.HkV4, Text: "10.0.0.255"}, {Kind: api.HkV4, Text: "abc"}, {Kind: api.HkV4, Text: "abcde"}, {Kind: api.HkV6, Text: "::1"}, {Kind: api.HkV6, Text: "abcd"}, {Kind: api.HkV6, Text: strings.Repeat("a", 15)}, {Kind: api.HkV6, Text: strings.Repeat("a", 17)},
		named("1.2.3.4"), named("::1"), named("::"), named("[::1]"), named("a:80"), {Kind: 4, Text: "a"}, {Kind: 4, Text: "abcd"}, {Kind: 255, Text: strings.Repeat("a", 16)},
	} {
		isNone(t, h)
	}
	is(t, api.Host{Kind: api.HkV4, Text: "abcd"}, "97.98.99.100")
	is(t, named("abcd"), "abcd")
}

// P4.1: names of 0, 1, 40 and 41 bytes, of one label and of several.
func TestNameLengths(t *testing.T) {
	for n := range 45 {
		s := strings.Repeat("a", n)
		if want := n >= 1 && n <= 40; May(named(s)) != want {
			t.Errorf("%d bytes: %v", n, !want)
		}
		holds(t, s)
		holds(t, strings.Repeat("a.", n/2)+strings.Repeat("z", n%2)) // the last label is empty if n is even
		holds(t, strings.Repeat("0", n)+".a")
	}
	longest := strings.Repeat("a", 31) + ".example1"
	is(t, named(longest[1:]), longest[1:])
	is(t, named(longest), longest)
	parses(t, great(longest), named(longest))
	isNone(t, named("a"+longest))
	parsesNone(t, "a"+longest)
	for _, n := range []int{1000, 1 << 20} {
		isNone(t, named(strings.Repeat("a", n)))
		isNone(t, named(strings.Repeat("a.", n)+"a"))
	}
}

// P4.1: labels, one by one.
func TestLabels(t *testing.T) {
	for _, s := range []string{"a", "z", "a0", "0a", "9z9", "a-b", "a--b", "1-2", "1-1.a", "a.b", "a.example", "1.a", "1.2.3.a", "0.0.0.0a", "0x1", "1e5", "a.1b", "a.b1", "a.1-1", "xn--a", "1a.2b.3c", "a.b.c.d.e.f.g.h"} {
		is(t, named(s), s)
		parses(t, s, named(s))
	}
	for _, s := range []string{
		"", ".", "..", ".a", "a.", "a..b", "..a", "a.b.", // labels that are empty
		"-", "--", "-a", "a-", "-.a", "a.-", "-a.b", "a-.b", "a.-b", "a.b-", "a.b-.c", "a.-b.c", "a.-", "-1", "1-", // that begin or end with a hyphen
		"1", "0", "a.1", "a.0", "a.01", "a.b.99", "a-b.7", "1.2.3", "a.1234567890", // a last label of digits only
		"A", "a.B", "Aa", "a_b", "a b", " a", "a ", "a\n", "a\x00", "a/b", "a@b", "a*", "*.a", "ä", "a\u00e9", "\u212a", "\xff", "a\xffb", "[a]", "a]", "a,b", "a;b", "a%b",
	} {
		isNone(t, named(s))
	}
}

// P4.1, P4.3: each byte, at each place of a label, alone and among others.
func TestNameEachByte(t *testing.T) {
	for c := range 256 {
		b := string([]byte{byte(c)})
		letter := c >= 'a' && c <= 'z'
		inside := letter || c >= '0' && c <= '9'
		for s, want := range map[string]bool{b: letter, b + "m": inside, "m" + b: inside, "m" + b + "m": inside || c == '-' || c == '.', b + ".m": inside, "m." + b: letter, "m." + b + "m": inside, "1" + b + "1": letter || c == '-'} {
			if May(named(s)) != want {
				t.Errorf("%q: %v", s, !want)
			}
			h, e := Parse(s)
			upper := c >= 'A' && c <= 'Z'
			switch {
			case want || upper && May(named(small(s))):
				if h != named(small(s)) || e != api.OK {
					t.Errorf("%q: %v, %d", s, h, e)
				}
			case h != (api.Host{}) || e != api.ErrHost:
				t.Errorf("%q: %v, %d", s, h, e)
			}
		}
	}
}

// P4.1: all short names.
func TestNameAllShort(t *testing.T) {
	for s := range texts("az09-.A", 6) {
		if got := May(named(s)); got != isNameToo(s) {
			t.Fatalf("%q: %v", s, got)
		}
	}
}

// P4.1, P4.2: ports of 0, 1, 65535 and 65536, with hosts of each kind; and no target of a host that isn't one.
func TestPorts(t *testing.T) {
	for text, h := range map[string]api.Host{"a.example": named("a.example"), "10.0.0.255": v4(10, 0, 0, 255), "[2001:db8::1:0]": v6(0x2001, 0xdb8, 0, 0, 0, 0, 1, 0), "[::]": v6(0, 0, 0, 0, 0, 0, 0, 0)} {
		for _, port := range []int{1, 2, 9, 10, 80, 443, 8080, 65534, 65535} {
			x := api.Target{Host: h, Port: port}
			s := text + ":" + strconv.Itoa(port)
			if Print(x) != s || !MayTarget(x) {
				t.Errorf("%v: %q, %v", x, Print(x), MayTarget(x))
			}
			if got, e := ParseTarget(s); got != x || e != api.OK {
				t.Errorf("%q: %v, %d", s, got, e)
			}
		}
		for _, port := range []int{math.MinInt, -65536, -80, -1, 0, 65536, 65537, 65536 + 80, 1 << 32, 1<<32 + 80, math.MaxInt} {
			x := api.Target{Host: h, Port: port}
			if Print(x) != "" || MayTarget(x) {
				t.Errorf("%v: %q, %v", x, Print(x), MayTarget(x))
			}
			parsesNoTarget(t, text+":"+strconv.Itoa(port))
		}
	}
	for _, h := range []api.Host{{}, named(""), named("A"), v4(1, 2, 3), v6(1, 2, 3, 4, 5, 6, 7), {Kind: 4, Text: "a"}} {
		for _, port := range []int{-1, 0, 1, 80, 65535, 65536} {
			if x := (api.Target{Host: h, Port: port}); Print(x) != "" || MayTarget(x) {
				t.Errorf("%v: %q, %v", x, Print(x), MayTarget(x))
			}
		}
	}
}

// P4.2: each port and each byte of an HkV4, at each place.
func TestTextsOfNumbers(t *testing.T) {
	for port := 1; port <= 65535; port++ {
		x := api.Target{Host: named("a"), Port: port}
		if want := "a:" + strconv.Itoa(port); Print(x) != want {
			t.Fatalf("%q, want %q", Print(x), want)
		}
		if got, e := ParseTarget(Print(x)); got != x || e != api.OK {
			t.Fatalf("%d: %v, %d", port, got, e)
		}
	}
	for c := range 256 {
		s, b := strconv.Itoa(c), byte(c)
		is(t, v4(b, 1, 20, 255), s+".1.20.255")
		is(t, v4(0, b, 100, 9), "0."+s+".100.9")
		is(t, v4(99, 10, b, 0), "99.10."+s+".0")
		is(t, v4(7, 0, 0, b), "7.0.0."+s)
		parses(t, "1."+s+".2."+s, v4(1, b, 2, b))
	}
}

// P4.2: each group's value, in lower case, without leading zeros.
func TestTextEachGroup(t *testing.T) {
	for n := range 1 << 16 {
		g := uint16(n)
		h := v6(g, 1, g, 2, 3, 4, 5, g)
		s := strconv.FormatInt(int64(n), 16)
		want := s + ":1:" + s + ":2:3:4:5:" + s
		if Text(h) != want {
			t.Fatalf("%q, want %q", Text(h), want)
		}
		if got, e := Parse(great(want)); got != h || e != api.OK {
			t.Fatalf("%q: %v, %d", great(want), got, e)
		}
	}
}

// P4.2, P4.4: every row of groups of which some are 0, by the chapter's words and by the library's.
func TestTextAllGaps(t *testing.T) {
	for _, fill := range []uint16{1, 0xf, 0x10, 0xabcd, 0xffff, 0x100} {
		for mask := range 256 {
			groups := make([]uint16, 8)
			for i := range groups {
				if mask>>i&1 == 1 {
					groups[i] = fill
				}
			}
			h := v6(groups...)
			is(t, h, textToo(groups))
			parses(t, Text(h), h)
			a := netip.AddrFrom16([16]byte([]byte(h.Text)))
			if !a.Is4In6() && a.String() != Text(h) {
				t.Errorf("%v: %q, want %q", groups, Text(h), a)
			}
			if want := "[" + textToo(groups) + "]:443"; Print(api.Target{Host: h, Port: 443}) != want {
				t.Errorf("%q, want %q", Print(api.Target{Host: h, Port: 443}), want)
			}
		}
	}
}

// P4.2: runs of groups that are 0, one by one.
func TestTextRuns(t *testing.T) {
	for want, h := range map[string]api.Host{
		"::": v6(0, 0, 0, 0, 0, 0, 0, 0), "::1": v6(0, 0, 0, 0, 0, 0, 0, 1), "1::": v6(1, 0, 0, 0, 0, 0, 0, 0), "1::8": v6(1, 0, 0, 0, 0, 0, 0, 8),
		// of one group
		"0:2:3:4:5:6:7:8": v6(0, 2, 3, 4, 5, 6, 7, 8), "1:2:3:0:5:6:7:8": v6(1, 2, 3, 0, 5, 6, 7, 8), "1:2:3:4:5:6:7:0": v6(1, 2, 3, 4, 5, 6, 7, 0), "0:2:0:4:0:6:0:8": v6(0, 2, 0, 4, 0, 6, 0, 8), "1:0:3:0:5:0:7:0": v6(1, 0, 3, 0, 5, 0, 7, 0),
		// of two groups, and of one beside them
		"::3:4:5:6:7:8": v6(0, 0, 3, 4, 5, 6, 7, 8), "1:2:3::6:7:8": v6(1, 2, 3, 0, 0, 6, 7, 8), "1:2:3:4:5:6::": v6(1, 2, 3, 4, 5, 6, 0, 0), "0:2::5:6:7:8": v6(0, 2, 0, 0, 5, 6, 7, 8), "::3:0:5:6:7:0": v6(0, 0, 3, 0, 5, 6, 7, 0),
		// several of the same length
		"::3:0:0:6:7:8": v6(0, 0, 3, 0, 0, 6, 7, 8), "1::4:0:0:7:8": v6(1, 0, 0, 4, 0, 0, 7, 8), "::3:0:0:6:0:0": v6(0, 0, 3, 0, 0, 6, 0, 0), "::4:5:0:0:0": v6(0, 0, 0, 4, 5, 0, 0, 0), "1::5:0:0:0": v6(1, 0, 0, 0, 5, 0, 0, 0),
		// of other lengths
		"0:0:3::7:8": v6(0, 0, 3, 0, 0, 0, 7, 8), "::4:0:0:7:8": v6(0, 0, 0, 4, 0, 0, 7, 8), "1:0:0:4::": v6(1, 0, 0, 4, 0, 0, 0, 0), "0:0:0:4::": v6(0, 0, 0, 4, 0, 0, 0, 0), "::5:0:0:0": v6(0, 0, 0, 0, 5, 0, 0, 0), "::ffff:102:304": v6(0, 0, 0, 0, 0, 0xffff, 0x102, 0x304),
	} {
		is(t, h, want)
		parses(t, want, h)
	}
}

// P4.3: decimals with leading zeros, of 255 and of 256, and everything else that is like an HkV4.
func TestParseV4(t *testing.T) {
	for s, h := range map[string]api.Host{"0.0.0.0": v4(0, 0, 0, 0), "255.255.255.255": v4(255, 255, 255, 255), "1.2.3.4": v4(1, 2, 3, 4), "10.0.0.255": v4(10, 0, 0, 255), "192.168.100.9": v4(192, 168, 100, 9)} {
		parses(t, s, h)
		is(t, h, s)
	}
	for _, s := range []string{
		"1.2.3.04", "01.2.3.4", "1.02.3.4", "1.2.003.4", "00.0.0.0", "0.0.0.00", "1.2.3.0255", "1.2.3.256", "256.2.3.4", "1.256.3.4", "1.2.999.4", "1.2.3.1000", "1.2.3.260", "1.2.3.4294967297", "1.2.3.18446744073709551617",
		"", ".", "1", "1.2", "1.2.3", "1.2.3.", ".1.2.3", "1..2.3", "1.2.3.4.", ".1.2.3.4", "1.2.3.4.5", "1.2.3.4.5.6", "...", "....", "0", "00", "1.2..4", "2130706433",
		"1.2.3.-4", "1.2.3.+4", "1.2.3. 4", " 1.2.3.4", "1.2.3.4 ", "1.2.3.4\n", "1,2,3,4", "1.2.3.4/8", "[1.2.3.4]", "1.2.3.\u0664", "1.2.3.4%1",
	} {
		parsesNone(t, s)
		parsesNoTarget(t, s)
		parsesNoTarget(t, s+":80")
	}
	parses(t, "1.2.3.0x4", named("1.2.3.0x4")) // a letter makes it a name
	parses(t, "1.2.3.4a", named("1.2.3.4a"))
}

// P4.3: all rows of a few decimals.
func TestParseV4AllShort(t *testing.T) {
	for s := range rows([]string{"0", "9", "00", "010", "99", "255", "256", ""}, ".", 5) {
		holds(t, s)
	}
	for n := range 1100 {
		holds(t, "1.2.3."+strconv.Itoa(n))
		holds(t, "1.0"+strconv.Itoa(n)+".3.4")
		holds(t, strconv.Itoa(n)+".2.3.4")
	}
}

// P4.3: `::` that stands for no group, for one, for all, and twice; too few groups and too many.
func TestParseV6(t *testing.T) {
	for s, h := range map[string]api.Host{
		"::": v6(0, 0, 0, 0, 0, 0, 0, 0), "0:0:0:0:0:0:0:0": v6(0, 0, 0, 0, 0, 0, 0, 0), "0:0::0": v6(0, 0, 0, 0, 0, 0, 0, 0), "0::": v6(0, 0, 0, 0, 0, 0, 0, 0), "::0": v6(0, 0, 0, 0, 0, 0, 0, 0), "0000::0000": v6(0, 0, 0, 0, 0, 0, 0, 0),
		"1:2:3:4:5:6:7:8": v6(1, 2, 3, 4, 5, 6, 7, 8), "0001:0002:0003:0004:0005:0006:0007:0008": v6(1, 2, 3, 4, 5, 6, 7, 8), "1:02:003:0004:5:06:007:0008": v6(1, 2, 3, 4, 5, 6, 7, 8),
		"::2:3:4:5:6:7:8": v6(0, 2, 3, 4, 5, 6, 7, 8), "1:2:3:4:5:6:7::": v6(1, 2, 3, 4, 5, 6, 7, 0), "1:2:3::5:6:7:8": v6(1, 2, 3, 0, 5, 6, 7, 8), "1::3:4:5:6:7:8": v6(1, 0, 3, 4, 5, 6, 7, 8), "1:2:3:4:5:6::8": v6(1, 2, 3, 4, 5, 6, 0, 8),
		"1:2:0:0:0:0:0:8": v6(1, 2, 0, 0, 0, 0, 0, 8), "1:0:0:2:0::3": v6(1, 0, 0, 2, 0, 0, 0, 3), "1::2:0:0:3": v6(1, 0, 0, 0, 2, 0, 0, 3), "::1:0": v6(0, 0, 0, 0, 0, 0, 1, 0), "0:1::": v6(0, 1, 0, 0, 0, 0, 0, 0),
		"ffff:FFFF:fFfF:AbCd:abcd:ABCD:a:F": v6(0xffff, 0xffff, 0xffff, 0xabcd, 0xabcd, 0xabcd, 0xa, 0xf), "AB::": v6(0xab, 0, 0, 0, 0, 0, 0, 0), "::000a": v6(0, 0, 0, 0, 0, 0, 0, 10), "2001:DB8::1:0": v6(0x2001, 0xdb8, 0, 0, 0, 0, 1, 0), "dead:beef::": v6(0xdead, 0xbeef, 0, 0, 0, 0, 0, 0),
	} {
		parses(t, s, h)
	}
	for _, s := range []string{
		"1:2:3:4:5:6:7::8", "::1:2:3:4:5:6:7:8", "1:2:3:4:5:6:7:8::", "1::2:3:4:5:6:7:8", "0:0:0:0::0:0:0:0", // for none
		"1::2::3", "::1::", "::::", "1::::2", "::1::2", "1::2::", ":::", "1:::2", ":::1", "1:::", // twice
		"1:2:3:4:5:6:7", "1:2:3:4:5:6:7:8:9", "1:2", "1:2:3:4:5:6:7:8:9::", "1:2:3:4:5:6:7:8:9:10", "::1:2:3:4:5:6:7:8:9",
		":", ":1", "1:", ":1:2:3:4:5:6:7", "1:2:3:4:5:6:7:", ":1:2:3:4:5:6:7:8", "1:2:3:4:5:6:7:8:", "::1:", ":1::", ":::1:2", "1::2:", ":1::2", ":2:3:4:5:6:7:8",
		"::12345", "00001::", "::00000", "1:2:3:4:5:6:7:00008", "::10000", "12345:2:3:4:5:6:7:8", // five digits
		"::g", "::G", "::-1", "::+1", "::0x1", "::1_1", ":: 1", ":: ", " ::1", "::1 ", "::1\n", "::\x00", "::\u0661", "::\uff11", "::1%1", "::1%eth0", "::1/64", "[::1]", "[::]", "[::1", "::1]",
		"::1.2.3.4", "::ffff:1.2.3.4", "1:2:3:4:5:6:1.2.3.4", "a.example:80", "a:b", "a:", ":a", "1.2.3.4:80", "1.2.3.4::", "a.b::",
	} {
		parsesNone(t, s)
		parsesNoTarget(t, "["+s+"]:80")
	}
}

// P4.3: groups of 0, 1, 4 and 5 hexadecimal digits, at each place.
func TestParseV6Digits(t *testing.T) {
	for digits := range 8 {
		for place := range 8 {
			for _, c := range []string{"0", "1", "f", "A"} {
				words := strings.Split("1:2:3:4:5:6:7:8", ":")
				words[place] = strings.Repeat(c, digits)
				s := strings.Join(words, ":")
				_, e := Parse(s)
				edge := digits == 0 && (place == 0 || place == 7) // one colon at an end stands for nothing
				if want := digits <= 4 && !edge; (e == api.OK) != want {
					t.Errorf("%q: %d", s, e)
				}
				holds(t, s)
			}
		}
	}
	for c := range 256 {
		b := string([]byte{byte(c)})
		for _, s := range []string{"::" + b, "::1" + b, "::" + b + "1", b + "::", "1" + b + "::1", "1::" + b + ":1", b} {
			if c < 128 { // the library's reader is asked of no other bytes
				holds(t, s)
			} else {
				parsesNone(t, s)
			}
		}
	}
}

// P4.3: all rows of a few groups, so that `::` is everywhere, once, twice and more often.
func TestParseV6AllRows(t *testing.T) {
	for s := range rows([]string{"0", "1", ""}, ":", 10) {
		holds(t, s)
	}
	for s := range rows([]string{"", "0", "00A", "FfFf", "10000", "g"}, ":", 5) {
		holds(t, s)
	}
}

// P4.3 to P4.6: all short strings.
func TestParseAllShort(t *testing.T) {
	for s := range texts("01.-:aAgZ", 6) {
		holds(t, s)
	}
}

// P4.3 to P4.6: all short strings that are like targets.
func TestParseTargetAllShort(t *testing.T) {
	for s := range texts("0[].:a", 7) {
		holdsTarget(t, s)
		holdsTarget(t, s+":80")
		holdsTarget(t, "["+s+"]:1")
	}
	for s := range texts("0165:a -+", 5) {
		holdsTarget(t, "a:"+s)
		holdsTarget(t, "[::1]:"+s)
		holdsTarget(t, "1.2.3.4:"+s)
	}
}

// P4.3: targets, with each form of their hosts.
func TestParseTarget(t *testing.T) {
	for s, x := range map[string]api.Target{
		"a:1": {Host: named("a"), Port: 1}, "A.Example:443": {Host: named("a.example"), Port: 443}, "1.2.3.4:65535": {Host: v4(1, 2, 3, 4), Port: 65535},
		"[::1]:80": {Host: v6(0, 0, 0, 0, 0, 0, 0, 1), Port: 80}, "[::]:1": {Host: v6(0, 0, 0, 0, 0, 0, 0, 0), Port: 1}, "[0:0::00AB]:8080": {Host: v6(0, 0, 0, 0, 0, 0, 0, 0xab), Port: 8080}, "[1:2:3:4:5:6:7:8]:9": {Host: v6(1, 2, 3, 4, 5, 6, 7, 8), Port: 9},
	} {
		if got, e := ParseTarget(s); got != x || e != api.OK {
			t.Errorf("%q: %v, %d; want %v", s, got, e, x)
		}
	}
	for _, s := range []string{
		"", ":", "a", "a:", ":1", ":80", "80", "::", "::1", "1.2.3.4", "[", "]", "[]", "[]:80", "[:80", "]:80",
		"a:0", "a:00", "a:080", "a:01", "a:65536", "a:65616", "a:100000", "a:-1", "a:+1", "a:1 ", "a: 1", "a:1\n", "a:0x50", "a:8_0", "a:80a", "a:a", "a:1.0", "a:18446744073709551696", "a:\u0661",
		"::1:80", "1:2:3:4:5:6:7:8:80", "::80", "2001:db8::1:0:80", // an HkV6 without brackets
		"[::1]", "[::1]80", "[::1]:", "[::1]:0", "[::1]:080", "[::1]:65536", "[::1]:80:80", "[::1] :80", "[::1]: 80", "[::1]]:80", "[[::1]]:80", "[[::1]:80", "[::1:80", "::1]:80", " [::1]:80", "[ ::1]:80", "[::1 ]:80", "x[::1]:80", "[::1]x:80", "[::1]:80]", "[::1]:[80]", "(::1):80", "[::1]:80]:80",
		"[a]:1", "[a.example]:443", "[1.2.3.4]:1", "[A]:80", "[::1.2.3.4]:80", "[::g]:80",
		"a:b:80", "a:80:80", "a::80", "1.2.3.4:80:80", "a..b:80", "a.1:80", "-a:80", "1.2.3:80", "1.2.3.256:80", "a b:80", "a@b:80", "http://a:80", "a:80/", "[a:1", "a]:1",
	} {
		parsesNoTarget(t, s)
	}
}

// P4.3: what stands for no host or target is that however long it is.
func TestParseLong(t *testing.T) {
	for _, part := range []string{":", "::", "1:", "0", "1.", ".", "a", "a.", "-", "A", "[", "]", "]:", "[::1]:80", "\x00", "\xff"} {
		for _, n := range []int{50, 1 << 20} {
			s := strings.Repeat(part, n)
			for _, long := range []string{s, s + "a", s + "1", "a" + s, "::" + s} {
				parsesNone(t, long)
				for _, target := range []string{long, long + ":80", "[" + long + "]:80", "a:1" + long, "[::1]:1" + long} {
					parsesNoTarget(t, target)
				}
			}
		}
	}
}

// P4.4: hosts of each kind, each with each of some ports, from hosts to texts and back.
func TestRoundTrip(t *testing.T) {
	all := []api.Host{named("a"), named("a-1.b.0c"), named("abcd"), named(strings.Repeat("a", 40)), named("0x1"), named("1.2.3.4a"), named("f"), named("ffff")}
	for _, a := range []byte{0, 1, 9, 10, 99, 100, 255} {
		for _, b := range []byte{0, 1, 200, 255} {
			all = append(all, v4(a, b, a, b), v4(b, b, a, 0), api.Host{Kind: api.HkV6, Text: strings.Repeat(string([]byte{a, b}), 8)}, api.Host{Kind: api.HkV6, Text: string([]byte{0, a, 0, 0, 0, 0, b, 0, 0, 0, 0, 0, a, a, 0, b})})
		}
	}
	for _, h := range all {
		s := Text(h)
		parses(t, s, h)
		if s == "" || s != small(s) {
			t.Errorf("%v: %q", h, s)
		}
		for _, port := range []int{1, 80, 65535} {
			x := api.Target{Host: h, Port: port}
			if got, e := ParseTarget(Print(x)); got != x || e != api.OK {
				t.Errorf("%v: %q, %v, %d", x, Print(x), got, e)
			}
		}
	}
}

// P4.5: different hosts have different texts, those of different kinds too; and so have different targets.
func TestUniqueTexts(t *testing.T) {
	seen := map[string]api.Host{}
	targets := map[string]api.Target{}
	note := func(h api.Host) {
		s := Text(h)
		if other, ok := seen[s]; s == "" || ok && other != h {
			t.Fatalf("%v and %v: %q", h, other, s)
		}
		seen[s] = h
		for _, port := range []int{1, 11, 111, 8} {
			x := api.Target{Host: h, Port: port}
			s := Print(x)
			if other, ok := targets[s]; s == "" || ok && other != x {
				t.Fatalf("%v and %v: %q", x, other, s)
			}
			targets[s] = x
		}
	}
	values := []byte{0, 1, 11, 111}
	for n := range 256 {
		note(v4(values[n&3], values[n>>2&3], values[n>>4&3], values[n>>6]))
	}
	for n := range 6561 { // 3 to the power 8
		groups := make([]uint16, 8)
		for i := range groups {
			groups[i] = []uint16{0, 1, 0x11}[n%3]
			n /= 3
		}
		note(v6(groups...))
	}
	for s := range texts("a1.-", 6) {
		if isNameToo(s) {
			note(named(s))
		}
	}
}

// P4.6: letters in upper case make no difference, whichever they are; and only letters from A to Z are some.
func TestUpperCase(t *testing.T) {
	for _, s := range []string{"abcdef.xyz", "a-b.c1", "abcd:ef::fe", "::abcd", "a::f"} {
		want, e := Parse(s)
		if e != api.OK {
			t.Fatalf("%q: %d", s, e)
		}
		for mask := range 1 << len(s) {
			b := []byte(s)
			for i := range b {
				if mask>>i&1 == 1 {
					b[i] = great(s)[i]
				}
			}
			parses(t, string(b), want)
		}
	}
	for _, s := range []string{"\u212a", "a\u212ab", "\u017f", "a\u017f.b", "\u0130", "\uff21", "Ä", "@", "`", "a@", "a[", "a{", "::G", "::@", "::`"} {
		parsesNone(t, s)
	}
}

// The chapter's examples.
func TestExamples(t *testing.T) {
	for want, h := range map[string]api.Host{"10.0.0.255": v4(10, 0, 0, 255), "::1": v6(0, 0, 0, 0, 0, 0, 0, 1), "::": v6(0, 0, 0, 0, 0, 0, 0, 0), "2001:db8::1:0": {Kind: api.HkV6, Text: "\x20\x01\x0d\xb8\x00\x00\x00\x00\x00\x00\x00\x00\x00\x01\x00\x00"}, "1:0:0:2::3": v6(1, 0, 0, 2, 0, 0, 0, 3), "1:0:2:3:4:5:6:7": v6(1, 0, 2, 3, 4, 5, 6, 7)} {
		is(t, h, want)
		parses(t, want, h)
	}
	parses(t, "A.Example", named("a.example"))
	parses(t, "0:0::0", v6(0, 0, 0, 0, 0, 0, 0, 0))
	for _, s := range []string{"a..b", "a.1", "-a", "1.2.3.04", "1.2.3", "1.2.3.256", "1::2::3", "1:2:3:4:5:6:7::8"} {
		parsesNone(t, s)
	}
	want := api.Target{Host: v6(0, 0, 0, 0, 0, 0, 0, 1), Port: 80}
	if x, e := ParseTarget("[::1]:80"); x != want || e != api.OK {
		t.Errorf("%v, %d", x, e)
	}
	for _, s := range []string{"a:080", "a:0", "::1:80"} {
		parsesNoTarget(t, s)
	}
}
