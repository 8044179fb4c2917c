package host

import (
	"strconv"
	"strings"

	"postilion/api"
	"postilion/ascii"
)

const (
	sizeV4    = 4
	sizeV6    = 16
	maxGroups = 8 // groups of two bytes that an HkV6 has
	maxDigits = 4 // hexadecimal digits of a group
)

// textV4 returns the text of an HkV4 with those four bytes.
func textV4(b string) string {
	var words [sizeV4]string
	for i := range sizeV4 {
		words[i] = strconv.Itoa(int(b[i]))
	}
	return strings.Join(words[:], ".")
}

// parseV4 returns the four bytes that s denotes.
func parseV4(s string) (string, bool) {
	words := strings.SplitN(s, ".", sizeV4) // dots beyond these stay in the last word, which is no number then
	if len(words) != sizeV4 {
		return "", false
	}
	var b [sizeV4]byte
	for i := range sizeV4 {
		n, e := ascii.Parse(words[i], 0, 255)
		if e != api.OK {
			return "", false
		}
		b[i] = byte(n)
	}
	return string(b[:]), true
}

// groups are those of an HkV6.
type groups [maxGroups]uint16

// groupsOf returns the groups of an HkV6 with those sixteen bytes.
func groupsOf(b string) groups {
	var g groups
	for i := range maxGroups {
		g[i] = uint16(b[2*i])<<8 | uint16(b[2*i+1])
	}
	return g
}

// bytes returns the sixteen bytes.
func (g groups) bytes() string {
	var b [sizeV6]byte
	for i := range maxGroups {
		b[2*i], b[2*i+1] = byte(g[i]>>8), byte(g[i])
	}
	return string(b[:])
}

// text returns the text of the HkV6.
func (g groups) text() string {
	from, to := g.gap()
	if from == to {
		return g.words(0, maxGroups)
	}
	return g.words(0, from) + "::" + g.words(to, maxGroups)
}

// gap returns the places from which on, and up to which, the groups are written as `::`. The two are equal if there are none.
func (g groups) gap() (from, to int) {
	start := 0
	for i := range maxGroups {
		run := i + 1 - start
		switch {
		case g[i] != 0:
			start = i + 1
		case run >= 2 && run > to-from: // not with one of the same length, since the first counts
			from, to = start, i+1
		}
	}
	return from, to
}

// words returns the groups between two places as words.
func (g groups) words(from, to int) string {
	var all []string
	for i := range to - from {
		all = append(all, strconv.FormatUint(uint64(g[from+i]), 16))
	}
	return strings.Join(all, ":")
}

// parseV6 returns the sixteen bytes that s denotes.
func parseV6(s string) (string, bool) {
	before, after, gap := strings.Cut(s, "::")
	g, m, ok := parseGroups(before)
	rest, n, fine := parseGroups(after)
	switch {
	case !ok || !fine:
		return "", false
	case !gap && m != maxGroups, gap && m+n >= maxGroups: // a `::` stands for at least one group
		return "", false
	}
	for i := range n {
		g[maxGroups-n+i] = rest[i]
	}
	return g.bytes(), true
}

// parseGroups returns the groups that the words of s denote, from the first place on, and their number. Beside a `::` there may be none.
func parseGroups(s string) (g groups, n int, ok bool) {
	if s == "" {
		return g, 0, true
	}
	words := strings.SplitN(s, ":", maxGroups) // colons beyond these stay in the last word, which is no number then
	for i := range len(words) {
		group, err := strconv.ParseUint(words[i], 16, 16)
		if err != nil || len(words[i]) > maxDigits { // ParseUint takes any number of leading zeros
			return g, 0, false
		}
		g[i] = uint16(group)
	}
	return g, len(words), true
}
