package window

import (
	"slices"
	"strconv"
	"testing"
)

// numbers is how many numbers of 16 bits there are.
const numbers = 65536

// outcomesOf returns the outcomes that a text of g and b tells, the oldest first.
func outcomesOf(text string) []bool {
	var goods []bool
	for _, c := range text {
		goods = append(goods, c == 'g')
	}
	return goods
}

// bitOf says whether that bit of the number is 1, where bit 0 is the lowest.
func bitOf(n Window, place int) bool {
	rest := int(n)
	for range place {
		rest /= 2
	}
	return rest%2 == 1
}

// read says what the chapter calls valid, and which outcomes are kept, the oldest first: none if the window is not valid.
func read(n Window) (goods []bool, valid bool) {
	count := int(n) / 256
	if count > 8 {
		return nil, false
	}
	for place := count; place < 8; place++ {
		if bitOf(n, place) {
			return nil, false
		}
	}
	for place := range count {
		goods = append([]bool{!bitOf(n, place)}, goods...)
	}
	return goods, true
}

// lastOf returns the last 8 outcomes, or all if there are fewer.
func lastOf(goods []bool) []bool {
	if len(goods) > 8 {
		return goods[len(goods)-8:]
	}
	return goods
}

// badOf returns how many of the outcomes are bad.
func badOf(goods []bool) int {
	n := 0
	for _, good := range goods {
		if !good {
			n++
		}
	}
	return n
}

// written returns the number of the window that keeps these outcomes, at most 8.
func written(goods []bool) Window {
	bits := 0
	for _, good := range goods {
		bits *= 2
		if !good {
			bits++
		}
	}
	return Window(256*len(goods) + bits)
}

// added returns the window with these outcomes added one by one.
func added(w Window, goods []bool) Window {
	for _, good := range goods {
		w = w.Add(good)
	}
	return w
}

// tells fails the test unless the window is answered for as one that keeps just these outcomes.
func tells(t *testing.T, w Window, goods []bool) {
	t.Helper()
	if w.Len() != len(goods) || w.Bad() != badOf(goods) || !slices.Equal(w.List(), goods) {
		t.Fatalf("%d: Len %d, Bad %d, List %v; want %d, %d, %v", w, w.Len(), w.Bad(), w.List(), len(goods), badOf(goods), goods)
	}
}

// keeps fails the test unless the window is the valid one that keeps just these outcomes.
func keeps(t *testing.T, w Window, goods []bool) {
	t.Helper()
	if want := written(goods); w != want || !w.May() {
		t.Fatalf("%d, May %v; want %d, which keeps %v", w, w.May(), want, goods)
	}
	tells(t, w, goods)
}

// rows calls do with each row of outcomes that has at most so many of them.
func rows(most int, do func(goods []bool)) {
	for n := range most + 1 {
		for k := range 1 << n {
			goods := make([]bool, n)
			for i := range goods {
				goods[i] = k>>i&1 == 0
			}
			do(goods)
		}
	}
}

// invalid are windows that are not valid: each bit above the outcomes kept, and each number of outcomes above 8, alone and with others.
func invalid() []Window {
	all := []Window{1, 2, 128, 255, 256 + 2, 256 + 3, 256 + 255, 512 + 4, 512 + 7, 7*256 + 128, 7*256 + 255, 9 * 256, 9*256 + 1, 9*256 + 255, 10 * 256, 15 * 256, 16 * 256, 128 * 256, 255 * 256, 32768, 65534, 65535}
	for count := range 8 {
		for place := count; place < 8; place++ {
			bit := Window(1) << place
			all = append(all, Window(count)*256+bit, Window(count)*256+bit+(1<<count-1))
		}
	}
	for count := 9; count < 256; count++ {
		all = append(all, Window(count)*256, Window(count)*256+0x55, Window(count)*256+255)
	}
	return all
}

// P8.1: windows that keep 0, 1, 7 and 8 outcomes, and those that are not valid.
func TestMay(t *testing.T) {
	for _, w := range []Window{0, 256, 256 + 1, 512, 512 + 3, 771, 7 * 256, 7*256 + 64, 7*256 + 127, 8 * 256, 8*256 + 1, 8*256 + 128, 8*256 + 255} {
		if !w.May() {
			t.Errorf("%d is valid", w)
		}
	}
	for _, w := range invalid() {
		if w.May() {
			t.Errorf("%d is not valid", w)
		}
	}
}

// P8.1: every number of 16 bits.
func TestMayEach(t *testing.T) {
	count := 0
	for n := range numbers {
		w := Window(n)
		_, valid := read(w)
		if w.May() != valid {
			t.Errorf("%d: May %v", w, w.May())
		}
		if w.May() {
			count++
		}
	}
	if count != 511 { // 1 that keeps none, 2 that keep one, and so on to 256 that keep 8
		t.Errorf("%d windows are valid", count)
	}
}

// P8.2: outcomes added to windows that keep 0, 1, 7 and 8; the ninth one, good and bad, drops the oldest, good and bad.
func TestAdd(t *testing.T) {
	for _, x := range []struct {
		from string
		good bool
		want Window
		then string
	}{
		{"", true, 256, "g"},
		{"", false, 257, "b"},
		{"g", true, 512, "gg"},
		{"g", false, 513, "gb"},
		{"b", true, 514, "bg"},
		{"b", false, 515, "bb"},
		{"bggbggb", true, 2048 + 146, "bggbggbg"},
		{"bggbggb", false, 2048 + 147, "bggbggbb"},
		{"gbbgbbg", true, 2048 + 108, "gbbgbbgg"},
		{"gbbgbbg", false, 2048 + 109, "gbbgbbgb"},
		{"bggbggbg", true, 2048 + 36, "ggbggbgg"},
		{"bggbggbg", false, 2048 + 37, "ggbggbgb"},
		{"gbbgbbgb", true, 2048 + 218, "bbgbbgbg"},
		{"gbbgbbgb", false, 2048 + 219, "bbgbbgbb"},
		{"gggggggg", true, 2048, "gggggggg"},
		{"gggggggg", false, 2049, "gggggggb"},
		{"bbbbbbbb", true, 2048 + 254, "bbbbbbbg"},
		{"bbbbbbbb", false, 2048 + 255, "bbbbbbbb"},
	} {
		w := written(outcomesOf(x.from))
		before := w
		if got := w.Add(x.good); got != x.want {
			t.Errorf("%s and %v: %d, want %d", x.from, x.good, got, x.want)
		}
		keeps(t, w.Add(x.good), outcomesOf(x.then))
		if w != before {
			t.Errorf("%s: Add has changed the window it was asked of to %d", x.from, w)
		}
	}
}

// P8.2: both outcomes added to every number of 16 bits.
func TestAddEach(t *testing.T) {
	for n := range numbers {
		for _, good := range []bool{true, false} {
			goods, _ := read(Window(n))
			keeps(t, Window(n).Add(good), lastOf(append(goods, good)))
		}
	}
}

// P8.2, P8.3: a window that is not valid is treated as the empty one.
func TestNotValid(t *testing.T) {
	for _, w := range invalid() {
		tells(t, w, nil)
		if g, b := w.Add(true), w.Add(false); g != 256 || b != 257 {
			t.Errorf("%d: %d with a good outcome, %d with a bad one; want 256, 257", w, g, b)
		}
	}
}

// P8.3: the numbers and the lists of the empty window, and of those that keep 1, 7 and 8 outcomes.
func TestTold(t *testing.T) {
	for _, x := range []struct {
		w        Window
		len, bad int
		list     string
	}{
		{0, 0, 0, ""},
		{256, 1, 0, "g"},
		{257, 1, 1, "b"},
		{513, 2, 1, "gb"},
		{514, 2, 1, "bg"},
		{771, 3, 2, "gbb"},
		{772, 3, 1, "bgg"},
		{7 * 256, 7, 0, "ggggggg"},
		{7*256 + 1, 7, 1, "ggggggb"},
		{7*256 + 64, 7, 1, "bgggggg"},
		{7*256 + 127, 7, 7, "bbbbbbb"},
		{2048, 8, 0, "gggggggg"},
		{2048 + 1, 8, 1, "gggggggb"},
		{2048 + 128, 8, 1, "bggggggg"},
		{2048 + 0xe2, 8, 4, "bbbgggbg"},
		{2048 + 255, 8, 8, "bbbbbbbb"},
	} {
		if x.w.Len() != x.len || x.w.Bad() != x.bad {
			t.Errorf("%d: Len %d, Bad %d; want %d, %d", x.w, x.w.Len(), x.w.Bad(), x.len, x.bad)
		}
		if got := x.w.List(); !slices.Equal(got, outcomesOf(x.list)) {
			t.Errorf("%d: List %v, want %s", x.w, got, x.list)
		}
	}
}

// P8.3: every number of 16 bits.
func TestToldEach(t *testing.T) {
	for n := range numbers {
		goods, _ := read(Window(n))
		tells(t, Window(n), goods)
	}
}

// P8.3: each place of the list is that outcome's, the oldest first.
func TestListOrder(t *testing.T) {
	for count := 1; count <= 8; count++ {
		for place := range count {
			for _, odd := range []bool{true, false} {
				var w Window
				for i := range count {
					w = w.Add((i == place) == odd)
				}
				for i, good := range w.List() {
					if good != ((i == place) == odd) {
						t.Errorf("%d outcomes, only number %d is %v: %v", count, place, odd, w.List())
					}
				}
			}
		}
	}
}

// P8.3: a list belongs to whoever asked for it.
func TestListIsFresh(t *testing.T) {
	for n := range numbers {
		w := Window(n)
		goods, _ := read(w)
		a, b := w.List(), w.List()
		for i := range a {
			a[i] = !a[i]
		}
		if c := append(a, true); len(c) > 0 {
			c[0] = !c[0]
		}
		if !slices.Equal(b, goods) || !slices.Equal(w.List(), goods) {
			t.Fatalf("%d: %v and %v after another list was changed, want %v", w, b, w.List(), goods)
		}
	}
}

// P8.4: all rows of up to 14 outcomes.
func TestMostRecent(t *testing.T) {
	rows(14, func(goods []bool) {
		keeps(t, added(0, goods), lastOf(goods))
	})
}

// P8.4: long rows, held against the last 8 after each outcome.
func TestMostRecentLong(t *testing.T) {
	seed := uint32(1)
	for name, next := range map[string]func(i int) bool{
		"good":           func(i int) bool { return true },
		"bad":            func(i int) bool { return false },
		"in turn":        func(i int) bool { return i%2 == 0 },
		"one bad of 8":   func(i int) bool { return i%8 != 0 },
		"one bad of 9":   func(i int) bool { return i%9 != 0 },
		"one good of 9":  func(i int) bool { return i%9 == 0 },
		"good, then bad": func(i int) bool { return i < 1000 },
		"bad, then good": func(i int) bool { return i >= 1000 },
		"in no order": func(i int) bool {
			seed = seed*1664525 + 1013904223
			return seed>>16&1 == 0
		},
	} {
		t.Run(name, func(t *testing.T) {
			var w Window
			var goods []bool
			for i := range 30000 {
				good := next(i)
				w = w.Add(good)
				goods = lastOf(append(goods, good))
				keeps(t, w, goods)
			}
		})
	}
}

// P8.5: among all numbers of 16 bits, no two valid ones keep the same outcomes, and all outcomes that may be kept are kept by one.
func TestUnique(t *testing.T) {
	kept := map[string]Window{}
	for n := range numbers {
		w := Window(n)
		if !w.May() {
			continue
		}
		name := ""
		for _, good := range w.List() {
			name += strconv.FormatBool(good) + " "
		}
		if other, ok := kept[name]; ok {
			t.Errorf("%d and %d keep the same outcomes", other, w)
		}
		kept[name] = w
	}
	if len(kept) != 511 {
		t.Errorf("%d lists, want 511", len(kept))
	}
	rows(8, func(goods []bool) {
		if w := added(0, goods); !w.May() || w != written(goods) {
			t.Errorf("%v: %d, want %d", goods, w, written(goods))
		}
	})
}

// P8.5: what a window was before the outcomes that it keeps leaves no trace in the number.
func TestUniqueAfterOthers(t *testing.T) {
	for n := range numbers {
		for _, text := range []string{"gggggggg", "bbbbbbbb", "gbbgbggg", "bggbgbbb"} {
			goods := outcomesOf(text)
			if w := added(Window(n), goods); w != written(goods) {
				t.Fatalf("%d and %s: %d, want %d", n, text, w, written(goods))
			}
		}
	}
}

// The chapter's section 'Examples'.
func TestExamples(t *testing.T) {
	var w Window
	if w.Len() != 0 || w.Bad() != 0 {
		t.Errorf("the empty window: Len %d, Bad %d", w.Len(), w.Bad())
	}
	w = added(w, outcomesOf("gbb"))
	if w != 771 || w.Len() != 3 || w.Bad() != 2 {
		t.Errorf("good, bad, bad: %d, Len %d, Bad %d", w, w.Len(), w.Bad())
	}
	w = added(w, outcomesOf("gggggggg"))
	if w != 2048 || w.Len() != 8 || w.Bad() != 0 {
		t.Errorf("and 8 good ones: %d, Len %d, Bad %d", w, w.Len(), w.Bad())
	}
	w = 65535
	if w.May() || w.Len() != 0 || w.Bad() != 0 {
		t.Errorf("65535: May %v, Len %d, Bad %d", w.May(), w.Len(), w.Bad())
	}
	w = w.Add(false)
	if w != 257 || w.Len() != 1 || w.Bad() != 1 {
		t.Errorf("65535 and a bad one: %d, Len %d, Bad %d", w, w.Len(), w.Bad())
	}
}
