package rank

import (
	"bytes"
	"math"
	"slices"
	"strconv"
	"strings"
	"testing"

	"postilion/api"
	"postilion/sip"
)

// keys are none, short ones, one like those of requests, and some longer than a word of the hash.
var keys = [][]byte{nil, {}, {0}, {0, 0}, {255}, []byte("t0\x00a:80"), []byte("t1\x00a:80"), steps(8), steps(9), steps(300)}

// weights are those at the edges, and those that would be others if they were cut to fewer bits.
var weights = []int{math.MinInt, math.MinInt + 1, -1 << 32, -256, -101, -100, -1, 0, 1, 2, 3, 50, 98, 99, 100, 101, 102, 255, 256, 257, 1000, 1 << 32, 1<<32 + 1, math.MaxInt - 1, math.MaxInt}

// fixed are draws that another program has told (openssl mac SipHash), those of fixedNumbers.
var fixed = []struct {
	key, name string
	draws     [len(fixedNumbers)]uint64
}{
	{"", "", [...]uint64{0x368606933b3365c0, 0x6ffb0e997043e033, 0xb296988b3a647e75, 0x71d99cf6a722da10, 0x3f8fc02d556ab98b}},
	{"", "a", [...]uint64{0x15ca9a87b75e6eaa, 0x8ac5489064fb74e7, 0xc3f9b90c66c55055, 0x7fc14cdc4c30f350, 0xc26efbf77957b2df}},
	{"", "parent12", [...]uint64{0xf9370fa3bc871cf2, 0x2d3d6528be2a2c42, 0x2428bd0d9e68201f, 0x06c0804c81db86ce, 0xa5c6cc574b4a2960}},
	{"", "\x00\xfe", [...]uint64{0x42faa0b49f2426a8, 0x7bb2d5f5030ed190, 0x398cb244311c67e7, 0x11b5c65c400e5f95, 0x1a1bc65268886b4b}},
	{"t0\x00a:80", "", [...]uint64{0xeca0f708a9fff817, 0xe2ded40a5913056e, 0x8476a43cdb794453, 0x8ebe4cf53d5295f3, 0x6a159df49b072257}},
	{"t0\x00a:80", "a", [...]uint64{0x6064470c43f858db, 0xa7ac41b7906c9f27, 0xdc799376d53b5ca6, 0x2b2d83115fc92e16, 0xb28b439936fc8044}},
	{"t0\x00a:80", "parent12", [...]uint64{0xab15d4fc57670ba1, 0x9099ab0eaf7f0aba, 0xa59c75fc0372a36d, 0xc8c70b341ee9cc29, 0x467d71b090626377}},
	{"t0\x00a:80", "\x00\xfe", [...]uint64{0x5ef2f63f8810a048, 0x133acc14086d4a60, 0x093de3f0d60d3d53, 0xe9b5fc478ab5eb70, 0xc9c5ed36bb29d8fc}},
	{"\xff\xff\xff\xff\xff\xff\xff\xff\xff", "", [...]uint64{0x95132e6221e99fb0, 0xbb3c2d578fa023f9, 0xd6f09d2bf24a7337, 0xc192ac0220d3bf01, 0x5f905a6e3bb04c48}},
	{"\xff\xff\xff\xff\xff\xff\xff\xff\xff", "a", [...]uint64{0x69c85dd7f023cb13, 0xd6daa220eae34e27, 0xace04086346486f5, 0xc990a894c0d84d36, 0x9c5af5d7025bc6af}},
	{"\xff\xff\xff\xff\xff\xff\xff\xff\xff", "parent12", [...]uint64{0x44756acf7f7782cd, 0xa9d636d459697719, 0xa9580209334c1c9a, 0x123fb6c92b4f0368, 0x245b0164a090ed9c}},
	{"\xff\xff\xff\xff\xff\xff\xff\xff\xff", "\x00\xfe", [...]uint64{0x301cc3a43eb3fe9c, 0xd33bdd59b3ae6438, 0x151be068c6d6ab67, 0x2cf9f0ef09973d65, 0xe3a42c02a0c8999e}},
}

// fixedNumbers are the numbers of the fixed draws.
var fixedNumbers = [...]int{0, 1, 99, 100, 255}

// steps returns so many bytes of which none is like its neighbours.
func steps(n int) []byte {
	b := make([]byte, n)
	for i := range b {
		b[i] = byte(i*7 + 3)
	}
	return b
}

// mixer returns numbers from 0 to n-1 without a visible order, others for another seed.
func mixer(seed uint32) func(n int) int {
	return func(n int) int {
		seed = seed*1664525 + 1013904223
		return int(seed>>16) % n
	}
}

// letters returns so many unlike names of one byte.
func letters(n int) []string {
	var names []string
	for i := range n {
		names = append(names, string(rune('a'+i)))
	}
	return names
}

// drawn says what the chapter calls draw number i.
func drawn(key []byte, name string, i int) uint64 {
	k0 := sip.Sum(0, 0, key)
	k1 := sip.Sum(1, 0, key)
	return sip.Sum(k0, k1, []byte(name+string([]byte{byte(i)})))
}

// scored says what the chapter calls the score.
func scored(key []byte, name string, weight int) (uint64, bool) {
	if weight < 1 {
		return 0, false
	}
	var draws []uint64
	for i := 0; i < 100 && i < weight; i++ {
		draws = append(draws, drawn(key, name, i))
	}
	return slices.Max(draws), true
}

// ordered says what the chapter calls the order: of the names left the one that comes first is taken, the lower index first.
func ordered(key []byte, names []string, weights []int) []int {
	count := min(len(names), len(weights))
	var order []int
	taken := make([]bool, count)
	scores := make([]uint64, count)
	have := make([]bool, count)
	for i := range count {
		scores[i], have[i] = scored(key, names[i], weights[i])
	}
	for range count {
		best := -1
		for i := range count {
			if !taken[i] && (best < 0 || have[i] && (!have[best] || scores[i] > scores[best])) {
				best = i
			}
		}
		taken[best] = true
		order = append(order, best)
	}
	return order
}

// orders fails the test unless the order is that one.
func orders(t *testing.T, key []byte, names []string, weights []int, want []int) {
	t.Helper()
	if got := Order(key, names, weights); !slices.Equal(got, want) {
		t.Fatalf("Order(%q, %q, %v): %v, want %v", key, names, weights, got, want)
	}
}

// called returns the names of an order.
func called(order []int, names []string) []string {
	var row []string
	for _, i := range order {
		row = append(row, names[i])
	}
	return row
}

// without returns the row without what stands at that place.
func without[T any](row []T, place int) []T {
	return slices.Concat(row[:place], row[place+1:])
}

// P7.1: draws that another program has told.
func TestChanceFixed(t *testing.T) {
	for _, f := range fixed {
		for n, i := range fixedNumbers {
			if c := Chance([]byte(f.key), f.name, uint8(i)); c != f.draws[n] {
				t.Errorf("Chance(%q, %q, %d): %x, want %x", f.key, f.name, i, c, f.draws[n])
			}
		}
	}
}

// P7.1: every number of a draw, for names of all lengths about those of a word.
func TestChanceEach(t *testing.T) {
	names := []string{"", "a", "b", "\x00", "\xff", "\xff\xfe", "é", "A", "parent12"}
	for n := 5; n < 40; n++ {
		names = append(names, string(steps(n)))
	}
	for _, key := range keys {
		for _, name := range names {
			for i := range 256 {
				if c, want := Chance(key, name, uint8(i)), drawn(key, name, i); c != want {
					t.Fatalf("Chance(%q, %q, %d): %x, want %x", key, name, i, c, want)
				}
			}
		}
	}
}

// P7.1: no two draws of a few keys and names are alike; a nil key is an empty one.
func TestChanceUnlike(t *testing.T) {
	seen := map[uint64]bool{}
	for _, key := range keys[1:] {
		for _, name := range letters(5) {
			for i := range 256 {
				seen[Chance(key, name, uint8(i))] = true
			}
		}
	}
	if want := len(keys[1:]) * 5 * 256; len(seen) != want {
		t.Errorf("%d draws, want %d", len(seen), want)
	}
	for i := range 256 {
		if a, b := Chance(nil, "a", uint8(i)), Chance([]byte{}, "a", uint8(i)); a != b {
			t.Errorf("%d: %x with a nil key, %x with an empty one", i, a, b)
		}
	}
}

// P7.1: each weight from below 0 to above 100, and those at the edges, for names of which one's greatest draw is its last one, and of which one's draw 100 would be greater than all that count.
func TestScore(t *testing.T) {
	all := slices.Clone(weights)
	for w := -3; w <= 103; w++ {
		all = append(all, w)
	}
	last, beyond := 0, 0
	for _, key := range keys {
		for n := range 60 {
			name := strconv.Itoa(n)
			var most [101]uint64 // by the weight
			for w := 1; w <= 100; w++ {
				most[w] = max(most[w-1], drawn(key, name, w-1))
			}
			if most[100] > most[99] {
				last++
			}
			if drawn(key, name, 100) > most[100] {
				beyond++
			}
			for _, w := range all {
				want, has := most[min(max(w, 0), 100)], w > 0
				if s, is := Score(key, name, w); s != want || is != has {
					t.Fatalf("Score(%q, %q, %d): %x, %v; want %x, %v", key, name, w, s, is, want, has)
				}
			}
		}
	}
	if last == 0 || beyond == 0 {
		t.Errorf("%d names with the last draw as their greatest one, %d with a greater one beyond", last, beyond)
	}
}

// P7.1: scores of draws that another program has told.
func TestScoreFixed(t *testing.T) {
	key := []byte("t0\x00a:80")
	for _, f := range []struct {
		name   string
		weight int
		want   uint64
	}{
		{"a", 1, 0x6064470c43f858db}, {"a", 2, 0xa7ac41b7906c9f27}, {"a", 3, 0xa7ac41b7906c9f27},
		{"a", 10, 0xd6dd263a3889534e}, {"a", 99, 0xfce707e5463e0dde}, {"a", 100, 0xfce707e5463e0dde},
		{"d", 1, 0x6aa40247c942810d}, {"d", 2, 0x6b599685722b451e}, {"d", 3, 0xbd0a7ca36e842159},
		{"d", 10, 0xf69d3104bc57138e}, {"d", 100, 0xfea23e17835332ff}, {"d", 101, 0xfea23e17835332ff},
		{"f", 1, 0xcf113d64d9375fa1}, {"f", 3, 0xd0a7f426e9d49fac}, {"f", math.MaxInt, 0xffa1b6cdc49368ab},
	} {
		if s, is := Score(key, f.name, f.weight); s != f.want || !is {
			t.Errorf("Score of %s with %d: %x, %v; want %x", f.name, f.weight, s, is, f.want)
		}
	}
	for _, w := range []int{0, -1, -100, -101, -256, -255, math.MinInt, math.MinInt + 1} {
		for _, name := range []string{"", "a", "parent12"} {
			if s, is := Score(key, name, w); s != 0 || is {
				t.Errorf("Score of %q with %d: %x, %v", name, w, s, is)
			}
		}
	}
}

// P7.1: the score is the greatest draw, as Chance tells the draws.
func TestScoreOfChances(t *testing.T) {
	for _, key := range keys {
		for _, name := range []string{"", "a", "parent12", string(steps(50))} {
			best := uint64(0)
			for w := 1; w <= api.MaxWeight; w++ {
				best = max(best, Chance(key, name, uint8(w-1)))
				if s, is := Score(key, name, w); s != best || !is {
					t.Fatalf("Score(%q, %q, %d): %x, %v; want %x", key, name, w, s, is, best)
				}
			}
		}
	}
}

// P7.2: the chapter's examples, for any key, and any names.
func TestOrderExamples(t *testing.T) {
	for _, key := range keys {
		orders(t, key, nil, nil, nil)
		orders(t, key, []string{}, []int{}, []int{})
		orders(t, key, letters(3), []int{0, 0, -1}, []int{0, 1, 2})
		orders(t, key, letters(3), []int{0, 5, 0}, []int{1, 0, 2})
		orders(t, key, []string{"c", "b", "a"}, []int{0, 0, -1}, []int{0, 1, 2})
		orders(t, key, []string{"", "", ""}, []int{0, 5, 0}, []int{1, 0, 2})
	}
}

// P7.2: orders of draws that another program has told.
func TestOrderFixed(t *testing.T) {
	key := []byte("t0\x00a:80")
	for _, f := range []struct{ weights, want []int }{
		{[]int{1, 1, 1, 1, 1, 1}, []int{2, 5, 1, 3, 0, 4}},
		{[]int{1, 2, 3, 4, 5, 6}, []int{2, 5, 3, 4, 1, 0}},
		{[]int{6, 5, 4, 3, 2, 1}, []int{2, 0, 5, 3, 1, 4}},
		{[]int{0, 100, 1, 0, 100, 1}, []int{4, 1, 2, 5, 0, 3}},
		{[]int{100, 100, 100, 100, 100, 100}, []int{5, 4, 2, 1, 3, 0}},
		{[]int{101, 200, 1000, 1 << 20, 1 << 40, math.MaxInt}, []int{5, 4, 2, 1, 3, 0}},
		{[]int{3, 0, 7, -1, 1, 50}, []int{2, 5, 0, 4, 1, 3}},
		{[]int{0, -1, math.MinInt, 0, -100, -256}, []int{0, 1, 2, 3, 4, 5}},
	} {
		orders(t, key, letters(6), f.weights, f.want)
	}
}

// P7.2: all short lists of few names and few weights, so that alike names, alike scores and names without a score stand at all places.
func TestOrderShort(t *testing.T) {
	few := []int{-1, 0, 1, 2, 101}
	some := []string{"", "a", "b"}
	for _, key := range [][]byte{nil, []byte("t0\x00a:80")} {
		for length := range 4 {
			rows := 1
			for range length {
				rows *= len(few) * len(some)
			}
			for row := range rows {
				var names []string
				var so []int
				for range length {
					names = append(names, some[row%len(some)])
					row /= len(some)
					so = append(so, few[row%len(few)])
					row /= len(few)
				}
				orders(t, key, names, so, ordered(key, names, so))
			}
		}
	}
}

// P7.2: lists of all lengths, with names among which some are alike, and weights at the edges.
func TestOrderMixed(t *testing.T) {
	for seed := range uint32(400) {
		next := mixer(seed)
		key := steps(next(20))
		var names []string
		var so []int
		for range next(40) {
			names = append(names, strings.Repeat("p", next(3))+strconv.Itoa(next(20)))
			so = append(so, weights[next(len(weights))])
		}
		orders(t, key, names, so, ordered(key, names, so))
	}
}

// P7.2: scores decide, as Score tells them, and nothing else where they are unlike.
func TestOrderByScores(t *testing.T) {
	for _, key := range keys {
		for seed := range uint32(30) {
			next := mixer(seed)
			var names []string
			var so []int
			for i := range 30 {
				names = append(names, strconv.Itoa(i))
				so = append(so, weights[next(len(weights))])
			}
			order := Order(key, names, so)
			for i := range len(order) - 1 {
				x, has := Score(key, names[order[i]], so[order[i]])
				y, too := Score(key, names[order[i+1]], so[order[i+1]])
				if !has && too || has && too && x <= y || !has && order[i] > order[i+1] {
					t.Fatalf("key %q: %v of the weights %v at %d", key, order, so, i)
				}
			}
		}
	}
}

// P7.2: alike names with alike weights, and any names without a score, keep their sequence, in long lists too.
func TestOrderOfEqualScores(t *testing.T) {
	for _, n := range []int{1, 2, 3, 11, 12, 13, 50, 300} {
		var count []int
		for i := range n {
			count = append(count, i)
		}
		for _, w := range weights {
			orders(t, []byte("k"), slices.Repeat([]string{"a"}, n), slices.Repeat([]int{w}, n), count)
		}
		var names []string
		var none []int
		for i := range n {
			names = append(names, strconv.Itoa(n-i))
			none = append(none, -(i%7)*(i%5))
		}
		orders(t, []byte("k"), names, none, count)
	}
}

// P7.2: weights from 100 on count alike; alike names with unlike weights differ by their scores only.
func TestOrderOfAlikeNames(t *testing.T) {
	for _, key := range keys {
		orders(t, key, []string{"a", "a", "a", "a", "a"}, []int{100, 101, 100, math.MaxInt, 1000}, []int{0, 1, 2, 3, 4})
		orders(t, key, []string{"a", "a", "a"}, []int{0, 1, math.MinInt}, []int{1, 0, 2})
		for _, a := range weights {
			for _, b := range weights {
				x, has := scored(key, "a", a)
				y, too := scored(key, "a", b)
				want := []int{0, 1}
				if too && !has || y > x {
					want = []int{1, 0}
				}
				orders(t, key, []string{"a", "a"}, []int{a, b}, want)
			}
		}
	}
}

// P7.2: surplus names, and surplus weights, are ignored, however many; nil lists are empty ones.
func TestOrderSurplus(t *testing.T) {
	names := letters(8)
	so := []int{3, 0, 100, 1, -5, 7, 1000, 2}
	for _, key := range keys {
		for n := range len(names) + 1 {
			for w := range len(so) + 1 {
				count := min(n, w)
				orders(t, key, names[:n], so[:w], ordered(key, names[:count], so[:count]))
			}
			orders(t, key, names[:n], nil, nil)
			orders(t, key, nil, so[:n], nil)
		}
	}
}

// P7.2: keys of one length lead to all orders; a nil key is an empty one.
func TestOrderByKey(t *testing.T) {
	seen := map[string]bool{}
	for i := range 3000 {
		key := []byte{byte(i), byte(i >> 8)}
		order := Order(key, letters(5), []int{1, 1, 1, 1, 1})
		seen[strings.Join(called(order, letters(5)), "")] = true
	}
	if len(seen) != 120 { // each order should come up some 25 times
		t.Errorf("%d orders of 5 names", len(seen))
	}
	orders(t, nil, letters(6), []int{1, 2, 3, 4, 5, 6}, Order([]byte{}, letters(6), []int{1, 2, 3, 4, 5, 6}))
}

// P7.3: each index once, whatever is passed.
func TestPermutation(t *testing.T) {
	for seed := range uint32(300) {
		next := mixer(seed)
		count, more := next(60), next(3)
		var names []string
		var so []int
		for range count {
			names = append(names, strconv.Itoa(next(40)))
			so = append(so, weights[next(len(weights))])
		}
		for range more {
			if seed%2 == 0 {
				names = append(names, "more")
			} else {
				so = append(so, 100)
			}
		}
		order := Order(steps(next(9)), names, so)
		if len(order) != count {
			t.Fatalf("%d of %d indices", len(order), count)
		}
		slices.Sort(order)
		for i, o := range order {
			if o != i {
				t.Fatalf("%v of %q with %v", order, names, so)
			}
		}
	}
}

// P7.4: one name removed, at each place, from lists with alike names and names without a score.
func TestRemoval(t *testing.T) {
	for seed := range uint32(150) {
		next := mixer(seed)
		key := keys[next(len(keys))]
		var names []string
		var so []int
		for range 1 + next(20) {
			names = append(names, strconv.Itoa(next(15)))
			so = append(so, weights[next(len(weights))])
		}
		order := Order(key, names, so)
		for gone := range names {
			var want []int
			for _, i := range order {
				switch {
				case i > gone:
					want = append(want, i-1)
				case i < gone:
					want = append(want, i)
				}
			}
			orders(t, key, without(names, gone), without(so, gone), want)
		}
	}
}

// raised returns the list of weights with another one at that place.
func raised(so []int, place, weight int) []int {
	row := slices.Clone(so)
	row[place] = weight
	return row
}

// P7.5: one weight raised, at each place, from each weight to each greater one.
func TestGreaterWeight(t *testing.T) {
	moved, stayed := 0, 0
	names := []string{"p0", "p1", "", "p1", "p2", "parent12"}
	for _, key := range keys {
		for seed := range uint32(2) {
			next := mixer(seed)
			var so []int
			for range names {
				so = append(so, weights[next(len(weights))])
			}
			for place := range names {
				for n, from := range weights {
					order := Order(key, names, raised(so, place, from))
					was := slices.Index(order, place)
					for _, to := range weights[n+1:] {
						after := Order(key, names, raised(so, place, to))
						is := slices.Index(after, place)
						if is > was || !slices.Equal(without(order, was), without(after, is)) {
							t.Fatalf("key %q: %v of %v, after place %d goes from %d to %d: %v", key, order, so, place, from, to, after)
						}
						if is < was {
							moved++
						} else {
							stayed++
						}
						if is < was && (from >= 100 || to < 1) {
							t.Fatalf("key %q: %v of %v moves place %d when it goes from %d to %d", key, after, so, place, from, to)
						}
					}
				}
			}
		}
	}
	if moved == 0 || stayed == 0 {
		t.Errorf("%d moved, %d stayed", moved, stayed)
	}
}

// P7.5: from below 1 to 1 a name passes all that have no score.
func TestGreaterWeightFromNone(t *testing.T) {
	for place := range 5 {
		for _, w := range []int{1, 2, 100, 101, math.MaxInt} {
			for _, below := range []int{0, -1, math.MinInt} {
				so := slices.Repeat([]int{below}, 5)
				orders(t, nil, letters(5), so, []int{0, 1, 2, 3, 4})
				want := append([]int{place}, without([]int{0, 1, 2, 3, 4}, place)...)
				orders(t, nil, letters(5), raised(so, place, w), want)
			}
		}
	}
}

// sequences calls visit with each sequence of the numbers 0 to n-1.
func sequences(n int, visit func([]int)) {
	if n == 0 {
		visit(nil)
		return
	}
	sequences(n-1, func(row []int) {
		for place := range n {
			visit(slices.Insert(slices.Clone(row), place, n-1))
		}
	})
}

// P7.6: unlike names in every sequence. (Of names without a score one at most, since those come by their indices.)
func TestSequence(t *testing.T) {
	for _, so := range [][]int{{1, 1, 1, 1, 1}, {1, 2, 3, 4, 5}, {100, 100, 100, 100, 100}, {0, 1, 50, 100, 1000}, {7, math.MaxInt, -1, 2, 1}} {
		for _, key := range keys {
			names := []string{"a", "b", "", "parent12", "c"}
			want := called(Order(key, names, so), names)
			sequences(len(names), func(row []int) {
				var others []string
				var theirs []int
				for _, i := range row {
					others = append(others, names[i])
					theirs = append(theirs, so[i])
				}
				if got := called(Order(key, others, theirs), others); !slices.Equal(got, want) {
					t.Fatalf("key %q: %q in the sequence %v, want %q", key, got, row, want)
				}
			})
		}
	}
}

// P7.6: long lists of unlike names, turned round and mixed.
func TestLongSequence(t *testing.T) {
	for seed := range uint32(40) {
		next := mixer(seed)
		var names []string
		var so []int
		for i := range 100 {
			names = append(names, strconv.Itoa(i))
			so = append(so, 1+next(120))
		}
		key := steps(next(20))
		want := called(Order(key, names, so), names)
		for range 5 {
			slices.Reverse(names)
			slices.Reverse(so)
			for i := range names {
				other := next(len(names))
				names[i], names[other] = names[other], names[i]
				so[i], so[other] = so[other], so[i]
			}
			if got := called(Order(key, names, so), names); !slices.Equal(got, want) {
				t.Fatalf("seed %d: %q, want %q", seed, got, want)
			}
		}
	}
}

// P7.1, P7.2: what is passed is not changed, and neither is what lies behind it; the same is returned for it again.
func TestNothingIsChanged(t *testing.T) {
	key := steps(30)
	names := []string{"d", "b", "a", "c", "b", "behind"}
	so := []int{2, 101, -1, 0, 5, 99}
	keptKey, keptNames, kept := slices.Clone(key), slices.Clone(names), slices.Clone(so)
	for k := range len(key) {
		for n := range len(names) + 1 {
			first := Order(key[:k], names[:n], so[:n])
			second := Order(key[:k], names[:n], so[:n])
			if !slices.Equal(first, second) {
				t.Fatalf("%v and then %v", first, second)
			}
			for i := range first { // it belongs to the caller
				first[i] = 99
			}
			orders(t, key[:k], names[:n], so[:n], second)
			Chance(key[:k], names[0], uint8(n))
			Score(key[:k], names[0], n)
		}
	}
	if !bytes.Equal(key, keptKey) || !slices.Equal(names, keptNames) || !slices.Equal(so, kept) {
		t.Errorf("%v, %q, %v", key, names, so)
	}
}

// P7.1, P7.2: nothing that is passed is too long or too much.
func TestLong(t *testing.T) {
	name := strings.Repeat("x", 1<<16)
	key := steps(1 << 16)
	orders(t, key, letters(3), []int{1, 2, 3}, ordered(key, letters(3), []int{1, 2, 3}))
	if s, is := Score(key, name, 3); !is || s != max(drawn(key, name, 0), drawn(key, name, 1), drawn(key, name, 2)) {
		t.Errorf("%x, %v", s, is)
	}
	var names []string
	var so []int
	for i := range 2000 {
		names = append(names, strconv.Itoa(i%1500))
		so = append(so, i%130-10)
	}
	orders(t, key[:9], names, so, ordered(key[:9], names, so))
}

// P7.2: a score of 0 is a score, and so it comes before none. (No name is known whose draws are all 0, hence the scores are written out.)
func TestScoreOfZero(t *testing.T) {
	scores := standing{{}, {drawn: true}, {}, {drawn: true}, {drawn: true, greatest: 1}, {drawn: true, greatest: math.MaxUint64}}
	order := []int{0, 1, 2, 3, 4, 5}
	slices.SortFunc(order, scores.compare)
	if want := []int{5, 4, 1, 3, 0, 2}; !slices.Equal(order, want) {
		t.Errorf("%v, want %v", order, want)
	}
}
