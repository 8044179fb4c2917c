package sip

import (
	"bytes"
	"math"
	"slices"
	"testing"
)

const all = math.MaxUint64

// keys are those at the edges, one without order, and that of the chapter's examples.
var keys = [][2]uint64{
	{0, 0}, {all, all}, {0, all}, {all, 0}, {1, 0}, {0, 1}, {1 << 63, 0}, {0, 1 << 63},
	{0x0123456789abcdef, 0xfedcba9876543210}, {0x0706050403020100, 0x0f0e0d0c0b0a0908},
}

// vectors are the hashes of the bytes 0, 1, 2 and so on, none to 63 of them, under the key of the chapter's examples: those that SipHash's authors have published.
var vectors = [64]uint64{
	0x726fdb47dd0e0e31, 0x74f839c593dc67fd, 0x0d6c8009d9a94f5a, 0x85676696d7fb7e2d,
	0xcf2794e0277187b7, 0x18765564cd99a68d, 0xcbc9466e58fee3ce, 0xab0200f58b01d137,
	0x93f5f5799a932462, 0x9e0082df0ba9e4b0, 0x7a5dbbc594ddb9f3, 0xf4b32f46226bada7,
	0x751e8fbc860ee5fb, 0x14ea5627c0843d90, 0xf723ca908e7af2ee, 0xa129ca6149be45e5,
	0x3f2acc7f57c29bdb, 0x699ae9f52cbe4794, 0x4bc1b3f0968dd39c, 0xbb6dc91da77961bd,
	0xbed65cf21aa2ee98, 0xd0f2cbb02e3b67c7, 0x93536795e3a33e88, 0xa80c038ccd5ccec8,
	0xb8ad50c6f649af94, 0xbce192de8a85b8ea, 0x17d835b85bbb15f3, 0x2f2e6163076bcfad,
	0xde4daaaca71dc9a5, 0xa6a2506687956571, 0xad87a3535c49ef28, 0x32d892fad841c342,
	0x7127512f72f27cce, 0xa7f32346f95978e3, 0x12e0b01abb051238, 0x15e034d40fa197ae,
	0x314dffbe0815a3b4, 0x027990f029623981, 0xcadcd4e59ef40c4d, 0x9abfd8766a33735c,
	0x0e3ea96b5304a7d0, 0xad0c42d6fc585992, 0x187306c89bc215a9, 0xd4a60abcf3792b95,
	0xf935451de4f21df2, 0xa9538f0419755787, 0xdb9acddff56ca510, 0xd06c98cd5c0975eb,
	0xe612a3cb9ecba951, 0xc766e62cfcadaf96, 0xee64435a9752fe72, 0xa192d576b245165a,
	0x0a8787bf8ecb74b2, 0x81b3e73d20b49b6f, 0x7fa8220ba3b2ecea, 0x245731c13ca42499,
	0xb78dbfaf3a8d83bd, 0xea1ad565322a1a0b, 0x60e61c23a3795013, 0x6606d7e446282b93,
	0x6ca4ecb15c5f91e1, 0x9f626da15c9625f3, 0xe51b38608ef25f57, 0x958a324ceb064572,
}

// fixedLengths are the lengths that the hashes of fixed are of.
var fixedLengths = [...]int{0, 1, 7, 8, 9, 15, 16, 255, 256, 257, 1000}

// fixed are hashes that another program has told (openssl mac SipHash).
var fixed = []struct {
	k0, k1 uint64
	fill   func(n int) []byte
	sums   [len(fixedLengths)]uint64
}{
	{0, 0, zeros, [...]uint64{0x1e924b9d737700d7, 0x8b5a0baa49fbc58d, 0x85f896b6040a13ec, 0xe849e8bb6ffe2567, 0x2d508cd20c8f0cef, 0x97f21481e1333322, 0x32caecc280172976, 0x8b21238d5527793f, 0x80d978d6fa417c1e, 0x2d0244227390b43d, 0xad6ae276f441c4ef}},
	{0, 0, ones, [...]uint64{0x1e924b9d737700d7, 0x20dd4eb33d9590f2, 0x2e029c0a4c8f48e3, 0x8050c18b6ac9d15e, 0xbe29d70ddcf7e35d, 0xf3ba7836ceecdae2, 0x76ce753d660f2d94, 0xed6ad001220f838e, 0x3d1256410bf214a1, 0x638e4604e867face, 0x44c60e4b78e2cf0e}},
	{0, 0, steps, [...]uint64{0x1e924b9d737700d7, 0x9531a4861d0b4d50, 0xb0be3fb73ca3e7e4, 0x4777c51091e013c5, 0xe20e7c9a8a4cb1f1, 0x9ac52cb588c50965, 0xf4cd97e7ec2b0b61, 0xd9382c8133bfc86e, 0xf906bb9d41d28559, 0xaa3655f95acf9c1b, 0x58abbc8b3b6d1607}},
	{all, all, zeros, [...]uint64{0x35dd279ee86ce565, 0x63e8f5ae8073d111, 0x3f5cf6f23fa6bfff, 0x93e9a1f113e70a00, 0xc4d763fab367facd, 0x48222c854e5773c1, 0x35c8e6726a5f15cf, 0x6b30a7d3c1f5b672, 0x90dad0fb812baea8, 0xc70fea7105b10b4f, 0x3cb0c7e77a3497bd}},
	{all, all, ones, [...]uint64{0x35dd279ee86ce565, 0xeb45304aebf4e114, 0x7008818ecf918e11, 0xf13e77491777f9d0, 0x1b8d0792b6620321, 0x5c8ba31dbb0d14c8, 0x1a27dd859ed29a2e, 0xb6da527cf0f604e3, 0xc1774ddffc4ff77e, 0xf4ba1291607478ee, 0xe05715da9d947117}},
	{all, all, steps, [...]uint64{0x35dd279ee86ce565, 0x4dbc336c356c9245, 0x9fb4e3300c46ca15, 0x250affb680ab810e, 0x0a0108410fbc3d81, 0xadb3caf2e0a5adc9, 0x7ca34db48c39d4c4, 0xb848c39fc41ca4c9, 0x32e54be43036082f, 0x3c947c07d3189faa, 0x23a789d3f4087404}},
	{0, all, zeros, [...]uint64{0x4d0617e48cf8737b, 0x21486ac81ab8e5f0, 0x94a9abcddcbc91cd, 0x0f59645622c5d5ce, 0x5c229f922d57222b, 0xa54844b19606e9d9, 0x48b3d44aabaa1665, 0x632e021a49ca15ce, 0x001bb06338fc90bf, 0x89c4bb3ddc2257d0, 0x5a374b8e1427c9d2}},
	{0, all, ones, [...]uint64{0x4d0617e48cf8737b, 0x9a188d9d3302a3b0, 0xd1030a0812355763, 0x7877d321da340a4d, 0x7f23e46083a95d1c, 0xbcd494d57f748abf, 0x4cf8fc833938f555, 0xb8f0d9fa75af2b26, 0xe51532e763677d1b, 0x39aa98f2f1c7c00b, 0x9d3f0c92fa8a4697}},
	{0, all, steps, [...]uint64{0x4d0617e48cf8737b, 0x01d2d0a8bffcff0a, 0x6bb8f8d46936e86a, 0x130fbfb174fadcd3, 0x91cbc26e8b97c6e7, 0x35471ae851bffb57, 0xece96371096e628d, 0x09e9deb6d358fe1d, 0xc06794e9a0ca6962, 0x6db12793af438ff9, 0x695fceec950b3c2b}},
	{all, 0, zeros, [...]uint64{0xa4e3fdab06a40925, 0x9979006651df2010, 0xd71eee49a793c3c3, 0x298a0ec060aa1c1c, 0x8acaf3a2d5c7ee96, 0x15a82f0060b395c7, 0x104ad471c8cb0120, 0x1f1e48178ff81aa7, 0xb5680187f21ec925, 0x168c35153f1a344e, 0x2584aaaeece21b2d}},
	{all, 0, ones, [...]uint64{0xa4e3fdab06a40925, 0x853bdf538a6b81d3, 0x9936b38faeabe1ba, 0xd9ed40d616ce2c30, 0x906ae06bf72d5d0f, 0xfabb285363ad3917, 0x3be95b4a82953cbb, 0x5e438500fe45efee, 0xc3170caa2d2634c7, 0x66493305fb0ef9e1, 0x8f0384e605d0ef16}},
	{all, 0, steps, [...]uint64{0xa4e3fdab06a40925, 0x1e1664742a402a29, 0x8a0f01f1191cb87e, 0xee492dde2968628b, 0xab61ff1fd2e7e84c, 0xd11541da2d798096, 0x9f3838045a19eab1, 0x94fba637aa0ace19, 0xb78639a2c52db07c, 0x665d2c30559f3fab, 0xedfb18a612884bd7}},
	{0x123456789abcdef, 0xfedcba9876543210, zeros, [...]uint64{0xb7e67c99394ba858, 0x5f5ef95064812cb4, 0x0c60d7e19e006c3a, 0x06abaa54768a3ba0, 0x4e963895a391f253, 0x994baef640c54f11, 0x0ea97510ac69ebef, 0x02f160f83bff2001, 0x6b79794198a34c29, 0x0610f0fb743a0dcd, 0x5e0a0467aee0e59c}},
	{0x123456789abcdef, 0xfedcba9876543210, ones, [...]uint64{0xb7e67c99394ba858, 0x0103540c4553274c, 0xebf6347c6c5badef, 0xcd5c415e1dc735f6, 0x5aedd572858f28fd, 0xd5ff26a50fd0b100, 0x4be624066c9b4a68, 0xdb41bbc81ee0e68a, 0xbb56d25ae6dd1f01, 0xf08625f25b92bf30, 0x1d8965ee9cf34cc7}},
	{0x123456789abcdef, 0xfedcba9876543210, steps, [...]uint64{0xb7e67c99394ba858, 0x52734626d95e3e20, 0x29c6296184a4aa91, 0x3f683425c30ab9de, 0xa64151e871b2822c, 0x188b6b42c151fcc0, 0xad8824e0dabceae5, 0x93f6c7d9407e24e2, 0x9f652248e8283833, 0x2d969f43ae8a54b6, 0xe310f38ea8e9dbde}},
}

// zeros returns so many bytes of 0.
func zeros(n int) []byte {
	return make([]byte, n)
}

// ones returns so many bytes of 255.
func ones(n int) []byte {
	return bytes.Repeat([]byte{255}, n)
}

// steps returns so many bytes of which none is like its neighbours.
func steps(n int) []byte {
	b := make([]byte, n)
	for i := range b {
		b[i] = byte(i*7 + 3)
	}
	return b
}

// mixed returns so many bytes without a visible order, others for another seed.
func mixed(n int, seed uint32) []byte {
	b := make([]byte, n)
	for i := range b {
		seed = seed*1664525 + 1013904223
		b[i] = byte(seed >> 24)
	}
	return b
}

// turned says what the chapter calls rotl.
func turned(x uint64, n int) uint64 {
	for range n {
		x = x<<1 | x>>63
	}
	return x
}

// words says what the words of b are: all of them at once, the length in the last one.
func words(b []byte) []uint64 {
	padded := slices.Clone(b)
	for len(padded)%8 != 7 {
		padded = append(padded, 0)
	}
	padded = append(padded, byte(len(b)%256))
	var row []uint64
	for ; len(padded) > 0; padded = padded[8:] {
		m := uint64(0)
		for i := 7; i >= 0; i-- {
			m = m*256 + uint64(padded[i])
		}
		row = append(row, m)
	}
	return row
}

// hashed says what the chapter calls the hash of b, step by step.
func hashed(k0, k1 uint64, b []byte) uint64 {
	v0, v1, v2, v3 := k0^0x736f6d6570736575, k1^0x646f72616e646f6d, k0^0x6c7967656e657261, k1^0x7465646279746573
	round := func() {
		v0 = v0 + v1
		v1 = turned(v1, 13)
		v1 = v1 ^ v0
		v0 = turned(v0, 32)
		v2 = v2 + v3
		v3 = turned(v3, 16)
		v3 = v3 ^ v2
		v0 = v0 + v3
		v3 = turned(v3, 21)
		v3 = v3 ^ v0
		v2 = v2 + v1
		v1 = turned(v1, 17)
		v1 = v1 ^ v2
		v2 = turned(v2, 32)
	}
	for _, m := range words(b) {
		v3 = v3 ^ m
		round()
		round()
		v0 = v0 ^ m
	}
	v2 = v2 ^ 255
	round()
	round()
	round()
	round()
	return v0 ^ v1 ^ v2 ^ v3
}

// added returns a Hash with that key to which the pieces have been added.
func added(k0, k1 uint64, pieces ...[]byte) *Hash {
	h := New(k0, k1)
	for _, piece := range pieces {
		h.Add(piece)
	}
	return h
}

// tells fails the test unless the Hash tells that hash, and tells it again.
func tells(t *testing.T, h *Hash, want uint64) {
	t.Helper()
	if sum := h.Told(); sum != want {
		t.Fatalf("Told: %x, want %x", sum, want)
	}
	if sum := h.Told(); sum != want {
		t.Fatalf("Told once more: %x, want %x", sum, want)
	}
}

// sums fails the test unless b has that hash, as a whole, as one piece, and byte by byte.
func sums(t *testing.T, k0, k1 uint64, b []byte, want uint64) {
	t.Helper()
	if sum := Sum(k0, k1, b); sum != want {
		t.Fatalf("Sum of %d bytes under %x, %x: %x, want %x", len(b), k0, k1, sum, want)
	}
	tells(t, added(k0, k1, b), want)
	tells(t, added(k0, k1, slices.Collect(slices.Chunk(b, 1))...), want)
}

// P6.1: the chapter's examples, and the hashes that were published with SipHash.
func TestVectors(t *testing.T) {
	const k0, k1 = 0x0706050403020100, 0x0f0e0d0c0b0a0908
	var b []byte
	for i, want := range vectors {
		sums(t, k0, k1, b, want)
		b = append(b, byte(i))
	}
	sums(t, k0, k1, nil, 0x726fdb47dd0e0e31)
	sums(t, k0, k1, []byte{}, 0x726fdb47dd0e0e31)
	sums(t, k0, k1, b[:15], 0xa129ca6149be45e5)
}

// P6.1: keys and bytes at the edges, and lengths about those of a word and about 256, as another program tells their hashes.
func TestFixed(t *testing.T) {
	for _, c := range fixed {
		for i, n := range fixedLengths {
			sums(t, c.k0, c.k1, c.fill(n), c.sums[i])
		}
	}
}

// P6.1: each length, whatever the key and the bytes; from 256 on the last word bears the remainder only.
func TestEachLength(t *testing.T) {
	for n := range 800 {
		for _, k := range keys {
			for _, b := range [][]byte{zeros(n), ones(n), steps(n), mixed(n, uint32(n))} {
				if sum, want := Sum(k[0], k[1], b), hashed(k[0], k[1], b); sum != want {
					t.Fatalf("Sum of %d bytes under %x: %x, want %x", n, k, sum, want)
				}
			}
		}
	}
	for _, n := range []int{1023, 1024, 1025, 4095, 4096, 4097, 65535, 65536, 65537, 1 << 20, 1<<20 + 255} {
		b := mixed(n, 5)
		sums(t, 7, 9, b, hashed(7, 9, b))
	}
}

// P6.1: each byte at each place of the first two words and of what remains.
func TestEachPlace(t *testing.T) {
	for n := 1; n <= 20; n++ {
		for place := range n {
			for c := range 256 {
				b := steps(n)
				b[place] = byte(c)
				sums(t, 3, 1<<40, b, hashed(3, 1<<40, b))
			}
		}
	}
}

// P6.1: each bit of each half of the key.
func TestEachBitOfTheKey(t *testing.T) {
	b := steps(13)
	seen := map[uint64]bool{}
	for i := range 64 {
		for _, k := range [][2]uint64{{1 << i, 0}, {0, 1 << i}, {all ^ 1<<i, all}, {all, all ^ 1<<i}} {
			sum := Sum(k[0], k[1], b)
			if want := hashed(k[0], k[1], b); sum != want {
				t.Fatalf("under %x: %x, want %x", k, sum, want)
			}
			seen[sum] = true
		}
	}
	if len(seen) != 256 {
		t.Errorf("%d hashes under 256 keys", len(seen))
	}
}

// P6.1: bytes of 0 at the end count, and so do those at the beginning.
func TestZerosCount(t *testing.T) {
	seen := map[uint64]int{}
	for n := range 600 {
		for _, b := range [][]byte{zeros(n), append([]byte{1}, zeros(n)...), append(zeros(n+1), 1)} {
			seen[Sum(1, 2, b)]++
		}
	}
	if len(seen) != 1800 {
		t.Errorf("%d hashes of 1800 byte strings", len(seen))
	}
}

// P6.1, P6.2: what is passed is not changed, and neither is what lies behind it.
func TestNothingIsChanged(t *testing.T) {
	for n := range 40 {
		whole := mixed(64, 8)
		kept := slices.Clone(whole)
		b := whole[3 : 3+n]
		want := hashed(5, 6, kept[3:3+n])
		sums(t, 5, 6, b, want)
		sums(t, 5, 6, slices.Clip(b), want)
		if !bytes.Equal(whole, kept) {
			t.Fatalf("%d bytes: %v, want %v", n, whole, kept)
		}
	}
}

// P6.2: a new Hash has no bytes, whatever was added to others with its key.
func TestNewIsFresh(t *testing.T) {
	for _, k := range keys {
		for n := range 20 {
			added(k[0], k[1], steps(n)).Told()
			tells(t, New(k[0], k[1]), hashed(k[0], k[1], nil))
		}
	}
}

// P6.2: after Told more may be added, and Told tells the hash of all of it.
func TestAddAfterTold(t *testing.T) {
	for _, k := range keys {
		h := New(k[0], k[1])
		b := mixed(600, 1)
		for n := range b {
			tells(t, h, hashed(k[0], k[1], b[:n]))
			h.Add(b[n : n+1])
		}
		tells(t, h, hashed(k[0], k[1], b))
	}
}

// P6.2: Add of no bytes adds nothing, before, between and behind others.
func TestAddNothing(t *testing.T) {
	for n := range 20 {
		b := steps(n)
		h := New(8, 9)
		for i := range n + 1 {
			for _, none := range [][]byte{nil, {}, b[:0], b[n:]} {
				h.Add(none)
				tells(t, h, hashed(8, 9, b[:i]))
			}
			h.Add(b[i:min(i+1, n)])
		}
		tells(t, h, hashed(8, 9, b))
	}
}

// P6.2: what was added stays as it was when the slice is changed afterwards.
func TestTheSliceMayChange(t *testing.T) {
	for n := range 40 {
		b := mixed(n, 4)
		h := New(1, 1)
		piece := slices.Clone(b)
		h.Add(piece)
		copy(piece, ones(n))
		tells(t, h, hashed(1, 1, b))
		for i := range piece { // one slice for all pieces
			piece[0] = b[i]
			h.Add(piece[:1])
			piece[0] = 77
		}
		tells(t, h, hashed(1, 1, append(slices.Clone(b), b...)))
	}
}

// P6.2: two Hashes side by side, of one key and of two, know nothing of each other, nor of a Sum.
func TestSideBySide(t *testing.T) {
	for _, k := range [][2]uint64{{1, 2}, {2, 1}} {
		a, b := New(1, 2), New(k[0], k[1])
		one, other := mixed(300, 1), mixed(900, 2)
		for i := range one {
			a.Add(one[i : i+1])
			b.Add(other[3*i : 3*i+3])
			if sum, want := Sum(1, 2, other[:i]), hashed(1, 2, other[:i]); sum != want {
				t.Fatalf("Sum: %x, want %x", sum, want)
			}
			tells(t, a, hashed(1, 2, one[:i+1]))
			tells(t, b, hashed(k[0], k[1], other[:3*i+3]))
		}
	}
}

// P6.2: a nil *Hash, and one that New did not return: a copy is one too, and what becomes of it leaves the other one as it is.
func TestNotMade(t *testing.T) {
	for n := range 20 {
		h := added(3, 4, steps(n))
		c := *h
		for _, not := range []*Hash{nil, {}, new(Hash), &c} {
			for _, b := range [][]byte{nil, {}, {0}, {255}, steps(7), steps(8), steps(9), ones(600)} {
				tells(t, not, 0)
				not.Add(b)
				tells(t, not, 0)
			}
		}
		tells(t, h, hashed(3, 4, steps(n)))
		h.Add([]byte{byte(n*7 + 3)})
		tells(t, h, hashed(3, 4, steps(n+1)))
		tells(t, &c, 0)
	}
}

// P6.3: all divisions of short byte strings, told in between or not.
func TestAllDivisions(t *testing.T) {
	const n = 11
	b := mixed(n, 3)
	var want [n + 1]uint64
	for i := range want {
		want[i] = hashed(6, 7, b[:i])
	}
	for length := range n + 1 {
		for cuts := range 1 << max(length-1, 0) { // a bit for each place where a cut may be
			quiet, telling := New(6, 7), New(6, 7)
			from := 0
			for to := 1; to <= length; to++ {
				if to < length && cuts>>(to-1)&1 == 0 {
					continue
				}
				quiet.Add(b[from:to])
				telling.Add(b[from:to])
				tells(t, telling, want[to])
				from = to
			}
			tells(t, quiet, want[length])
			tells(t, telling, want[length])
		}
	}
}

// P6.3: three pieces, cut at any places, none of a length of 0 left out.
func TestThreePieces(t *testing.T) {
	for n := range 36 {
		b := mixed(n, uint32(n))
		want := hashed(11, 12, b)
		for first := range n + 1 {
			for second := first; second <= n; second++ {
				tells(t, added(11, 12, b[:first], b[first:second], b[second:]), want)
			}
		}
	}
}

// P6.3: long rows of pieces of any lengths, about those of a word and about 256 among them.
func TestLongRows(t *testing.T) {
	lengths := []int{0, 1, 2, 3, 4, 5, 6, 7, 8, 9, 15, 16, 17, 63, 64, 65, 255, 256, 257, 511, 512, 513}
	for seed := range uint32(60) {
		h := New(uint64(seed), all-uint64(seed))
		var so []byte
		for i, c := range mixed(40, seed) {
			b := mixed(lengths[int(c)%len(lengths)], uint32(i))
			h.Add(b)
			so = append(so, b...)
			if c >= 128 {
				tells(t, h, hashed(uint64(seed), all-uint64(seed), so))
			}
		}
		tells(t, h, hashed(uint64(seed), all-uint64(seed), so))
	}
}
