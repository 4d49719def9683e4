package crc_test

import (
	"bytes"
	"hash/crc32"
	"math"
	"slices"
	"testing"

	"scantling/crc"
)

const ones = 1<<32 - 1

// eightSteps spells the step out eight times, as the definition does.
func eightSteps(r int) int {
	for range 8 {
		out := r % 2
		r /= 2
		if out == 1 {
			r ^= 0x82F63B78
		}
	}
	return r
}

// checksum spells the definition out for a register that holds sum already.
func checksum(sum int, b []byte) int {
	r := sum ^ ones
	for _, c := range b {
		r = eightSteps(r ^ int(c))
	}
	return r ^ ones
}

// pattern returns bytes without a short period.
func pattern(n int) []byte {
	b := make([]byte, n)
	r := uint32(2463534242)
	for i := range b {
		r ^= r << 13
		r ^= r >> 17
		r ^= r << 5
		b[i] = byte(r >> 11)
	}
	return b
}

// rising returns the bytes from 0 on.
func rising(n int) []byte {
	b := make([]byte, n)
	for i := range b {
		b[i] = byte(i)
	}
	return b
}

// falling returns the bytes of rising, the last one first.
func falling(n int) []byte {
	b := rising(n)
	slices.Reverse(b)
	return b
}

// P2.1: checksums that are known.
func TestSumKnown(t *testing.T) {
	for _, x := range []struct {
		b    []byte
		want int
	}{
		{[]byte("123456789"), 0xE3069283}, // the chapter's example
		{[]byte("a"), 0xC1D04330},
		{[]byte("abc"), 0x364B3FB7},
		{[]byte("The quick brown fox jumps over the lazy dog"), 0x22620404},
		{make([]byte, 32), 0x8A9136AA},
		{bytes.Repeat([]byte{0xff}, 32), 0x62A8AB43},
		{rising(32), 0x46DD794E},
		{falling(32), 0x113FDB5C},
	} {
		if n := crc.Sum(x.b); n != x.want {
			t.Errorf("Sum of %x: %#x, not %#x", x.b, n, x.want)
		}
	}
}

// P2.1: what Sum returns, against the definition and against a checksum of
// another make.
func TestSum(t *testing.T) {
	castagnoli := crc32.MakeTable(crc32.Castagnoli)
	var l [][]byte
	for c := range 256 {
		l = append(l, []byte{byte(c)}, []byte{0, byte(c)}, []byte{byte(c), 0xff})
	}
	for n := range 600 {
		l = append(l, pattern(n), make([]byte, n), bytes.Repeat([]byte{0xff}, n))
	}
	l = append(l, pattern(1<<16+3))
	for _, b := range l {
		n := crc.Sum(b)
		if n != checksum(0, b) || n != int(crc32.Checksum(b, castagnoli)) {
			t.Fatalf("Sum of %d bytes: %#x, not %#x", len(b), n, checksum(0, b))
		}
	}
}

// P2.1: the checksum of no bytes is 0.
func TestSumNothing(t *testing.T) {
	if n := crc.Sum(); n != 0 {
		t.Errorf("no piece: %#x", n)
	}
	for _, l := range [][][]byte{nil, {}, {nil}, {{}}, {nil, {}, nil}, {pattern(5)[:0], pattern(5)[5:]}} {
		if n := crc.Sum(l...); n != 0 {
			t.Errorf("%d empty pieces: %#x", len(l), n)
		}
	}
}

// P2.1, P2.3: only the concatenation counts, not how it is divided.
func TestPieces(t *testing.T) {
	b := pattern(45)
	want := checksum(0, b)
	for i := range len(b) + 1 {
		if n := crc.Sum(b[:i], b[i:]); n != want {
			t.Fatalf("divided at %d: %#x, not %#x", i, n, want)
		}
		for j := i; j <= len(b); j++ {
			if n := crc.Sum(b[:i], b[i:j], b[j:]); n != want {
				t.Fatalf("divided at %d and %d: %#x, not %#x", i, j, n, want)
			}
			if n := crc.Sum(nil, b[:i], []byte{}, b[i:j], b[j:], nil); n != want {
				t.Fatalf("divided at %d and %d, with empty pieces: %#x, not %#x", i, j, n, want)
			}
		}
	}
	for size := 1; size <= len(b); size++ {
		l := slices.Collect(slices.Chunk(b, size))
		if n := crc.Sum(l...); n != want {
			t.Errorf("pieces of %d: %#x, not %#x", size, n, want)
		}
	}
	if crc.Sum(b[:9], b[9:20]) == crc.Sum(b[9:20], b[:9]) {
		t.Error("the order of the pieces does not count")
	}
	if n := crc.Sum(b[:9], b[:9]); n != checksum(0, slices.Concat(b[:9], b[:9])) {
		t.Errorf("a piece twice: %#x", n)
	}
}

// P2.1: what More returns for checksums that Sum returned.
func TestMore(t *testing.T) {
	b := pattern(80)
	for i := range len(b) + 1 {
		for j := i; j <= len(b); j++ {
			if n := crc.More(crc.Sum(b[:i]), b[i:j]); n != checksum(0, b[:j]) {
				t.Fatalf("%d bytes, and %d more: %#x, not %#x", i, j-i, n, checksum(0, b[:j]))
			}
		}
		if n := crc.More(0, b[:i]); n != crc.Sum(b[:i]) {
			t.Errorf("%d bytes more than none: %#x, not %#x", i, n, crc.Sum(b[:i]))
		}
	}
	n := 0
	for i := range b {
		n = crc.More(n, b[i:i+1])
	}
	if n != crc.Sum(b) {
		t.Errorf("byte by byte: %#x, not %#x", n, crc.Sum(b))
	}
}

// P2.1: every integer from 0 to 2^32 - 1 is the checksum of some bytes.
func TestMoreAnySum(t *testing.T) {
	sums := []int{0, 1, 2, 0xff, 0x100, 1<<31 - 1, 1 << 31, 1<<31 + 1, ones - 1, ones, 0xE3069283, 0x82F63B78}
	for bit := range 32 {
		sums = append(sums, 1<<bit, ones^1<<bit)
	}
	for _, sum := range sums {
		for _, b := range [][]byte{nil, {}, {0}, {0xff}, pattern(1), pattern(4), pattern(33), make([]byte, 8)} {
			if n := crc.More(sum, b); n != checksum(sum, b) {
				t.Errorf("%#x and %x more: %#x, not %#x", sum, b, n, checksum(sum, b))
			}
		}
		if n := crc.More(sum, nil); n != sum {
			t.Errorf("%#x and nothing more: %#x", sum, n)
		}
	}
}

// P2.1: what is no checksum has none after it.
func TestMoreWrong(t *testing.T) {
	for _, sum := range []int{
		-1, -2, -0xE3069283, -ones, -ones - 1, -ones - 2, math.MinInt, math.MinInt + 1, math.MinInt + 0xE3069283,
		ones + 1, ones + 2, 1<<32 + 0xE3069283, 1 << 33, 1 << 62, math.MaxInt - ones, math.MaxInt,
	} {
		for _, b := range [][]byte{nil, {}, {0}, pattern(7), make([]byte, 32)} {
			if n := crc.More(sum, b); n != 0 {
				t.Errorf("%d and %x more: %#x", sum, b, n)
			}
		}
	}
}

// P2.2.
func TestTable(t *testing.T) {
	l := crc.Table()
	if len(l) != 256 {
		t.Fatalf("%d entries", len(l))
	}
	for n, r := range l {
		if r != eightSteps(n) {
			t.Errorf("entry %d: %#x, not %#x", n, r, eightSteps(n))
		}
	}
	for _, x := range []struct{ n, want int }{
		{0, 0}, {1, 0xF26B8303}, {2, 0xE13B70F7}, {3, 0x1350F3F4}, {128, 0x82F63B78}, {254, 0x5F16D052}, {255, 0xAD7D5351},
	} {
		if l[x.n] != x.want {
			t.Errorf("entry %d: %#x, not %#x", x.n, l[x.n], x.want)
		}
	}
}

// P2.2: a table that the caller changes is the caller's own.
func TestTableIsNew(t *testing.T) {
	l := crc.Table()
	for i := range l[:cap(l)] {
		l[:cap(l)][i] = -1
	}
	if m := crc.Table(); len(m) != 256 || m[0] != 0 || m[255] != 0xAD7D5351 {
		t.Errorf("another table changed: %v", m)
	}
	if n := crc.Sum([]byte("123456789")); n != 0xE3069283 {
		t.Errorf("the checksums changed: %#x", n)
	}
	if n := crc.More(0, []byte("123456789")); n != 0xE3069283 {
		t.Errorf("the checksums changed: %#x", n)
	}
}

// flip flips those bits of b that mask has, bit 0 of it standing for bit at of
// b: bits are counted byte by byte, the lowest one of a byte first.
func flip(b []byte, at int, mask uint32) {
	for i := range 32 {
		if mask>>i&1 == 1 {
			b[(at+i)/8] ^= 1 << ((at + i) % 8)
		}
	}
}

// masks are flips within a window: those at its ends, the dense ones, and some
// of each number of bits.
func masks() []uint32 {
	l := []uint32{ones, ones - 1, ones >> 1, 0x80000001, 0x55555555, 0xAAAAAAAA, 0x0000FFFF, 0xFF0000FF, 0x82F63B78, 0x1EDC6F41, 0x05EC76F1, 0x11EDC6F4}
	for bit := range 32 {
		l = append(l, 1<<bit, 3<<bit, 0xff<<bit, ones>>bit)
	}
	r := uint32(88172645)
	for range 60 {
		r ^= r << 13
		r ^= r >> 17
		r ^= r << 5
		l = append(l, r)
	}
	return l
}

// P2.3: bits flipped within a window of 32.
func TestWindow(t *testing.T) {
	for _, size := range []int{4, 5, 12, 256} {
		for _, b := range [][]byte{pattern(size), make([]byte, size), bytes.Repeat([]byte{0xff}, size)} {
			sum := crc.Sum(b)
			for at := 0; at+32 <= 8*size; at++ {
				for _, mask := range masks() {
					if mask == 0 {
						continue
					}
					flip(b, at, mask)
					if crc.Sum(b) == sum {
						t.Fatalf("%d bytes, %#x flipped at bit %d: the same checksum", size, mask, at)
					}
					flip(b, at, mask)
				}
			}
		}
	}
}

// P2.3: a sequence shorter than a window: all others have other checksums.
func TestShort(t *testing.T) {
	for _, size := range []int{1, 2} {
		seen := map[int]int{}
		for n := range 1 << (8 * size) {
			sum := crc.Sum([]byte{byte(n), byte(n >> 8)}[:size])
			if old, ok := seen[sum]; ok {
				t.Fatalf("%d bytes: %#x and %#x have the checksum %#x", size, old, n, sum)
			}
			seen[sum] = n
		}
	}
}

// P2.3: all flips of a window. A flip changes the checksum by what its bits do
// one by one, so none leaves it as it is if no bit does what others together do.
func TestWindowAll(t *testing.T) {
	for _, size := range []int{1, 2, 3, 4, 5, 64, 252} {
		b := pattern(size)
		sum := crc.Sum(b)
		window := min(32, 8*size)
		changes := make([]uint32, 8*size)
		for at := range changes {
			b[at/8] ^= 1 << (at % 8)
			changes[at] = uint32(crc.Sum(b) ^ sum)
			b[at/8] ^= 1 << (at % 8)
		}
		for at := 0; at+window <= len(changes); at++ {
			if n := rank(changes[at : at+window]); n != window {
				t.Fatalf("%d bytes, window at bit %d: %d independent changes", size, at, n)
			}
			for _, mask := range masks()[:40] {
				mask >>= 32 - window
				want := uint32(0)
				for i := range 32 {
					if mask>>i&1 == 1 {
						want ^= changes[at+i]
					}
				}
				flip(b, at, mask)
				if uint32(crc.Sum(b)^sum) != want {
					t.Fatalf("%d bytes, %#x flipped at bit %d: not the change of its bits", size, mask, at)
				}
				flip(b, at, mask)
			}
		}
	}
}

// rank returns how many of the words are no XOR of words before them.
func rank(l []uint32) int {
	var top [32]uint32 // by its highest bit, what that bit can be removed with
	n := 0
	for _, w := range l {
		for bit := 31; bit >= 0 && w != 0; bit-- {
			if w>>bit&1 == 0 {
				continue
			}
			if top[bit] == 0 {
				top[bit] = w
				n++
				break
			}
			w ^= top[bit]
		}
	}
	return n
}

// The arguments stay as they are, and bytes behind a length do not count.
func TestArgumentsStay(t *testing.T) {
	whole := pattern(64)
	before := bytes.Clone(whole)
	l := [][]byte{whole[3:20], whole[20:20], nil, whole[30:41]}
	want := checksum(0, slices.Concat(before[3:20], before[30:41]))
	for range 2 { // a second time: nothing is kept
		if n := crc.Sum(l...); n != want {
			t.Errorf("Sum: %#x, not %#x", n, want)
		}
		if n := crc.More(crc.Sum(whole[3:20]), whole[30:41]); n != want {
			t.Errorf("More: %#x, not %#x", n, want)
		}
	}
	if !bytes.Equal(whole, before) {
		t.Errorf("bytes: %x", whole)
	}
	if len(l) != 4 || len(l[0]) != 17 || len(l[1]) != 0 || l[2] != nil || len(l[3]) != 11 || &l[0][0] != &whole[3] || &l[3][0] != &whole[30] {
		t.Error("the list of pieces changed")
	}
}
