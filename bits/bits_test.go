package bits_test

import (
	"bytes"
	"encoding/binary"
	"encoding/hex"
	"math"
	"math/rand/v2"
	"slices"
	"testing"

	"scantling/api"
	"scantling/bits"
)

// wrong are integers that are no two-bit counts: just beyond the limits, and
// such that their lowest bits alone would be within them.
func wrong() []int {
	l := []int{-1, -2, -3, -4, 4, 5, 6, 7, math.MaxInt, math.MaxInt - 1, math.MinInt, math.MinInt + 1, math.MinInt + 3}
	for bit := 2; bit < 63; bit++ {
		l = append(l, 1<<bit, 1<<bit+1, 1<<bit+3, -1<<bit, -1<<bit+1)
	}
	return slices.DeleteFunc(l, func(n int) bool { return n >= 0 && n <= 3 })
}

// source returns a random source that is the same in each run.
func source() *rand.Rand {
	return rand.New(rand.NewPCG(9, 960))
}

// arbitrary returns that many counts.
func arbitrary(r *rand.Rand, size int) []int {
	l := make([]int, size)
	for i := range l {
		l[i] = r.IntN(4)
	}
	return l
}

// spelled spells an encoding out by sums, whether the number of counts is valid
// or not, as long as they have place.
func spelled(l []int) []byte {
	b := binary.LittleEndian.AppendUint32(nil, uint32(len(l)))
	b = append(b, make([]byte, 240)...)
	for i, n := range l {
		factor := []int{1, 4, 16, 64}[i%4]
		b[4+i/4] += byte(n * factor)
	}
	return b
}

// decoded returns the counts that 244 bytes are the encoding of, and whether
// there are any.
func decoded(b []byte) ([]int, bool) {
	size := int(binary.LittleEndian.Uint32(b))
	if size > 960 {
		return nil, false
	}
	l := make([]int, 0, 960)
	for _, c := range b[4:] {
		for range 4 {
			l = append(l, int(c%4))
			c /= 4
		}
	}
	return l[:size], !slices.ContainsFunc(l[size:], func(n int) bool { return n > 0 })
}

// lists returns counts of each number: equal ones, ones that differ in each
// byte, and arbitrary ones.
func lists() [][]int {
	var out [][]int
	r := source()
	for size := range 961 {
		out = append(out, make([]int, size), slices.Repeat([]int{3}, size), arbitrary(r, size))
		rising := make([]int, size)
		for i := range rising {
			rising[i] = (i + i/4 + i/16) % 4
		}
		out = append(out, rising)
	}
	return out
}

// takes checks that b is the encoding of l, and l what is decoded from it.
func takes(t *testing.T, l []int, b []byte) {
	t.Helper()
	if out, e := bits.Put(l); e != api.OK || !bytes.Equal(out, b) {
		t.Fatalf("%v: %x, %v, not %x", l, out, e, b)
	}
	if out, e := bits.Read(b); e != api.OK || !slices.Equal(out, l) {
		t.Fatalf("%x: %v, %v, not %v", b, out, e, l)
	}
}

// denies checks that l has no encoding.
func denies(t *testing.T, what string, l []int) {
	t.Helper()
	if out, e := bits.Put(l); e != api.ErrArg || len(out) != 0 {
		t.Fatalf("%s: %v: %x, %v", what, l, out, e)
	}
}

// refuses checks that b is no encoding.
func refuses(t *testing.T, what string, b []byte) {
	t.Helper()
	if out, e := bits.Read(b); e != api.ErrForm || len(out) != 0 {
		t.Fatalf("%s: %x: %v, %v", what, b, out, e)
	}
}

// The chapter's example.
func TestExample(t *testing.T) {
	b, _ := hex.DecodeString("050000003901")
	takes(t, []int{1, 2, 3, 0, 1}, append(b, make([]byte, 238)...))
}

// P9.1: every byte of an encoding, written out.
func TestEncoding(t *testing.T) {
	for _, x := range []struct {
		l []int
		s string
	}{
		{nil, "00000000"},
		{[]int{}, "00000000"},
		{[]int{0}, "01000000"},
		{[]int{3}, "0100000003"},
		{[]int{0, 2}, "0200000008"},
		{[]int{0, 0, 1}, "0300000010"},
		{[]int{0, 0, 0, 2}, "0400000080"},
		{[]int{3, 2, 1, 0}, "040000001b"},
		{[]int{0, 1, 2, 3}, "04000000e4"},
		{[]int{0, 0, 0, 0, 1}, "050000000001"},
		{[]int{3, 3, 3, 3, 3, 3, 3, 3, 0, 0}, "0a000000ffff00"},
		{[]int{1, 1, 1, 1, 2, 2, 2, 2, 3, 3, 3, 3, 0, 0, 0, 3}, "1000000055aaffc0"},
	} {
		b, err := hex.DecodeString(x.s)
		if err != nil {
			t.Fatal(err)
		}
		takes(t, x.l, append(b, make([]byte, 244-len(b))...))
	}
	full := append([]byte{0xc0, 0x03, 0, 0}, bytes.Repeat([]byte{0x1b}, 240)...)
	takes(t, slices.Repeat([]int{3, 2, 1, 0}, 240), full)
}

// P9.1, P9.3: each number of counts that a block can hold.
func TestValid(t *testing.T) {
	for _, l := range lists() {
		takes(t, l, spelled(l))
	}
}

// P9.1, P9.3: each place with each count, among equal ones.
func TestEachPlace(t *testing.T) {
	for _, size := range []int{1, 2, 3, 4, 5, 8, 17, 255, 256, 257, 959, 960} {
		for others := range 4 {
			l := slices.Repeat([]int{others}, size)
			for i := range l {
				for l[i] = range 4 {
					takes(t, l, spelled(l))
				}
				l[i] = others
			}
		}
	}
}

// P9.1: more counts than a block can hold.
func TestTooMany(t *testing.T) {
	for _, size := range []int{961, 962, 963, 964, 976, 1024, 1920, 65536, 65536 + 5, 1 << 20} {
		for _, n := range []int{0, 1, 3, -1, 4} {
			denies(t, "too many", slices.Repeat([]int{n}, size))
		}
		denies(t, "too many", append(slices.Repeat([]int{2}, size-1), 4))
	}
}

// P9.1: each place with what is no count.
func TestNoCounts(t *testing.T) {
	for _, n := range wrong() {
		denies(t, "one", []int{n})
		denies(t, "all", slices.Repeat([]int{n}, 960))
		for others := range 4 {
			l := slices.Repeat([]int{others}, 5)
			for i := range l {
				l[i] = n
				denies(t, "one of five", l)
				l[i] = others
			}
		}
	}
	l := slices.Repeat([]int{1}, 960)
	for i := range l {
		for _, l[i] = range []int{-1, 4, 257, math.MinInt, math.MaxInt} {
			denies(t, "one of many", l)
		}
		l[i] = 1
	}
	denies(t, "opposites", []int{1, -1})
	denies(t, "opposites", []int{-4, 4})
}

// P9.1: every length but the right one.
func TestLength(t *testing.T) {
	refuses(t, "nothing", nil)
	for size := range 600 {
		if size == 244 {
			continue
		}
		for _, c := range []byte{0, 1, 0xff} {
			refuses(t, "length", bytes.Repeat([]byte{c}, size))
		}
	}
	for _, l := range [][]int{nil, {0}, {1, 2, 3, 0, 1}, make([]int, 960), slices.Repeat([]int{3}, 960)} {
		b := spelled(l)
		for n := range b {
			refuses(t, "too short", b[:n])
			refuses(t, "too short", b[n+1:])
		}
		for _, n := range []int{1, 2, 3, 4, 12, 240, 244, 1 << 16} {
			refuses(t, "too long", append(bytes.Clone(b), make([]byte, n)...))
			refuses(t, "too long", append(make([]byte, n), b...))
		}
		refuses(t, "twice", append(bytes.Clone(b), b...))
		refuses(t, "cut off within its capacity", b[:243:244])
	}
}

// P9.1: a number of counts that is greater than a block can hold.
func TestNumberRead(t *testing.T) {
	large := []uint32{961, 962, 964, 976, 1023, 1024, 1<<31 - 1, 1 << 31, 1<<31 + 1, 1<<32 - 1, 1<<32 - 960}
	for bit := 10; bit < 32; bit++ {
		large = append(large, 1<<bit, 1<<bit+5, 1<<bit+960)
	}
	for _, l := range [][]int{nil, {1, 2, 3, 0, 1}, make([]int, 960), slices.Repeat([]int{3}, 960)} {
		b := spelled(l)
		for _, n := range large {
			binary.LittleEndian.PutUint32(b, n)
			refuses(t, "number", b)
		}
	}
	refuses(t, "ones", bytes.Repeat([]byte{0xff}, 244))
}

// P9.1, P9.3: other numbers of counts in front of the same bytes: more counts
// that are 0 are an encoding, fewer only if those left out are 0.
func TestOtherNumber(t *testing.T) {
	for _, l := range [][]int{nil, {0}, {3}, {1, 2, 3, 0, 1}, {1, 0, 0, 0, 0, 0, 0, 0, 0}, slices.Repeat([]int{1}, 959), slices.Repeat([]int{3}, 960)} {
		b := spelled(l)
		for size := range 1000 {
			binary.LittleEndian.PutUint32(b, uint32(size))
			meets(t, b)
		}
	}
}

// P9.1: each unused bit, alone.
func TestUnusedBits(t *testing.T) {
	sizes := []int{0, 1, 2, 3, 4, 5, 6, 7, 8, 9, 30, 31, 32, 33, 500, 951, 952, 953, 954, 955, 956, 957, 958, 959}
	for _, size := range sizes {
		for n := range 4 {
			b := spelled(slices.Repeat([]int{n}, size))
			for bit := 2 * size; bit < 2*960; bit++ {
				b[4+bit/8] ^= 1 << (bit % 8)
				refuses(t, "unused", b)
				b[4+bit/8] ^= 1 << (bit % 8)
			}
		}
	}
}

// meets checks that what becomes of 244 bytes is what the counts in them say.
func meets(t *testing.T, b []byte) bool {
	t.Helper()
	l, ok := decoded(b)
	if ok {
		takes(t, l, b)
	} else {
		refuses(t, "bytes", b)
	}
	return ok
}

// P9.1, P9.3: each byte of an encoding with every value.
func TestEachByte(t *testing.T) {
	r := source()
	for _, size := range []int{0, 5, 958} {
		b := spelled(arbitrary(r, size))
		for at, old := range b {
			for c := range 256 {
				b[at] = byte(c)
				meets(t, b)
			}
			b[at] = old
		}
	}
}

// P9.3: arbitrary bytes: what can be decoded is what is encoded again.
func TestArbitrary(t *testing.T) {
	r := source()
	taken := 0
	for range 10000 {
		b := make([]byte, 244)
		binary.LittleEndian.PutUint32(b, uint32(r.IntN(1000)))
		for i := range r.IntN(241) {
			b[4+i] = byte(r.IntN(256))
		}
		if meets(t, b) {
			taken++
		}
	}
	if taken < 1000 || taken > 9000 {
		t.Errorf("%d were encodings", taken)
	}
}

// P9.2: what Free returns.
func TestFree(t *testing.T) {
	for _, x := range []struct {
		l           []int
		free, first int
	}{
		{nil, 0, 0},
		{[]int{}, 0, 0},
		{[]int{0}, 1, 0},
		{[]int{1}, 0, 1},
		{[]int{3}, 0, 1},
		{[]int{0, 0}, 2, 0},
		{[]int{0, 1}, 1, 0},
		{[]int{1, 0}, 1, 1},
		{[]int{1, 2}, 0, 2},
		{[]int{1, 2, 3, 0, 1}, 1, 3},
		{[]int{1, 0, 3, 0, 0}, 3, 1},
		{[]int{2, 3, 1, 1, 0}, 1, 4},
		{[]int{3, 3, 3, 3, 3}, 0, 5},
		{make([]int, 960), 960, 0},
		{slices.Repeat([]int{1}, 960), 0, 960},
		{append(slices.Repeat([]int{2}, 959), 0), 1, 959},
		{append(slices.Repeat([]int{2}, 958), 0, 0), 2, 958},
	} {
		if free, first := bits.Free(x.l); free != x.free || first != x.first {
			t.Errorf("%v: %d, %d, not %d, %d", x.l, free, first, x.free, x.first)
		}
	}
}

// P9.2: each place alone, and each alone not.
func TestFreeEachPlace(t *testing.T) {
	for _, size := range []int{1, 2, 3, 4, 5, 17, 960} {
		for i := range size {
			l := slices.Repeat([]int{1 + i%3}, size)
			l[i] = 0
			if free, first := bits.Free(l); free != 1 || first != i {
				t.Errorf("%d of %d: %d, %d", i, size, free, first)
			}
			l = make([]int, size)
			l[i] = 1 + i%3
			want := 0
			if i == 0 {
				want = 1
			}
			if free, first := bits.Free(l); free != size-1 || first != want {
				t.Errorf("all but %d of %d: %d, %d", i, size, free, first)
			}
		}
	}
}

// P9.2: Free takes integers that are no counts, and more than a block can hold.
func TestFreeOfNoCounts(t *testing.T) {
	for _, n := range wrong() {
		if free, first := bits.Free([]int{n, n, 0, n, 0, n}); free != 2 || first != 2 {
			t.Errorf("%d: %d, %d", n, free, first)
		}
		if free, first := bits.Free([]int{n}); free != 0 || first != 1 {
			t.Errorf("%d: %d, %d", n, free, first)
		}
	}
	for _, size := range []int{961, 2000, 65536, 1 << 20} {
		l := slices.Repeat([]int{4}, size)
		if free, first := bits.Free(l); free != 0 || first != size {
			t.Errorf("%d: %d, %d", size, free, first)
		}
		l[size-1], l[size-2] = 0, 0
		if free, first := bits.Free(l); free != 2 || first != size-2 {
			t.Errorf("%d: %d, %d", size, free, first)
		}
		if free, first := bits.Free(make([]int, size)); free != size || first != 0 {
			t.Errorf("%d: %d, %d", size, free, first)
		}
	}
}

// P9.2: the first one and how many, of arbitrary counts.
func TestFreeArbitrary(t *testing.T) {
	for _, l := range lists() {
		wantFree := len(slices.DeleteFunc(slices.Clone(l), func(n int) bool { return n != 0 }))
		wantFirst := slices.Index(l, 0)
		if wantFirst < 0 {
			wantFirst = len(l)
		}
		if free, first := bits.Free(l); free != wantFree || first != wantFirst {
			t.Fatalf("%v: %d, %d, not %d, %d", l, free, first, wantFree, wantFirst)
		}
	}
}

// Elements behind the length are not there, even if there is capacity.
func TestEndIsLength(t *testing.T) {
	l := slices.Repeat([]int{1}, 2000)
	l[5], l[6] = 0, 9
	takes(t, l[:5], spelled(l[:5]))
	takes(t, l[7:967], spelled(l[7:967]))
	if free, first := bits.Free(l[:5]); free != 0 || first != 5 {
		t.Errorf("%d, %d", free, first)
	}
	b := append(spelled(l[:5]), 0xff, 0xff, 0xff)
	takes(t, l[:5], b[:244])
}

// The arguments stay as they are, the spare capacity too.
func TestArgumentsStay(t *testing.T) {
	l := slices.Repeat([]int{1, 2, 3}, 400)
	b := append(spelled(l[:7]), slices.Repeat([]byte{0xa5}, 500)...)
	oldL, oldB := slices.Clone(l), bytes.Clone(b)
	for _, size := range []int{0, 1, 7, 960, 961} {
		bits.Put(l[:size])
		bits.Free(l[:size])
	}
	for _, size := range []int{0, 3, 4, 243, 244, 245} {
		bits.Read(b[:size])
	}
	if !slices.Equal(l, oldL) || !bytes.Equal(b, oldB) {
		t.Error("changed")
	}
}

// Results are the caller's own: a change of one, or of an argument, changes no
// other result.
func TestResultsAreNew(t *testing.T) {
	l := []int{1, 2, 3, 0, 1}
	want := spelled(l)
	b1, _ := bits.Put(l)
	b2, _ := bits.Put(l)
	l1, _ := bits.Read(b1)
	l2, _ := bits.Read(b1)
	if len(b1) != 244 || len(l1) != 5 {
		t.Fatal(len(b1), len(l1))
	}
	clear(b1[:cap(b1)])
	clear(l1[:cap(l1)])
	if !bytes.Equal(b2, want) || !slices.Equal(l2, l) {
		t.Errorf("results: %x, %v", b2, l2)
	}
	clear(l)
	if !bytes.Equal(b2, want) {
		t.Errorf("argument: %x", b2)
	}
}

// One call does not count for the next one.
func TestAgain(t *testing.T) {
	long, short := slices.Repeat([]int{3}, 960), []int{1, 2, 3, 0, 1}
	for range 2 {
		takes(t, long, spelled(long))
		takes(t, short, spelled(short))
		denies(t, "again", append(slices.Clone(short), 4))
		refuses(t, "again", spelled(short)[:243])
		refuses(t, "again", bytes.Repeat([]byte{0xff}, 244))
		takes(t, nil, make([]byte, 244))
	}
}
