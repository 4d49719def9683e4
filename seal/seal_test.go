package seal_test

import (
	"bytes"
	"encoding/binary"
	"hash/crc32"
	"math"
	"testing"

	"scantling/api"
	"scantling/seal"
)

// salts are those of the kinds 1 to 4, by their kinds.
var salts = [...]uint32{0, 160774, 121107, 240779, 160478}

// numbers returns block numbers, each of whose bytes counts in some of them.
func numbers() []int {
	return []int{0, 1, 2, 7, 254, 255, 256, 257, 4096, 8191, 8192, 14398, 14399}
}

// noNumbers returns integers that are no block numbers; the lowest 8, 16 or 32
// bits of some of them are one.
func noNumbers() []int {
	return []int{-1, -2, -256, 14400, 14401, 65535, 65536, 1 << 24, 1<<32 - 1, 1 << 32, 1<<32 + 7, -1 << 32, math.MaxInt, math.MinInt, math.MinInt + 7}
}

// noKinds returns integers that are no kinds; the lowest 8, 16 or 32 bits of
// some of them are one.
func noKinds() []int {
	return []int{0, -1, -2, -4, 5, 6, 255, 257, 258, 65535, 65537, 65540, 1<<32 + 1, -1<<32 + 2, math.MaxInt, math.MinInt, math.MinInt + 3}
}

// pattern returns bytes without a short period, none of which is 0.
func pattern(n int) []byte {
	b := make([]byte, n)
	r := uint32(2463534242)
	for i := range b {
		r ^= r << 13
		r ^= r >> 17
		r ^= r << 5
		b[i] = byte(r>>11) | 1
	}
	return b
}

// payloads returns payloads of the least and the greatest lengths, and some
// between.
func payloads() [][]byte {
	return [][]byte{nil, {}, {0}, {9}, pattern(2), pattern(100), pattern(243), pattern(244), make([]byte, 244), bytes.Repeat([]byte{0xff}, 244)}
}

// padded returns in with zeros up to the length of a payload.
func padded(in []byte) []byte {
	out := make([]byte, 244)
	copy(out, in)
	return out
}

// block spells a block out, whether a sealed one or not: its number, its kind,
// the value behind it, its payload, and the checksum with a salt.
func block(no uint32, kind, zero uint16, in []byte, salt uint32) []byte {
	b := binary.LittleEndian.AppendUint32(nil, no)
	b = binary.LittleEndian.AppendUint16(b, kind)
	b = binary.LittleEndian.AppendUint16(b, zero)
	b = append(b, padded(in)...)
	sum := crc32.Checksum(b, crc32.MakeTable(crc32.Castagnoli))
	return binary.LittleEndian.AppendUint32(b, sum^salt)
}

// sealed spells a sealed block out.
func sealed(kind, no int, in []byte) []byte {
	return block(uint32(no), uint16(kind), 0, in, salts[kind])
}

// opens checks that Open returns a payload.
func opens(t *testing.T, b []byte, kind, no int, want []byte) {
	t.Helper()
	if out, e := seal.Open(b, kind, no); e != api.OK || !bytes.Equal(out, want) {
		t.Fatalf("kind %d, number %d: %x, %v, not %x", kind, no, out, e, want)
	}
}

// refuses checks that Open returns an error, and no payload.
func refuses(t *testing.T, b []byte, kind, no int, want api.Errno) {
	t.Helper()
	if out, e := seal.Open(b, kind, no); e != want || len(out) != 0 {
		t.Fatalf("%d bytes, kind %d, number %d: %x, %v, not %v", len(b), kind, no, out, e, want)
	}
}

// unknown checks that Which finds no kind and number.
func unknown(t *testing.T, what string, b []byte) {
	t.Helper()
	if kind, no, ok := seal.Which(b); kind != 0 || no != 0 || ok {
		t.Fatalf("%s: Which: %d, %d, %v", what, kind, no, ok)
	}
}

// P4.1.
func TestSalt(t *testing.T) {
	for kind := 1; kind <= 4; kind++ {
		if n := seal.Salt(kind); n != int(salts[kind]) {
			t.Errorf("kind %d: %d, not %d", kind, n, salts[kind])
		}
	}
}

// P4.1: what is no kind.
func TestSaltWrong(t *testing.T) {
	for _, kind := range noKinds() {
		if n := seal.Salt(kind); n != 0 {
			t.Errorf("kind %d: %d", kind, n)
		}
	}
}

// The chapter's example.
func TestSealExample(t *testing.T) {
	b, e := seal.Seal(2, 7, nil)
	if e != api.OK || len(b) != 256 || b[0] != 7 || b[4] != 2 {
		t.Errorf("%x, %v", b, e)
	}
}

// P4.2: each byte of a sealed block, of every kind.
func TestSeal(t *testing.T) {
	for kind := 1; kind <= 4; kind++ {
		for _, no := range numbers() {
			for _, in := range payloads() {
				b, e := seal.Seal(kind, no, in)
				if want := sealed(kind, no, in); e != api.OK || !bytes.Equal(b, want) {
					t.Fatalf("kind %d, number %d, %x: %x, %v, not %x", kind, no, in, b, e, want)
				}
			}
		}
	}
}

// P4.2: kinds, numbers and payloads that no sealed block has. The first two are
// reported before the last.
func TestSealWrong(t *testing.T) {
	wrong := func(kind, no int, in []byte, want api.Errno) {
		t.Helper()
		if b, e := seal.Seal(kind, no, in); e != want || len(b) != 0 {
			t.Errorf("kind %d, number %d, %d bytes: %x, %v, not %v", kind, no, len(in), b, e, want)
		}
	}
	for _, in := range [][]byte{nil, pattern(244), pattern(245)} {
		for _, kind := range noKinds() {
			wrong(kind, 7, in, api.ErrArg)
			wrong(kind, -1, in, api.ErrArg)
		}
		for _, no := range noNumbers() {
			wrong(2, no, in, api.ErrArg)
			wrong(0, no, in, api.ErrArg)
		}
	}
	for kind := 1; kind <= 4; kind++ {
		for _, n := range []int{245, 246, 248, 252, 256, 257, 500, 1 << 16} {
			wrong(kind, 0, make([]byte, n), api.ErrRange)
			wrong(kind, 14399, pattern(n), api.ErrRange)
		}
	}
}

// P4.2: Seal leaves the payload and the bytes behind it, which do not count,
// and what it returns is new.
func TestSealIsNew(t *testing.T) {
	whole := pattern(256)
	b, _ := seal.Seal(3, 300, whole[8:40])
	if !bytes.Equal(b, sealed(3, 300, pattern(256)[8:40])) {
		t.Errorf("%x", b)
	}
	if !bytes.Equal(whole, pattern(256)) {
		t.Errorf("the payload changed: %x", whole)
	}
	for i := range b[:cap(b)] {
		b[:cap(b)][i] = 0xee
	}
	if !bytes.Equal(whole, pattern(256)) {
		t.Errorf("the payload changed with the block: %x", whole)
	}
	c, _ := seal.Seal(3, 300, whole[8:40])
	clear(whole)
	if !bytes.Equal(c, sealed(3, 300, pattern(256)[8:40])) {
		t.Errorf("the block changed with another one or the payload: %x", c)
	}
}

// P4.3: the payloads of sealed blocks, whoever sealed them.
func TestOpen(t *testing.T) {
	for kind := 1; kind <= 4; kind++ {
		for _, no := range numbers() {
			for _, in := range payloads() {
				opens(t, sealed(kind, no, in), kind, no, padded(in))
				b, _ := seal.Seal(kind, no, in)
				opens(t, b, kind, no, padded(in))
			}
		}
	}
}

// P4.3: a kind or a number that no block has, before all that is wrong with the
// block. Neither has a block that stores it.
func TestOpenArg(t *testing.T) {
	for _, kind := range noKinds() {
		refuses(t, sealed(2, 7, nil), kind, 7, api.ErrArg)
		refuses(t, block(7, uint16(kind), 0, nil, 0), kind, 7, api.ErrArg)
		refuses(t, nil, kind, 7, api.ErrArg)
		refuses(t, make([]byte, 256), kind, -1, api.ErrArg)
	}
	for _, no := range noNumbers() {
		refuses(t, sealed(2, 7, nil), 2, no, api.ErrArg)
		refuses(t, block(uint32(no), 2, 0, nil, salts[2]), 2, no, api.ErrArg)
		refuses(t, nil, 2, no, api.ErrArg)
		refuses(t, make([]byte, 256), 5, no, api.ErrArg)
	}
}

// P4.3: bytes that are not as many as a block has, whatever they are.
func TestOpenSize(t *testing.T) {
	b := sealed(2, 7, pattern(244))
	for n := range 256 {
		refuses(t, b[:n], 2, 7, api.ErrForm)
		refuses(t, b[256-n:], 2, 7, api.ErrForm)
	}
	for _, n := range []int{1, 2, 4, 256, 1 << 16} {
		refuses(t, append(bytes.Clone(b), make([]byte, n)...), 2, 7, api.ErrForm)
		refuses(t, append(make([]byte, n), b...), 2, 7, api.ErrForm)
	}
	long := append(b[:252:252], 0) // a checksum of its own at its end
	sum := crc32.Checksum(long, crc32.MakeTable(crc32.Castagnoli))
	refuses(t, binary.LittleEndian.AppendUint32(long, sum^salts[2]), 2, 7, api.ErrForm)
	for _, n := range []int{8, 12, 251, 252, 253} {
		short := pattern(n)
		sum := crc32.Checksum(short, crc32.MakeTable(crc32.Castagnoli))
		if short = binary.LittleEndian.AppendUint32(short, sum^salts[2]); len(short) != 256 {
			refuses(t, short, 2, 7, api.ErrForm)
		}
	}
}

// P4.3: the checksum is the one with the salt of the requested kind, which is
// checked before the stored number and the stored kind.
func TestOpenSum(t *testing.T) {
	for kind := 1; kind <= 4; kind++ {
		for other := 1; other <= 4; other++ {
			want := api.ErrSum
			if other == kind {
				want = api.ErrNumber
			}
			refuses(t, sealed(kind, 7, pattern(244)), other, 8, want)
			if other != kind {
				refuses(t, sealed(kind, 7, pattern(244)), other, 7, api.ErrSum)
				refuses(t, block(7, uint16(kind), 0, nil, salts[other]), kind, 7, api.ErrSum)
			}
		}
		refuses(t, block(7, uint16(kind), 0, nil, 0), kind, 7, api.ErrSum)
		refuses(t, block(7, uint16(kind), 1, nil, 0), kind, 7, api.ErrSum)
	}
	refuses(t, make([]byte, 256), 2, 0, api.ErrSum)
	refuses(t, bytes.Repeat([]byte{0xff}, 256), 2, 0, api.ErrSum)
}

// P4.3: each byte of the checksum counts, and each byte before it.
func TestOpenEachByte(t *testing.T) {
	b := sealed(4, 259, pattern(244))
	for i := range b {
		for _, c := range []byte{1, 0x10, 0x80, 0xff} {
			b[i] ^= c
			refuses(t, b, 4, 259, api.ErrSum)
			b[i] ^= c
		}
	}
	opens(t, b, 4, 259, pattern(244))
}

// P4.3: another number is reported before another kind and before a value that
// is not 0, and each byte of it counts.
func TestOpenNumber(t *testing.T) {
	for kind := 1; kind <= 4; kind++ {
		for _, no := range numbers() {
			for _, other := range []uint32{uint32(no) ^ 1, uint32(no) + 256, uint32(no) + 1<<16, uint32(no) + 1<<24, uint32(no) + 1<<31, 1<<32 - 1} {
				refuses(t, block(other, uint16(kind), 0, nil, salts[kind]), kind, no, api.ErrNumber)
				refuses(t, block(other, uint16(kind), 1, nil, salts[kind]), kind, no, api.ErrNumber)
				refuses(t, block(other, uint16(kind)+1, 0, nil, salts[kind]), kind, no, api.ErrNumber)
				refuses(t, block(other, 0, 0xffff, nil, salts[kind]), kind, no, api.ErrNumber)
			}
		}
	}
}

// P4.3: another kind, with the salt of the requested one, is reported before a
// value that is not 0, and each byte of it counts.
func TestOpenKind(t *testing.T) {
	for kind := 1; kind <= 4; kind++ {
		for _, other := range []int{0, 1, 2, 3, 4, 5, kind + 256, kind + 1<<15, 1<<16 - 1} {
			if other == kind {
				continue
			}
			refuses(t, block(7, uint16(other), 0, pattern(244), salts[kind]), kind, 7, api.ErrKind)
			refuses(t, block(7, uint16(other), 1, pattern(244), salts[kind]), kind, 7, api.ErrKind)
		}
	}
}

// P4.3: the value behind the kind is 0 in both of its bytes.
func TestOpenZero(t *testing.T) {
	for kind := 1; kind <= 4; kind++ {
		for _, zero := range []uint16{1, 2, 128, 255, 256, 257, 1 << 15, 1<<16 - 1} {
			refuses(t, block(7, uint16(kind), zero, pattern(244), salts[kind]), kind, 7, api.ErrForm)
		}
	}
}

// P4.3: Open leaves the block and the bytes behind it, and the payload that it
// returns is new.
func TestOpenIsNew(t *testing.T) {
	whole := append(sealed(1, 0, pattern(244)), pattern(40)...)
	before := bytes.Clone(whole)
	out, e := seal.Open(whole[:256], 1, 0)
	if e != api.OK || !bytes.Equal(out, pattern(244)) {
		t.Fatalf("%x, %v", out, e)
	}
	for i := range out[:cap(out)] {
		out[:cap(out)][i] = 0xee
	}
	if !bytes.Equal(whole, before) {
		t.Errorf("the block changed: %x", whole)
	}
	out, _ = seal.Open(whole[:256], 1, 0)
	clear(whole)
	if !bytes.Equal(out, pattern(244)) {
		t.Errorf("the payload changed with another one or the block: %x", out)
	}
}

// P4.4: the kind and the number of every sealed block.
func TestWhich(t *testing.T) {
	for kind := 1; kind <= 4; kind++ {
		for no := range 14400 {
			b := sealed(kind, no, []byte{byte(no), byte(kind)})
			if k, n, ok := seal.Which(b); k != kind || n != no || !ok {
				t.Fatalf("kind %d, number %d: %d, %d, %v", kind, no, k, n, ok)
			}
		}
		for _, in := range payloads() {
			if k, n, ok := seal.Which(sealed(kind, 7, in)); k != kind || n != 7 || !ok {
				t.Fatalf("kind %d, %x: %d, %d, %v", kind, in, k, n, ok)
			}
		}
	}
}

// P4.4: blocks that Open accepts with no kind and number.
func TestWhichNone(t *testing.T) {
	for kind := 1; kind <= 4; kind++ {
		b := sealed(kind, 7, pattern(244))
		for n := range 256 {
			unknown(t, "a part of a block", b[:n])
		}
		unknown(t, "more than a block", append(bytes.Clone(b), 0))
		unknown(t, "two blocks", append(bytes.Clone(b), b...))
		for i := range b {
			b[i] ^= 0x41
			unknown(t, "a byte changed", b)
			b[i] ^= 0x41
		}
		unknown(t, "no salt", block(7, uint16(kind), 0, nil, 0))
		unknown(t, "another salt", block(7, uint16(kind), 0, nil, salts[kind%4+1]))
		for _, zero := range []uint16{1, 256, 1<<16 - 1} {
			unknown(t, "not 0", block(7, uint16(kind), zero, nil, salts[kind]))
		}
		for _, no := range noNumbers() {
			if uint32(no) >= 14400 {
				unknown(t, "no number", block(uint32(no), uint16(kind), 0, nil, salts[kind]))
			}
		}
		for _, other := range []uint16{0, 5, 256 + uint16(kind), 1<<16 - 1} {
			unknown(t, "no kind", block(7, other, 0, nil, salts[kind]))
			unknown(t, "no kind", block(7, other, 0, nil, 0))
		}
	}
	unknown(t, "nothing", nil)
	unknown(t, "zeros", make([]byte, 256))
	unknown(t, "ones", bytes.Repeat([]byte{0xff}, 256))
}

// P4.4: what Which and Open say of a block is the same, for every kind and
// number.
func TestWhichIsWhatOpens(t *testing.T) {
	blocks := [][]byte{sealed(3, 5, nil), block(5, 2, 0, nil, salts[3]), block(5, 3, 1, nil, salts[3]), block(20000, 3, 0, nil, salts[3]), make([]byte, 256), nil}
	for _, b := range blocks {
		kind, no, ok := seal.Which(b)
		n := 0
		for k := -1; k <= 6; k++ {
			for _, m := range append(noNumbers(), 0, 1, 4, 5, 6, 14399, 20000) {
				_, e := seal.Open(b, k, m)
				if e == api.OK {
					n++
				}
				if (e == api.OK) != (ok && k == kind && m == no) {
					t.Errorf("%x: Which: %d, %d, %v; Open of %d, %d: %v", b, kind, no, ok, k, m, e)
				}
			}
		}
		if ok != (n == 1) {
			t.Errorf("%x: Which: %v; opened %d times", b, ok, n)
		}
	}
}

// P4.4: Which leaves the block and the bytes behind it.
func TestWhichStays(t *testing.T) {
	whole := append(sealed(4, 12, pattern(9)), pattern(40)...)
	before := bytes.Clone(whole)
	for range 2 { // a second time: nothing is kept
		if kind, no, ok := seal.Which(whole[:256]); kind != 4 || no != 12 || !ok {
			t.Errorf("%d, %d, %v", kind, no, ok)
		}
		unknown(t, "the bytes behind the block too", whole)
	}
	if !bytes.Equal(whole, before) {
		t.Errorf("the block changed: %x", whole)
	}
}

// P4.5: every other kind and number are refused.
func TestOwnOnly(t *testing.T) {
	for kind := 1; kind <= 4; kind++ {
		for _, no := range []int{0, 7, 256, 14399} {
			b, _ := seal.Seal(kind, no, pattern(244))
			for k := range 6 {
				for m := -1; m <= 14400; m++ {
					if k != kind && m%97 != 0 && m != no { // some are enough for a salt
						continue
					}
					if _, e := seal.Open(b, k, m); (e == api.OK) != (k == kind && m == no) {
						t.Fatalf("kind %d, number %d: Open of %d, %d: %v", kind, no, k, m, e)
					}
				}
			}
		}
	}
}

// flip flips those bits of b that mask has, bit 0 of it standing for bit at of
// b: bits are counted byte by byte, the lowest one of a byte first.
func flip(b []byte, at int, mask uint32) {
	for i := range 32 {
		if mask>>i&1 == 1 {
			b[(at+i)/8] ^= 1 << ((at + i) % 8)
		}
	}
}

// masks are flips within a window: one bit, two or all of a row, some of each
// number of bits, and those that would make a salt another one.
func masks() []uint32 {
	l := []uint32{1<<32 - 1, 0x80000001, 0x55555555, 0xAAAAAAAA, 0xFF0000FF, 0x82F63B78, 0x1EDC6F41, 0x05EC76F1}
	for bit := range 32 {
		l = append(l, 1<<bit, 3<<bit, (1<<32-1)>>bit)
	}
	for kind := 1; kind <= 4; kind++ {
		for other := range kind {
			l = append(l, salts[kind]^salts[other])
		}
	}
	r := uint32(88172645)
	for range 20 {
		r ^= r << 13
		r ^= r >> 17
		r ^= r << 5
		l = append(l, r)
	}
	return l
}

// P4.5: bits flipped within a window, wherever it lies in the block: in the
// number, the kind, the payload, the checksum, or across them.
func TestWindow(t *testing.T) {
	for kind := 1; kind <= 4; kind++ {
		b, _ := seal.Seal(kind, 263, pattern(40*kind))
		for at := 0; at+32 <= 8*len(b); at++ {
			for _, mask := range masks() {
				flip(b, at, mask)
				refuses(t, b, kind, 263, api.ErrSum)
				flip(b, at, mask)
			}
		}
		opens(t, b, kind, 263, padded(pattern(40*kind)))
	}
}
