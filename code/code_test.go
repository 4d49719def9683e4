package code_test

import (
	"bytes"
	"math"
	"slices"
	"testing"

	"scantling/api"
	"scantling/code"
)

var widths = []int{1, 2, 4, 8}

var notWidths = []int{math.MinInt, -8, -4, -2, -1, 0, 3, 5, 6, 7, 9, 12, 16, 32, 64, 1<<32 + 1, math.MaxInt}

// most is the greatest integer that fits in a width.
func most(width int) int {
	if width == 8 {
		return math.MaxInt
	}
	return 1<<(8*width) - 1
}

// samples are integers that fit in a width: its edges, each bit alone, and one
// with a different value in each byte, so that no two bytes can be exchanged.
func samples(width int) []int {
	l := []int{0, most(width), most(width) - 1, 0x0102030405060708 & most(width), 0x7152637485960718 & most(width)}
	for bit := 1; bit > 0 && bit <= most(width); bit <<= 1 {
		l = append(l, bit, bit-1)
	}
	return l
}

// encoding spells an integer out by division, as the definition does.
func encoding(n, width int) []byte {
	var b []byte
	for range width {
		b = append(b, byte(n%256))
		n /= 256
	}
	return b
}

// pattern returns bytes that all differ.
func pattern(n int) []byte {
	b := make([]byte, n)
	for i := range b {
		b[i] = byte(17*i + 3)
	}
	return b
}

// P1.1: what Get returns.
func TestGet(t *testing.T) {
	b := []byte{1, 2, 3, 4, 5, 6, 7, 8, 9}
	for _, x := range []struct{ at, width, n int }{
		{0, 1, 1}, {8, 1, 9}, {0, 2, 0x0201}, {7, 2, 0x0908}, {0, 4, 0x04030201}, {5, 4, 0x09080706},
		{0, 8, 0x0807060504030201}, {1, 8, 0x0908070605040302},
	} {
		if n, e := code.Get(b, x.at, x.width); n != x.n || e != api.OK {
			t.Errorf("Get at %d, width %d: %#x, %v", x.at, x.width, n, e)
		}
	}
	full := bytes.Repeat([]byte{0xff}, 8)
	for _, width := range []int{1, 2, 4} {
		if n, e := code.Get(full, 8-width, width); n != most(width) || e != api.OK {
			t.Errorf("Get of the greatest, width %d: %#x, %v", width, n, e)
		}
	}
	for _, width := range widths {
		for _, n := range samples(width) {
			if got, e := code.Get(encoding(n, width), 0, width); got != n || e != api.OK {
				t.Errorf("Get of %#x, width %d: %#x, %v", n, width, got, e)
			}
		}
	}
}

// P1.1: what Put returns.
func TestPut(t *testing.T) {
	b := pattern(12)
	for _, width := range widths {
		for at := 0; at+width <= len(b); at++ {
			for _, n := range samples(width) {
				want := slices.Concat(b[:at], encoding(n, width), b[at+width:])
				got, e := code.Put(b, at, width, n)
				if e != api.OK || !bytes.Equal(got, want) {
					t.Fatalf("Put of %#x at %d, width %d: %x, %v", n, at, width, got, e)
				}
			}
		}
	}
}

// P1.1: what is no width is told before all else.
func TestWrongWidth(t *testing.T) {
	for _, width := range notWidths {
		for _, at := range []int{0, -1, 40, math.MinInt, math.MaxInt} {
			for _, b := range [][]byte{nil, {}, pattern(40), bytes.Repeat([]byte{0xff}, 40)} {
				if n, e := code.Get(b, at, width); n != 0 || e != api.ErrArg {
					t.Errorf("Get at %d, width %d: %d, %v", at, width, n, e)
				}
				for _, n := range []int{0, -1, math.MaxInt} {
					if got, e := code.Put(b, at, width, n); len(got) != 0 || e != api.ErrArg {
						t.Errorf("Put of %d at %d, width %d: %x, %v", n, at, width, got, e)
					}
				}
			}
		}
	}
}

// P1.1: an offset without enough bytes is told before an integer that does
// not fit.
func TestEnd(t *testing.T) {
	for size := range 12 {
		b := bytes.Repeat([]byte{0xff}, size)
		for _, width := range widths {
			for _, at := range []int{math.MinInt, math.MinInt + 7, -8, -width, -1, max(size-width+1, 0), size, size + 1, math.MaxInt - width, math.MaxInt - width + 1, math.MaxInt} {
				if n, e := code.Get(b, at, width); n != 0 || e != api.ErrEnd {
					t.Errorf("Get at %d of %d, width %d: %d, %v", at, size, width, n, e)
				}
				for _, n := range []int{0, -1, math.MinInt, math.MaxInt} {
					if got, e := code.Put(b, at, width, n); len(got) != 0 || e != api.ErrEnd {
						t.Errorf("Put of %d at %d of %d, width %d: %x, %v", n, at, size, width, got, e)
					}
				}
			}
		}
	}
	for _, width := range widths {
		if n, e := code.Get(nil, 0, width); n != 0 || e != api.ErrEnd {
			t.Errorf("Get of nothing, width %d: %d, %v", width, n, e)
		}
		if got, e := code.Put(nil, 0, width, 0); len(got) != 0 || e != api.ErrEnd {
			t.Errorf("Put to nothing, width %d: %x, %v", width, got, e)
		}
	}
}

// P1.1: bytes behind the length are not there, even if there is capacity.
func TestEndIsLength(t *testing.T) {
	b := pattern(16)[:3]
	if n, e := code.Get(b, 0, 4); n != 0 || e != api.ErrEnd {
		t.Errorf("Get: %d, %v", n, e)
	}
	if got, e := code.Put(b, 3, 1, 0); len(got) != 0 || e != api.ErrEnd {
		t.Errorf("Put: %x, %v", got, e)
	}
	if l, e := code.Unpack(b, 2, 2); len(l) != 0 || e != api.ErrEnd {
		t.Errorf("Unpack: %v, %v", l, e)
	}
}

// P1.1: an encoded integer above 2^63 - 1.
func TestGetRange(t *testing.T) {
	for _, l := range [][]byte{
		{0, 0, 0, 0, 0, 0, 0, 0x80}, {1, 0, 0, 0, 0, 0, 0, 0x80}, {0, 0, 0, 0, 0, 0, 0, 0xff},
		{0xff, 0xff, 0xff, 0xff, 0xff, 0xff, 0xff, 0xff},
	} {
		if n, e := code.Get(slices.Concat([]byte{5}, l, []byte{5}), 1, 8); n != 0 || e != api.ErrRange {
			t.Errorf("Get of %x: %d, %v", l, n, e)
		}
	}
	if n, e := code.Get([]byte{0xff, 0xff, 0xff, 0xff, 0xff, 0xff, 0xff, 0x7f}, 0, 8); n != math.MaxInt || e != api.OK {
		t.Errorf("Get of 2^63 - 1: %d, %v", n, e)
	}
}

// P1.1, P1.2: an integer that does not fit.
func TestPutRange(t *testing.T) {
	for _, width := range widths {
		wrong := []int{-1, -2, -128, -256, -1 << 31, -1 << 32, math.MinInt, math.MinInt + 1}
		if width < 8 {
			wrong = append(wrong, most(width)+1, most(width)+2, (most(width)+1)*255, math.MaxInt, 1<<62)
		}
		for _, n := range wrong {
			if got, e := code.Put(pattern(8), 0, width, n); len(got) != 0 || e != api.ErrRange {
				t.Errorf("Put of %d, width %d: %x, %v", n, width, got, e)
			}
			if got, e := code.Pack(code.Field{Width: width, N: n}); len(got) != 0 || e != api.ErrRange {
				t.Errorf("Pack of %d, width %d: %x, %v", n, width, got, e)
			}
		}
	}
}

// P1.2: what Pack returns.
func TestPack(t *testing.T) {
	if b, e := code.Pack(); len(b) != 0 || e != api.OK {
		t.Errorf("nothing: %x, %v", b, e)
	}
	b, e := code.Pack(code.Field{Width: 2, N: 258}, code.Field{Width: 1, N: 1}) // the chapter's example
	if e != api.OK || !bytes.Equal(b, []byte{2, 1, 1}) {
		t.Errorf("example: %x, %v", b, e)
	}
	var l []code.Field
	var want []byte
	for _, width := range []int{8, 1, 4, 2, 2, 8, 4, 1} {
		for _, n := range samples(width) {
			l = append(l, code.Field{Width: width, N: n})
			want = append(want, encoding(n, width)...)
			if b, e := code.Pack(code.Field{Width: width, N: n}); e != api.OK || !bytes.Equal(b, encoding(n, width)) {
				t.Errorf("%#x, width %d: %x, %v", n, width, b, e)
			}
		}
	}
	if b, e := code.Pack(l...); e != api.OK || !bytes.Equal(b, want) {
		t.Errorf("%x, %v", b, e)
	}
}

// P1.2: the first wrong field counts, and its width before its integer.
func TestPackWrong(t *testing.T) {
	good := code.Field{Width: 2, N: 7}
	for _, width := range notWidths {
		for _, n := range []int{0, -1, math.MaxInt} {
			if b, e := code.Pack(code.Field{Width: width, N: n}); len(b) != 0 || e != api.ErrArg {
				t.Errorf("width %d, %d: %x, %v", width, n, b, e)
			}
		}
	}
	noWidth, noFit := code.Field{Width: 3, N: -1}, code.Field{Width: 1, N: 256}
	for _, x := range []struct {
		l []code.Field
		e api.Errno
	}{
		{[]code.Field{noWidth, noFit}, api.ErrArg},
		{[]code.Field{noFit, noWidth}, api.ErrRange},
		{[]code.Field{good, noFit, good, noWidth, good}, api.ErrRange},
		{[]code.Field{good, noWidth, good, noFit, good}, api.ErrArg},
		{[]code.Field{good, good, noFit}, api.ErrRange},
		{[]code.Field{good, good, noWidth}, api.ErrArg},
	} {
		if b, e := code.Pack(x.l...); len(b) != 0 || e != x.e {
			t.Errorf("%v: %x, %v", x.l, b, e)
		}
	}
}

// P1.2: what Unpack returns.
func TestUnpack(t *testing.T) {
	b := []byte{1, 2, 3, 4, 5, 6, 7, 8, 9, 10, 11, 12, 13, 14, 15, 16}
	for _, x := range []struct {
		b      []byte
		widths []int
		want   []int
	}{
		{nil, nil, nil},
		{b, nil, nil},
		{b, []int{1}, []int{1}},
		{b[:3], []int{1, 2}, []int{1, 0x0302}},
		{b[:3], []int{2, 1}, []int{0x0201, 3}},
		{b, []int{1, 2, 4, 8}, []int{1, 0x0302, 0x07060504, 0x0f0e0d0c0b0a0908}},
		{b, []int{8, 4, 2, 1, 1}, []int{0x0807060504030201, 0x0c0b0a09, 0x0e0d, 15, 16}},
	} {
		if l, e := code.Unpack(x.b, x.widths...); e != api.OK || !slices.Equal(l, x.want) {
			t.Errorf("%x %v: %x, %v", x.b, x.widths, l, e)
		}
	}
}

// P1.2: the first integer that cannot be read counts.
func TestUnpackWrong(t *testing.T) {
	high := []byte{1, 0, 0, 0, 0, 0, 0, 0, 0x80, 9}
	for _, x := range []struct {
		b      []byte
		widths []int
		e      api.Errno
	}{
		{nil, []int{1}, api.ErrEnd},
		{nil, []int{3}, api.ErrArg},
		{high, []int{1, 8, 1, 1}, api.ErrRange},
		{high, []int{1, 8, 3}, api.ErrRange},
		{high, []int{1, 3, 8}, api.ErrArg},
		{high, []int{1, 1, 0}, api.ErrArg},
		{high, []int{-1}, api.ErrArg},
		{high, []int{8, 2, 1}, api.ErrEnd},
		{high, []int{8, 2, 1, 3}, api.ErrEnd},
		{high, []int{8, 2, 3}, api.ErrArg},
		{high, []int{8, 2, 3, 1}, api.ErrArg},
		{high, []int{8, 8}, api.ErrEnd},
		{high, []int{8, 4}, api.ErrEnd},
		{high, []int{2, 8, math.MaxInt, math.MaxInt}, api.ErrArg},
	} {
		if l, e := code.Unpack(x.b, x.widths...); len(l) != 0 || e != x.e {
			t.Errorf("%x %v: %v, %v", x.b, x.widths, l, e)
		}
	}
}

// P1.3.
func TestZero(t *testing.T) {
	if !code.Zero(nil) || !code.Zero([]byte{}) {
		t.Error("nothing is all zeros")
	}
	for size := 1; size < 20; size++ {
		b := make([]byte, size)
		if !code.Zero(b) {
			t.Errorf("%d zeros", size)
		}
		for at := range b {
			for bit := range 8 {
				b[at] = 1 << bit
				if code.Zero(b) {
					t.Errorf("bit %d of byte %d of %d", bit, at, size)
				}
			}
			b[at] = 0
		}
	}
	if !code.Zero([]byte{0, 0, 1}[:2]) {
		t.Error("a byte behind the length counts")
	}
	if code.Zero([]byte{0x80, 0x80}) || code.Zero([]byte{1, 0xff}) {
		t.Error("bytes whose sum is 0")
	}
}

// P1.4: Get returns what Put stored, and the other bytes stay.
func TestRoundTrip(t *testing.T) {
	b := pattern(20)
	for _, width := range widths {
		for at := 0; at+width <= len(b); at++ {
			for _, n := range samples(width) {
				c, e := code.Put(b, at, width, n)
				if e != api.OK || len(c) != len(b) {
					t.Fatalf("Put of %#x at %d, width %d: %x, %v", n, at, width, c, e)
				}
				if got, e := code.Get(c, at, width); got != n || e != api.OK {
					t.Fatalf("Get of %#x at %d, width %d: %#x, %v", n, at, width, got, e)
				}
				if !bytes.Equal(c[:at], b[:at]) || !bytes.Equal(c[at+width:], b[at+width:]) {
					t.Fatalf("Put of %#x at %d, width %d changed another byte: %x", n, at, width, c)
				}
			}
			n, e := code.Get(b, at, width)
			if e == api.ErrRange {
				continue
			}
			if c, e := code.Put(b, at, width, n); e != api.OK || !bytes.Equal(c, b) {
				t.Fatalf("Put of what Get returned at %d, width %d: %x, %v", at, width, c, e)
			}
		}
	}
}

// P1.4: all integers of one and two bytes.
func TestRoundTripAll(t *testing.T) {
	for _, width := range []int{1, 2} {
		for n := range most(width) + 1 {
			b, e := code.Pack(code.Field{Width: width, N: n})
			if e != api.OK || !bytes.Equal(b, encoding(n, width)) {
				t.Fatalf("Pack of %d, width %d: %x, %v", n, width, b, e)
			}
			if l, e := code.Unpack(b, width); e != api.OK || !slices.Equal(l, []int{n}) {
				t.Fatalf("Unpack of %d, width %d: %v, %v", n, width, l, e)
			}
		}
	}
}

// The arguments stay as they are, the spare capacity too, and no result lies
// in them.
func TestArgumentsStay(t *testing.T) {
	whole := pattern(32)
	before := bytes.Clone(whole)
	b := whole[4:12]
	for _, width := range widths {
		c, e := code.Put(b, 0, width, 1)
		if e != api.OK {
			t.Fatal(e)
		}
		c = c[:cap(c)]
		for i := range c {
			c[i] ^= 0xff
		}
		code.Put(b, 8, width, 1)
		code.Put(b, 0, width, -1)
		code.Get(b, 0, width)
		code.Unpack(b, width, width, width)
	}
	code.Zero(b)
	if !bytes.Equal(whole, before) {
		t.Errorf("bytes: %x", whole)
	}
	fields := []code.Field{{Width: 1, N: 2}, {Width: 3, N: 4}}
	code.Pack(fields...)
	if !slices.Equal(fields, []code.Field{{Width: 1, N: 2}, {Width: 3, N: 4}}) {
		t.Errorf("fields: %v", fields)
	}
	list := []int{1, 2, 1, 7}
	l, _ := code.Unpack(b, list[:3]...)
	for i := range l {
		l[i] = -1
	}
	if !slices.Equal(list, []int{1, 2, 1, 7}) {
		t.Errorf("widths: %v", list)
	}
}
