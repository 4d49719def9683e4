package image_test

import (
	"bytes"
	"math"
	"slices"
	"testing"

	"scantling/api"
	"scantling/image"
)

// pattern returns bytes of which no two blocks are alike.
func pattern(n int) []byte {
	b := make([]byte, n)
	r := uint32(2463534242)
	for i := range b {
		r ^= r << 13
		r ^= r >> 17
		r ^= r << 5
		b[i] = byte(r >> 11)
	}
	return b
}

// filled returns a block of one byte.
func filled(c byte) []byte {
	return bytes.Repeat([]byte{c}, api.Size)
}

// made returns New's image of n blocks.
func made(t *testing.T, n int) *image.Image {
	t.Helper()
	m, e := image.New(n)
	if m == nil || e != api.OK {
		t.Fatalf("New(%d): %v, %v", n, m, e)
	}
	return m
}

// holds checks that an image consists of the blocks in want, as each of its
// methods tells.
func holds(t *testing.T, what string, m *image.Image, want []byte) {
	t.Helper()
	if m == nil {
		t.Fatalf("%s: nil", what)
	}
	if n := m.Blocks(); n != len(want)/api.Size {
		t.Fatalf("%s: %d blocks, not %d", what, n, len(want)/api.Size)
	}
	if b := m.Bytes(); !bytes.Equal(b, want) {
		t.Fatalf("%s: other bytes than %d that are wanted (%d)", what, len(want), len(b))
	}
	for k := range len(want) / api.Size {
		b, e := m.Read(k)
		if e != api.OK || !bytes.Equal(b, want[k*api.Size:(k+1)*api.Size]) {
			t.Fatalf("%s: block %d: %x, %v", what, k, b, e)
		}
	}
	for _, k := range outside(len(want) / api.Size) {
		if b, e := m.Read(k); len(b) != 0 || e != api.ErrEnd {
			t.Fatalf("%s: block %d: %d bytes, %v", what, k, len(b), e)
		}
	}
}

// outside returns numbers of no block of an image of n blocks; multiplied by
// Size, some of them overflow into the image.
func outside(n int) []int {
	return []int{-1, -2, -n - 1, n, n + 1, n + api.Size, 1 << 32, 1 << 55, 1 << 56, 1<<56 + 1, -1 << 56, 1 << 57, math.MaxInt - 1, math.MaxInt, math.MinInt, math.MinInt + 1}
}

// P3.1: New's images are of zeros.
func TestNew(t *testing.T) {
	for _, n := range []int{0, 1, 2, 3, 8, 255, 256, 257, api.MaxBlocks - 1, api.MaxBlocks} {
		holds(t, "New", made(t, n), make([]byte, n*256))
	}
	if n := len(made(t, 2).Bytes()); n != 512 { // the chapter's example
		t.Errorf("two blocks: %d bytes", n)
	}
}

// P3.1: how many blocks an image cannot have.
func TestNewWrong(t *testing.T) {
	for _, n := range []int{-1, -2, -api.MaxBlocks, api.MaxBlocks + 1, api.MaxBlocks + 2, 1 << 16, 1 << 32, 1 << 56, math.MaxInt, math.MinInt, math.MinInt + 1} {
		if m, e := image.New(n); m != nil || e != api.ErrRange {
			t.Errorf("New(%d): %v, %v", n, m, e)
		}
	}
}

// P3.1: Of uses the complete blocks from the beginning.
func TestOf(t *testing.T) {
	for _, n := range []int{0, 1, 2, 255, 256, 257, 511, 512, 513, 600, 767, 768, 5000} {
		b := pattern(n)
		holds(t, "Of", image.Of(b), b[:n/256*256])
	}
	holds(t, "Of nil", image.Of(nil), nil)
	if n := image.Of(make([]byte, 600)).Blocks(); n != 2 { // the chapter's example
		t.Errorf("600 bytes: %d blocks", n)
	}
	b := pattern(1024)
	holds(t, "Of a part", image.Of(b[3:300]), b[3:259])
}

// P3.1: Of uses the first MaxBlocks blocks only.
func TestOfMany(t *testing.T) {
	const most = api.MaxBlocks * 256
	b := pattern(most + 3*256 + 7)
	for _, n := range []int{most - 257, most - 256, most - 1, most, most + 1, most + 255, most + 256, most + 257, len(b)} {
		holds(t, "Of many", image.Of(b[:n]), b[:min(n/256*256, most)])
	}
}

// P3.1: Of copies the bytes.
func TestOfCopies(t *testing.T) {
	whole := pattern(1300)
	before := bytes.Clone(whole)
	m := image.Of(whole[100:900])
	for k := range m.Blocks() {
		if e := m.Write(k, filled(byte(k))); e != api.OK {
			t.Fatal(e)
		}
	}
	if !bytes.Equal(whole, before) {
		t.Error("Write changed Of's bytes")
	}
	m = image.Of(whole[100:900])
	clear(whole)
	holds(t, "after a change of Of's bytes", m, before[100:868])
}

// P3.2: what Read returns, and what Write replaces.
func TestReadWrite(t *testing.T) {
	for _, n := range []int{1, 2, 3, 7} {
		m, want := made(t, n), make([]byte, n*256)
		for k := range n {
			b := pattern(256 * (k + 1))[256*k:]
			if e := m.Write(k, b); e != api.OK {
				t.Fatalf("Write of block %d of %d: %v", k, n, e)
			}
			copy(want[256*k:], b)
			holds(t, "after a Write", m, want)
		}
	}
	m := made(t, api.MaxBlocks)
	last := pattern(256)
	if e := m.Write(api.MaxBlocks-1, last); e != api.OK {
		t.Errorf("Write of the last block that may be: %v", e)
	}
	if b, e := m.Read(api.MaxBlocks - 1); e != api.OK || !bytes.Equal(b, last) {
		t.Errorf("Read of the last block that may be: %x, %v", b, e)
	}
}

// lengths are those of a block's bytes that are no block.
var lengths = []int{0, 1, 2, 128, 254, 255, 257, 258, 511, 512, 513, 768}

// P3.2: blocks that are not there, whatever is to be written to them.
func TestNoBlock(t *testing.T) {
	for _, n := range []int{0, 1, 2, 5, api.MaxBlocks} {
		b := pattern(n * 256)
		m := image.Of(b)
		for _, k := range outside(n) {
			if b, e := m.Read(k); len(b) != 0 || e != api.ErrEnd {
				t.Errorf("Read of block %d of %d: %d bytes, %v", k, n, len(b), e)
			}
			for _, size := range append(lengths, 256) {
				if e := m.Write(k, filled(7)[:min(size, 256)]); e != api.ErrEnd {
					t.Errorf("Write of %d bytes to block %d of %d: %v", size, k, n, e)
				}
			}
			if e := m.Write(k, nil); e != api.ErrEnd {
				t.Errorf("Write of nil to block %d of %d: %v", k, n, e)
			}
		}
		if !bytes.Equal(m.Bytes(), b) {
			t.Errorf("%d blocks: a Write to no block changed one", n)
		}
	}
}

// P3.2: bytes that are no block change nothing.
func TestWriteWrong(t *testing.T) {
	b := pattern(3 * 256)
	m := image.Of(b)
	for k := range 3 {
		for _, size := range lengths {
			if e := m.Write(k, bytes.Repeat([]byte{9}, size)); e != api.ErrArg {
				t.Errorf("Write of %d bytes: %v", size, e)
			}
		}
		if e := m.Write(k, nil); e != api.ErrArg {
			t.Errorf("Write of nil: %v", e)
		}
		if e := m.Write(k, make([]byte, 255, 256)); e != api.ErrArg {
			t.Errorf("Write of 255 bytes with spare capacity: %v", e)
		}
	}
	holds(t, "after wrong Writes", m, b)
}

// P3.2: Write copies the bytes, and leaves them and the spare capacity.
func TestWriteCopies(t *testing.T) {
	whole := pattern(600)
	before := bytes.Clone(whole)
	m := made(t, 2)
	if e := m.Write(0, whole[10:266]); e != api.OK {
		t.Fatal(e)
	}
	if e := m.Write(0, whole[20:276]); e != api.OK {
		t.Fatal(e)
	}
	if !bytes.Equal(whole, before) {
		t.Error("Write changed its bytes")
	}
	clear(whole)
	holds(t, "after a change of Write's bytes", m, slices.Concat(before[20:276], make([]byte, 256)))
}

// P3.2: what Read returns is new each time, and has no spare capacity in which
// the next block could lie.
func TestReadIsNew(t *testing.T) {
	want := pattern(3 * 256)
	m := image.Of(want)
	for k := range 3 {
		b, e := m.Read(k)
		if e != api.OK || len(b) != 256 || cap(b) != 256 {
			t.Fatalf("block %d: %d bytes, room for %d, %v", k, len(b), cap(b), e)
		}
		c, _ := m.Read(k)
		clear(b)
		_ = append(b, 1, 2, 3)
		if !bytes.Equal(c, want[256*k:256*(k+1)]) {
			t.Errorf("block %d: two Reads share memory", k)
		}
	}
	holds(t, "after changes of what Read returned", m, want)
}

// P3.3: Bytes are new each time.
func TestBytesAreNew(t *testing.T) {
	want := pattern(3 * 256)
	m := image.Of(want)
	b, c := m.Bytes(), m.Bytes()
	b = b[:cap(b)]
	clear(b)
	if !bytes.Equal(c, want) {
		t.Error("two calls of Bytes share memory")
	}
	holds(t, "after a change of what Bytes returned", m, want)
	if e := m.Write(1, filled(5)); e != api.OK {
		t.Fatal(e)
	}
	if !bytes.Equal(c, want) {
		t.Error("Write changed what Bytes returned")
	}
}

// P3.3: a copy and its original do not depend on each other.
func TestCopy(t *testing.T) {
	for _, n := range []int{0, 1, 2, 5, api.MaxBlocks} {
		want := pattern(n * 256)
		holds(t, "a copy", image.Of(want).Copy(), want)
	}
	want := pattern(3 * 256)
	m := image.Of(want)
	c := m.Copy()
	if c == m {
		t.Fatal("the copy is the image itself")
	}
	if e := m.Write(1, filled(1)); e != api.OK {
		t.Fatal(e)
	}
	holds(t, "a copy after a Write to the original", c, want)
	changed := slices.Concat(want[:256], filled(1), want[512:])
	holds(t, "the original", m, changed)
	if e := c.Write(2, filled(2)); e != api.OK {
		t.Fatal(e)
	}
	holds(t, "the copy", c, slices.Concat(want[:512], filled(2)))
	holds(t, "the original after a Write to the copy", m, changed)
	holds(t, "a copy of the changed original", m.Copy(), changed)
	holds(t, "a copy of the copy", c.Copy(), c.Bytes())
}

// P3.3: two images do not depend on each other.
func TestImagesApart(t *testing.T) {
	a, b := made(t, 2), made(t, 2)
	if e := a.Write(1, filled(1)); e != api.OK {
		t.Fatal(e)
	}
	holds(t, "one image", b, make([]byte, 512))
	holds(t, "the other", a, slices.Concat(make([]byte, 256), filled(1)))
	holds(t, "a later one", made(t, 2), make([]byte, 512))
}

// P3.4: nil, for all arguments.
func TestNil(t *testing.T) {
	var m *image.Image
	if n := m.Blocks(); n != 0 {
		t.Errorf("%d blocks", n)
	}
	if b := m.Bytes(); len(b) != 0 {
		t.Errorf("%d bytes", len(b))
	}
	if c := m.Copy(); c != nil {
		t.Errorf("a copy: %v", c)
	}
	for _, k := range append(outside(0), 0, 1) {
		if b, e := m.Read(k); len(b) != 0 || e != api.ErrNone {
			t.Errorf("Read of block %d: %d bytes, %v", k, len(b), e)
		}
		for _, b := range [][]byte{nil, {}, {1}, filled(1), pattern(257)} {
			if e := m.Write(k, b); e != api.ErrNone {
				t.Errorf("Write of %d bytes to block %d: %v", len(b), k, e)
			}
		}
	}
}

// empty checks that an image behaves like one without blocks.
func empty(t *testing.T, what string, m *image.Image) {
	t.Helper()
	for range 2 { // a second time: a Write has not changed it
		holds(t, what, m, nil)
		holds(t, what+", copied", m.Copy(), nil)
		for _, k := range append(outside(0), 0, 1) {
			for _, b := range [][]byte{nil, {1}, filled(1)} {
				if e := m.Write(k, b); e != api.ErrEnd {
					t.Errorf("%s: Write of %d bytes to block %d: %v", what, len(b), k, e)
				}
			}
		}
	}
}

// P3.4: an Image that was not returned by New, Of or Copy.
func TestNotReturned(t *testing.T) {
	empty(t, "New(0)", made(t, 0))
	empty(t, "Of nothing", image.Of(nil))
	empty(t, "a new one", new(image.Image))
	empty(t, "a literal", &image.Image{})
	var list [2]image.Image
	empty(t, "an element", &list[1])
}

// P3.4: an Image that was assigned from one that New, Of or Copy returned is
// another one, without blocks; the one that they returned keeps its own.
func TestAssigned(t *testing.T) {
	want := pattern(2 * 256)
	for _, m := range []*image.Image{made(t, 2), image.Of(want), image.Of(want).Copy()} {
		before := m.Bytes()
		c := *m
		empty(t, "an assigned one", &c)
		d := c
		empty(t, "one assigned from that", &d)
		holds(t, "the image itself", m, before)
		if e := m.Write(0, filled(3)); e != api.OK {
			t.Fatal(e)
		}
		empty(t, "an assigned one after a Write to the image", &c)
		holds(t, "the image after a Write", m, slices.Concat(filled(3), before[256:]))
	}
}

// P3.5: Read returns what the last Write to that block stored, and no Write
// changes another block.
func TestLastWrite(t *testing.T) {
	const n = 6
	m, want := made(t, n), make([]byte, n*256)
	blocks := pattern(97 * 256)
	for i := range 97 {
		k := i * i % 13 % n
		b := blocks[256*i : 256*(i+1)]
		if e := m.Write(k, b); e != api.OK {
			t.Fatal(e)
		}
		copy(want[256*k:], b)
		if i%7 == 3 { // neither of these stores anything
			m.Write(k, b[:255])
			m.Write(n, b)
			m.Write(-1, b)
		}
		holds(t, "after some Writes", m, want)
	}
	for k := range n { // each byte of each block alone
		for i := range 256 {
			b, _ := m.Read(k)
			b[i] ^= 0xff
			if e := m.Write(k, b); e != api.OK {
				t.Fatal(e)
			}
			want[256*k+i] ^= 0xff
			if !bytes.Equal(m.Bytes(), want) {
				t.Fatalf("byte %d of block %d: another one changed", i, k)
			}
		}
	}
}

// P3.5: a block that is moved within an image.
func TestWriteWhatWasRead(t *testing.T) {
	want := pattern(3 * 256)
	m := image.Of(want)
	first, _ := m.Read(0)
	third, _ := m.Read(2)
	m.Write(0, third)
	m.Write(2, first)
	holds(t, "two blocks exchanged", m, slices.Concat(want[512:], want[256:512], want[:256]))
	b := m.Bytes()
	m.Write(1, b[512:])
	holds(t, "a block written twice", m, slices.Concat(want[512:], want[:256], want[:256]))
}
