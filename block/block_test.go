package block_test

import (
	"bytes"
	"encoding/binary"
	"errors"
	"math"
	"math/rand/v2"
	"reflect"
	"slices"
	"testing"

	"scantling/api"
	"scantling/block"
	"scantling/crc"
	"scantling/fault"
	"scantling/image"
	"scantling/seal"
)

// source returns a random source that is the same in each run.
func source() *rand.Rand {
	return rand.New(rand.NewPCG(11, 244))
}

// u32 spells integers of four bytes out.
func u32(l ...int) []byte {
	var b []byte
	for _, n := range l {
		b = binary.LittleEndian.AppendUint32(b, uint32(n))
	}
	return b
}

// padded returns in with zeros up to the length of a payload.
func padded(in []byte) []byte {
	out := make([]byte, 244)
	copy(out, in)
	return out
}

// sealed returns the sealed block of a kind and number.
func sealed(kind, no int, in []byte) []byte {
	b, _ := seal.Seal(kind, no, in)
	return b
}

// forged returns a block that has the checksum of one of the kind, but stores
// what it is told to.
func forged(kind int, no uint32, stored, zero uint16, in []byte) []byte {
	b := sealed(kind, 0, in)
	binary.LittleEndian.PutUint32(b, no)
	binary.LittleEndian.PutUint16(b[4:], stored)
	binary.LittleEndian.PutUint16(b[6:], zero)
	sum := crc.Sum(b[:252]) ^ seal.Salt(kind)
	binary.LittleEndian.PutUint32(b[252:], uint32(sum))
	return b
}

// superblock returns one for that many blocks, and its payload.
func superblock(blocks int) (api.Super, []byte) {
	s := api.Super{Tx: 7, Time: 5, Unit: 128, Data: 1000, Blocks: blocks, Top: 1, Details: blocks - 1, DataSlots: 1, DataOver: 1, MetaIndex: 1, MetaOver: 1}
	return s, append([]byte("SCANTLIN"), u32(1, 7, 5, 128, 1000, blocks, 1, blocks-1, 1, 1, 1, 1)...)
}

// leafWidth returns the number of bytes of each Val of a leaf of the tree.
func leafWidth(tree int) int {
	return []int{0, 4, 8, 24, 16, 4}[tree]
}

// nodeOf returns a node of the tree with those keys, and its payload, whether
// the keys are valid or not.
func nodeOf(tree int, leaf bool, keys ...int) (api.Node, []byte) {
	n := api.Node{Tree: tree, Leaf: leaf, Keys: keys}
	width, first := 4, byte(0)
	if leaf {
		width, first = leafWidth(tree), 1
	}
	most := map[int]int{4: 18, 8: 12, 16: 9, 24: 6}[width]
	b := append([]byte{first, byte(tree), byte(len(keys)), 0, byte(width), 0, byte(most), 0}, 0, 0, 0, 0)
	for _, key := range keys {
		b = binary.LittleEndian.AppendUint64(b, uint64(key))
	}
	b = append(b, make([]byte, 8*(most-len(keys)))...)
	for i := range keys {
		v := bytes.Repeat([]byte{byte(tree), byte(0xf1 + i)}, width/2)
		n.Vals = append(n.Vals, string(v))
		b = append(b, v...)
	}
	return n, padded(b)
}

// someBits returns counts and their payload.
func someBits() ([]int, []byte) {
	return []int{1, 2, 3, 0, 1}, []byte{5, 0, 0, 0, 0x39, 1}
}

// someSlots returns slots and their payload.
func someSlots() ([]api.Slot, []byte) {
	return []api.Slot{{Block: 7, Free: 960, First: 0}, {Block: 300, Free: 2, First: 5}}, u32(2, 7, 0, 960, 0, 300, 0, 2, 5)
}

// payloads returns a payload of each kind, by its kind.
func payloads() [][]byte {
	_, s := superblock(4)
	_, n := nodeOf(2, true, 3, 9)
	_, b := someBits()
	_, x := someSlots()
	return [][]byte{nil, s, n, b, x}
}

// reading is a function that reads a block of a kind, with its result. Super
// reads block 0, whatever no is.
type reading struct {
	name string
	kind int
	call func(m *image.Image, no int) (any, error)
}

// readings returns the reading functions in the order of their kinds.
func readings() []reading {
	return []reading{
		{"Super", 1, func(m *image.Image, _ int) (any, error) { return block.Super(m) }},
		{"Node", 2, func(m *image.Image, no int) (any, error) { return block.Node(m, no, 0) }},
		{"Bits", 3, func(m *image.Image, no int) (any, error) { return block.Bits(m, no) }},
		{"Index", 4, func(m *image.Image, no int) (any, error) { return block.Index(m, no) }},
	}
}

// empty reports whether a result is zero: an empty slice is as good as nil.
func empty(x any) bool {
	v := reflect.ValueOf(x)
	return v.IsZero() || v.Kind() == reflect.Slice && v.Len() == 0
}

// at checks that an error is what is wrong with a block, and that alone.
func at(t *testing.T, what string, err error, no int, want api.Errno) {
	t.Helper()
	f, ok := err.(*api.Fault)
	if !ok || f == nil || f.Block != no || f.Err == nil || f.Err != error(want) {
		t.Fatalf("%s: %#v, not %v at block %d", what, err, want, no)
	}
	if !errors.Is(err, want) || fault.Code(err) != want || !slices.Equal(fault.Blocks(err), []int{no}) {
		t.Fatalf("%s: %v, at %v", what, fault.Code(err), fault.Blocks(err))
	}
}

// refuses checks that a function reads nothing of block no but an error.
func refuses(t *testing.T, r reading, m *image.Image, no int, want api.Errno) {
	t.Helper()
	x, err := r.call(m, no)
	if r.kind == api.SuperKind {
		no = 0
	}
	at(t, r.name, err, no, want)
	if !empty(x) {
		t.Fatalf("%s: %v, with %v", r.name, x, err)
	}
}

// of returns an image of n blocks, all of zeros but those that are given.
func of(n int, at map[int][]byte) *image.Image {
	b := make([]byte, 256*n)
	for no, x := range at {
		copy(b[256*no:256*(no+1)], x)
	}
	return image.Of(b)
}

// The chapter's example.
func TestExample(t *testing.T) {
	m, _ := image.New(9)
	n, err := block.Node(m, 9, 0)
	if err == nil || err.Error() != "block 9: error 3" || fault.Text(err) != "block 9: error 3" || !empty(n) {
		t.Errorf("%v, %v", n, err)
	}
	at(t, "example", err, 9, api.ErrEnd)
}

// P11.1: Super returns the superblock of block 0, which may claim as many
// blocks as the image has, or fewer.
func TestSuper(t *testing.T) {
	for _, size := range []int{1, 2, 3, 4, 64, 255, 256, 257, 14399, 14400} {
		m, _ := image.New(size)
		for _, blocks := range []int{2, 3, 4, 5, 63, 64, 65, 255, 256, 257, 258, 14398, 14399, 14400} {
			want, in := superblock(blocks)
			if e := m.Write(0, sealed(1, 0, in)); e != api.OK {
				t.Fatal(e)
			}
			s, err := block.Super(m)
			if blocks > size {
				at(t, "too many blocks", err, 0, api.ErrRange)
				if s != (api.Super{}) {
					t.Fatalf("%d of %d: %v", blocks, size, s)
				}
			} else if err != nil || s != want {
				t.Fatalf("%d of %d: %v, %v, not %v", blocks, size, s, err, want)
			}
		}
	}
}

// P11.1: a superblock that is not valid is told before the number of its blocks.
func TestSuperForm(t *testing.T) {
	_, in := superblock(9)
	for _, size := range []int{1, 8, 9, 10} {
		wrong := func(at, n int) {
			t.Helper()
			b := padded(in)
			copy(b[at:], u32(n))
			refuses(t, readings()[0], of(size, map[int][]byte{0: sealed(1, 0, b)}), 0, api.ErrForm)
		}
		wrong(0, 0)     // in the string that an encoding begins with
		wrong(8, 2)     // version
		wrong(12, -1)   // Tx
		wrong(16, -1)   // Time
		wrong(20, 0)    // Unit
		wrong(24, -1)   // Data
		wrong(28, 1)    // Blocks
		wrong(28, 5)    // fewer than Details needs
		wrong(28, -1)   // more than an image may have
		wrong(240, 256) // in the zeros
		for root := 32; root < 56; root += 4 {
			wrong(root, 0)
			wrong(root, 9)
		}
	}
}

// P11.1: Node returns the nodes of every tree, for the tree 0 and their own.
func TestNode(t *testing.T) {
	for tree := 1; tree <= 5; tree++ {
		for _, leaf := range []bool{true, false} {
			for _, keys := range [][]int{{0}, {3, 9}, {5, 256, 1 << 40, 1<<48 - 1}} {
				for _, no := range []int{0, 1, 7, 300} {
					want, in := nodeOf(tree, leaf, keys...)
					m := of(301, map[int][]byte{no: sealed(2, no, in)})
					for _, asked := range []int{0, tree} {
						if n, err := block.Node(m, no, asked); err != nil || !reflect.DeepEqual(n, want) {
							t.Fatalf("block %d, tree %d: %v, %v, not %v", no, asked, n, err, want)
						}
					}
				}
			}
		}
		_, in := nodeOf(tree, true)
		m := of(2, map[int][]byte{1: sealed(2, 1, in)})
		n, err := block.Node(m, 1, tree)
		if err != nil || n.Tree != tree || !n.Leaf || len(n.Keys) != 0 || len(n.Vals) != 0 {
			t.Fatalf("empty leaf of tree %d: %v, %v", tree, n, err)
		}
	}
}

// P11.1: a node of another tree, and trees that do not exist.
func TestNodeTree(t *testing.T) {
	wrong := []int{-1, -2, -5, 6, 7, 255, 256, 257, 258, 261, 1<<16 + 1, 1<<32 + 1, 1 << 32, -1 << 32, math.MaxInt, math.MinInt, math.MinInt + 1}
	for tree := 1; tree <= 5; tree++ {
		for _, leaf := range []bool{true, false} {
			_, in := nodeOf(tree, leaf, 3, 9)
			m := of(9, map[int][]byte{8: sealed(2, 8, in)})
			for _, asked := range append(wrong, 1, 2, 3, 4, 5) {
				if asked == tree {
					continue
				}
				n, err := block.Node(m, 8, asked)
				at(t, "another tree", err, 8, api.ErrKind)
				if !empty(n) {
					t.Fatalf("tree %d, not %d: %v", tree, asked, n)
				}
			}
		}
	}
}

// P11.1: all other errors of a node are told before that of its tree.
func TestNodeTreeLast(t *testing.T) {
	_, in := nodeOf(2, true, 3, 9)
	_, falling := nodeOf(2, true, 9, 3)
	_, large := nodeOf(2, true, 3, 1<<48)
	form := bytes.Clone(in)
	form[243] = 1
	for _, x := range []struct {
		b    []byte
		want api.Errno
	}{
		{make([]byte, 256), api.ErrSum},
		{sealed(1, 5, in), api.ErrSum},
		{sealed(2, 6, in), api.ErrNumber},
		{forged(2, 5, 1, 0, in), api.ErrKind},
		{forged(2, 5, 2, 1, in), api.ErrForm},
		{sealed(2, 5, form), api.ErrForm},
		{sealed(2, 5, falling), api.ErrOrder},
		{sealed(2, 5, large), api.ErrRange},
		{sealed(2, 5, in), api.ErrKind},
	} {
		m := of(7, map[int][]byte{5: x.b})
		for _, tree := range []int{1, 3, 6, -1} {
			n, err := block.Node(m, 5, tree)
			at(t, "tree last", err, 5, x.want)
			if !empty(n) {
				t.Fatalf("%v with %v", n, err)
			}
		}
	}
	m, _ := image.New(7)
	_, err := block.Node(m, 7, -1)
	at(t, "tree last", err, 7, api.ErrEnd)
	_, err = block.Node(nil, 7, -1)
	at(t, "tree last", err, 7, api.ErrNone)
}

// P11.1: Bits returns the counts of every block.
func TestBits(t *testing.T) {
	r := source()
	for _, size := range []int{0, 1, 4, 5, 959, 960} {
		l, in := make([]int, size), append(u32(size), make([]byte, 240)...)
		for i := range l {
			l[i] = r.IntN(4)
			in[4+i/4] |= byte(l[i] << (2 * (i % 4)))
		}
		for _, no := range []int{0, 1, 256, 299} {
			m := of(300, map[int][]byte{no: sealed(3, no, in)})
			if out, err := block.Bits(m, no); err != nil || !slices.Equal(out, l) {
				t.Fatalf("block %d: %v, %v, not %v", no, out, err, l)
			}
		}
	}
}

// P11.1: Index returns the slots of every block.
func TestIndex(t *testing.T) {
	r := source()
	for size := range 16 {
		var l []api.Slot
		in := u32(size)
		for range size {
			x := api.Slot{Block: 1 + r.IntN(14399), Free: r.IntN(961), First: r.IntN(961)}
			l, in = append(l, x), append(in, u32(x.Block, 0, x.Free, x.First)...)
		}
		for _, no := range []int{0, 1, 256, 299} {
			m := of(300, map[int][]byte{no: sealed(4, no, in)})
			if out, err := block.Index(m, no); err != nil || !slices.Equal(out, l) {
				t.Fatalf("block %d: %v, %v, not %v", no, out, err, l)
			}
		}
	}
}

// noBlocks returns numbers of blocks that an image of that many blocks does not
// have; the lowest 8, 16 or 32 bits of some of them are one that it has.
func noBlocks(size int) []int {
	return []int{-1, -2, -256, size, size + 1, 14400, 14401, 1 << 16, 1 << 24, 1 << 32, 1<<32 + 1, -1 << 32, math.MaxInt, math.MinInt, math.MinInt + 1}
}

// P11.1: blocks that are not there.
func TestNoBlock(t *testing.T) {
	for _, r := range readings() {
		for _, size := range []int{0, 1, 2, 9} {
			m, _ := image.New(size)
			if r.kind == api.SuperKind {
				if size == 0 {
					refuses(t, r, m, 0, api.ErrEnd)
				}
				continue
			}
			for _, no := range noBlocks(size) {
				refuses(t, r, m, no, api.ErrEnd)
			}
		}
		b := sealed(r.kind, 0, payloads()[r.kind])
		m := image.Of(append(bytes.Repeat(b, 4), b[:255]...))
		if r.kind != api.SuperKind {
			refuses(t, r, m, 4, api.ErrEnd)
		}
		other := *m // not an image that image returned
		refuses(t, r, &other, 0, api.ErrEnd)
		refuses(t, r, &image.Image{}, 0, api.ErrEnd)
		for _, no := range append(noBlocks(1), 0, 1) {
			refuses(t, r, nil, no, api.ErrNone)
		}
	}
}

// P11.1: blocks that are no sealed blocks of the kind and the number. What is
// wrong with a block is told before what is wrong with its payload.
func TestNotSealed(t *testing.T) {
	for _, r := range readings() {
		no := 3
		if r.kind == api.SuperKind {
			no = 0
		}
		for _, in := range [][]byte{payloads()[r.kind], nil, bytes.Repeat([]byte{0xff}, 244)} {
			for _, x := range []struct {
				b    []byte
				want api.Errno
			}{
				{make([]byte, 256), api.ErrSum},
				{bytes.Repeat([]byte{0xff}, 256), api.ErrSum},
				{forged(r.kind%4+1, uint32(no), uint16(r.kind), 0, in), api.ErrSum},
				{forged(r.kind%4+1, 9, 9, 9, in), api.ErrSum},
				{forged(r.kind, uint32(no)+1, uint16(r.kind), 0, in), api.ErrNumber},
				{forged(r.kind, uint32(no)+256, uint16(r.kind), 0, in), api.ErrNumber},
				{forged(r.kind, uint32(no)+1<<16, 9, 9, in), api.ErrNumber},
				{forged(r.kind, uint32(no), 0, 0, in), api.ErrKind},
				{forged(r.kind, uint32(no), uint16(r.kind)%4+1, 0, in), api.ErrKind},
				{forged(r.kind, uint32(no), uint16(r.kind)+256, 9, in), api.ErrKind},
				{forged(r.kind, uint32(no), uint16(r.kind), 1, in), api.ErrForm},
				{forged(r.kind, uint32(no), uint16(r.kind), 256, in), api.ErrForm},
			} {
				refuses(t, r, of(5, map[int][]byte{no: x.b}), no, x.want)
			}
		}
	}
}

// P11.1: each bit of a block, flipped alone, is told as damage.
func TestEachBit(t *testing.T) {
	for _, r := range readings() {
		no := 3
		if r.kind == api.SuperKind {
			no = 0
		}
		b := sealed(r.kind, no, payloads()[r.kind])
		for bit := range 8 * 256 {
			b[bit/8] ^= 1 << (bit % 8)
			refuses(t, r, of(4, map[int][]byte{no: b}), no, api.ErrSum)
			b[bit/8] ^= 1 << (bit % 8)
		}
		if _, err := r.call(of(4, map[int][]byte{no: b}), no); err != nil {
			t.Fatalf("%s: %v", r.name, err)
		}
	}
}

// P11.1: sealed blocks whose payloads are none of the kind.
func TestPayloads(t *testing.T) {
	_, sup := superblock(4)
	_, node := nodeOf(2, true, 3, 9)
	_, falling := nodeOf(2, true, 3, 9, 9)
	_, large := nodeOf(5, true, 1<<48)
	_, both := nodeOf(1, false, 3, 2, 1<<48)
	_, reverse := nodeOf(1, false, 3, 1<<48, 2)
	_, counts := someBits()
	_, index := someSlots()
	for _, x := range []struct {
		kind int
		in   []byte
		want api.Errno
	}{
		{1, nil, api.ErrForm},
		{1, node, api.ErrForm},
		{1, counts, api.ErrForm},
		{1, index, api.ErrForm},
		{1, sup[1:], api.ErrForm},
		{1, append(bytes.Clone(sup), 1), api.ErrForm},
		{2, nil, api.ErrForm},
		{2, sup, api.ErrForm},
		{2, append([]byte{2}, node[1:]...), api.ErrForm},
		{2, append([]byte{1, 6}, node[2:]...), api.ErrForm},
		{2, append([]byte{1, 0}, node[2:]...), api.ErrForm},
		{2, append([]byte{0}, node[1:]...), api.ErrForm},
		{2, append([]byte{1, 2, 13}, node[3:]...), api.ErrForm},
		{2, falling, api.ErrOrder},
		{2, large, api.ErrRange},
		{2, both, api.ErrOrder},
		{2, reverse, api.ErrRange},
		{3, sup, api.ErrForm},
		{3, node, api.ErrForm},
		{3, u32(961), api.ErrForm},
		{3, append([]byte{4}, counts[1:]...), api.ErrForm},
		{3, append([]byte{0}, counts[1:]...), api.ErrForm},
		{4, sup, api.ErrForm},
		{4, node, api.ErrForm},
		{4, u32(16), api.ErrForm},
		{4, u32(1, 5, 0, 961, 0, 1), api.ErrForm},
		{4, u32(1, 5, 0, 961, 0), api.ErrRange},
		{4, u32(1, 0, 0, 3, 4), api.ErrRange},
		{4, u32(1, 14400, 0, 3, 4), api.ErrRange},
		{4, u32(1, 5, 1, 3, 4), api.ErrRange},
		{4, u32(2, 5, 0, 3, 4), api.ErrRange},
	} {
		r := readings()[x.kind-1]
		for _, no := range []int{0, 1, 3} {
			if x.kind == api.SuperKind {
				no = 0
			}
			refuses(t, r, of(4, map[int][]byte{no: sealed(x.kind, no, x.in)}), no, x.want)
		}
	}
}

// P11.2: what Write writes, of every kind, number and length of the payload,
// whether the payload is one of the kind or not.
func TestWrite(t *testing.T) {
	r := source()
	long := make([]byte, 244)
	for i := range long {
		long[i] = byte(1 + r.IntN(255))
	}
	for kind := 1; kind <= 4; kind++ {
		for _, size := range []int{1, 2, 9, 300, 14400} {
			m, _ := image.New(size)
			for _, no := range []int{0, 1, 7, 255, 256, 299, 14399} {
				if no >= size {
					continue
				}
				for _, in := range [][]byte{nil, {}, {0}, long[:1], long[:100], long[:243], long, make([]byte, 244), payloads()[kind]} {
					want := m.Bytes()
					copy(want[256*no:], sealed(kind, no, in))
					if err := block.Write(m, no, kind, in); err != nil || !bytes.Equal(m.Bytes(), want) {
						t.Fatalf("kind %d, block %d of %d, %x: %v", kind, no, size, in, err)
					}
				}
			}
		}
	}
	m, _ := image.New(3)
	for n := range 245 {
		if err := block.Write(m, 2, 3, long[:n]); err != nil {
			t.Fatalf("%d bytes: %v", n, err)
		}
		if b, _ := m.Read(2); !bytes.Equal(b, sealed(3, 2, long[:n])) {
			t.Fatalf("%d bytes: %x", n, b)
		}
	}
}

// keeps checks that Write returns an error, and that it changes nothing.
func keeps(t *testing.T, m *image.Image, no, kind int, in []byte, want api.Errno) {
	t.Helper()
	before := m.Bytes()
	at(t, "Write", block.Write(m, no, kind, in), no, want)
	if !bytes.Equal(m.Bytes(), before) {
		t.Fatalf("block %d, kind %d, %d bytes: the image changed", no, kind, len(in))
	}
}

// P11.2: what Write does not write. The error of sealing is told before that of
// writing, and of the former that of the kind and the number first.
func TestWriteWrong(t *testing.T) {
	full := image.Of(bytes.Repeat(sealed(2, 7, payloads()[2]), 9))
	none, _ := image.New(0)
	copied := *full
	absent := []int{-1, -2, -256, 14400, 14401, 1 << 16, 1 << 32, 1<<32 + 7, -1 << 32, math.MaxInt, math.MinInt, math.MinInt + 7}
	kinds := []int{0, -1, -2, 5, 6, 255, 257, 258, 1<<16 + 2, 1<<32 + 2, math.MaxInt, math.MinInt, math.MinInt + 2}
	for _, m := range []*image.Image{full, none, {}, &copied, nil} {
		for _, size := range []int{0, 5, 244, 245, 256, 1 << 16} {
			in := bytes.Repeat([]byte{0xa5}, size)
			for kind := 1; kind <= 4; kind++ {
				for _, no := range absent {
					keeps(t, m, no, kind, in, api.ErrArg)
				}
			}
			for _, kind := range kinds {
				for _, no := range []int{-1, 0, 7, 8, 9, 14399, 14400} {
					keeps(t, m, no, kind, in, api.ErrArg)
				}
			}
		}
		for kind := 1; kind <= 4; kind++ {
			for _, no := range []int{0, 7, 8, 9, 14399} {
				for _, size := range []int{245, 246, 256, 300, 1 << 16} {
					keeps(t, m, no, kind, make([]byte, size), api.ErrRange)
				}
			}
			for _, no := range []int{9, 10, 256, 14399} {
				for _, size := range []int{0, 5, 244} {
					want := api.ErrEnd
					if m == nil {
						want = api.ErrNone
					}
					keeps(t, m, no, kind, make([]byte, size), want)
				}
			}
		}
	}
	for _, m := range []*image.Image{none, {}, &copied} {
		keeps(t, m, 0, 1, nil, api.ErrEnd)
	}
	keeps(t, nil, 0, 1, nil, api.ErrNone)
}

// P11.3: a payload is read back under its own kind and number.
func TestRoundTrip(t *testing.T) {
	m, _ := image.New(14400)
	s, in := superblock(14400)
	if err := block.Write(m, 0, api.SuperKind, in); err != nil {
		t.Fatal(err)
	}
	n, nodeIn := nodeOf(4, true, 1, 2, 70000)
	l, bitsIn := someBits()
	x, indexIn := someSlots()
	for no := 1; no+2 < 14400; no += 3 {
		for i, in := range [][]byte{nodeIn, bitsIn, indexIn} {
			if err := block.Write(m, no+i, 2+i, in); err != nil {
				t.Fatal(err)
			}
		}
	}
	if out, err := block.Super(m); err != nil || out != s {
		t.Fatalf("%v, %v", out, err)
	}
	for no := 1; no+2 < 14400; no += 3 {
		if out, err := block.Node(m, no, 4); err != nil || !reflect.DeepEqual(out, n) {
			t.Fatalf("%d: %v, %v", no, out, err)
		}
		if out, err := block.Bits(m, no+1); err != nil || !slices.Equal(out, l) {
			t.Fatalf("%d: %v, %v", no+1, out, err)
		}
		if out, err := block.Index(m, no+2); err != nil || !slices.Equal(out, x) {
			t.Fatalf("%d: %v, %v", no+2, out, err)
		}
	}
}

// P11.3: no block is read under another kind, or under another number.
func TestOwnOnly(t *testing.T) {
	for kind := 1; kind <= 4; kind++ {
		for no := range 4 {
			m, _ := image.New(4)
			if err := block.Write(m, no, kind, payloads()[kind]); err != nil {
				t.Fatal(err)
			}
			for _, r := range readings() {
				if r.kind == kind && (kind != api.SuperKind || no == 0) {
					if x, err := r.call(m, no); err != nil || empty(x) {
						t.Fatalf("%s of block %d: %v, %v", r.name, no, x, err)
					}
				} else {
					refuses(t, r, m, no, api.ErrSum)
				}
			}
			b, _ := m.Read(no)
			for other := range 4 {
				if other == no {
					continue
				}
				moved := of(4, map[int][]byte{other: b})
				for _, r := range readings() {
					if r.kind != kind || kind == api.SuperKind && other != 0 {
						refuses(t, r, moved, other, api.ErrSum)
					} else {
						refuses(t, r, moved, other, api.ErrNumber)
					}
				}
			}
		}
	}
}

// P11.3: payloads that one kind's encodings share with another's are read under
// the kind that they were written with.
func TestZeros(t *testing.T) {
	for kind := 1; kind <= 4; kind++ {
		m, _ := image.New(2)
		if err := block.Write(m, 1, kind, nil); err != nil {
			t.Fatal(err)
		}
		l, err := block.Bits(m, 1)
		if kind != api.BitsKind {
			at(t, "Bits", err, 1, api.ErrSum)
		} else if err != nil || len(l) != 0 {
			t.Fatalf("%v, %v", l, err)
		}
		x, err := block.Index(m, 1)
		if kind != api.IndexKind {
			at(t, "Index", err, 1, api.ErrSum)
		} else if err != nil || len(x) != 0 {
			t.Fatalf("%v, %v", x, err)
		}
	}
}

// Reading leaves the image, and what is read is the caller's own.
func TestResultsAreNew(t *testing.T) {
	n, nodeIn := nodeOf(1, false, 3, 9)
	l, bitsIn := someBits()
	x, indexIn := someSlots()
	m := of(4, map[int][]byte{1: sealed(2, 1, nodeIn), 2: sealed(3, 2, bitsIn), 3: sealed(4, 3, indexIn)})
	before := m.Bytes()
	n1, _ := block.Node(m, 1, 0)
	n2, _ := block.Node(m, 1, 0)
	l1, _ := block.Bits(m, 2)
	l2, _ := block.Bits(m, 2)
	x1, _ := block.Index(m, 3)
	x2, _ := block.Index(m, 3)
	clear(n1.Keys[:cap(n1.Keys)])
	clear(n1.Vals[:cap(n1.Vals)])
	clear(l1[:cap(l1)])
	clear(x1[:cap(x1)])
	if !bytes.Equal(m.Bytes(), before) {
		t.Error("the image changed")
	}
	for no := range 4 {
		m.Write(no, make([]byte, 256))
	}
	if !reflect.DeepEqual(n2, n) || !slices.Equal(l2, l) || !slices.Equal(x2, x) {
		t.Errorf("%v, %v, %v", n2, l2, x2)
	}
}

// Write leaves the payload and the bytes behind it, and keeps neither.
func TestPayloadStays(t *testing.T) {
	whole := bytes.Repeat([]byte{0xa5}, 400)
	m, _ := image.New(4)
	for _, size := range []int{0, 9, 244, 245} {
		block.Write(m, 2, 3, whole[:size])
		block.Write(m, 4, 3, whole[:size])
		block.Write(nil, 2, 3, whole[:size])
	}
	if !bytes.Equal(whole, bytes.Repeat([]byte{0xa5}, 400)) {
		t.Fatalf("%x", whole)
	}
	block.Write(m, 2, 3, whole[:9])
	clear(whole)
	if b, _ := m.Read(2); !bytes.Equal(b, sealed(3, 2, bytes.Repeat([]byte{0xa5}, 9))) {
		t.Errorf("%x", b)
	}
}

// One call counts for the next one only by what Write wrote.
func TestAgain(t *testing.T) {
	n, nodeIn := nodeOf(2, true, 3, 9)
	l, bitsIn := someBits()
	m, _ := image.New(3)
	for range 3 {
		if err := block.Write(m, 2, api.NodeKind, nodeIn); err != nil {
			t.Fatal(err)
		}
		keeps(t, m, 2, 9, bitsIn, api.ErrArg)
		if out, err := block.Node(m, 2, 2); err != nil || !reflect.DeepEqual(out, n) {
			t.Fatalf("%v, %v", out, err)
		}
		refuses(t, readings()[2], m, 2, api.ErrSum)
		if err := block.Write(m, 2, api.BitsKind, bitsIn); err != nil {
			t.Fatal(err)
		}
		keeps(t, m, 3, 3, bitsIn, api.ErrEnd)
		if out, err := block.Bits(m, 2); err != nil || !slices.Equal(out, l) {
			t.Fatalf("%v, %v", out, err)
		}
		refuses(t, readings()[1], m, 2, api.ErrSum)
	}
}
