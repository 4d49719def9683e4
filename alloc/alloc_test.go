package alloc_test

import (
	"bytes"
	"math"
	"math/rand/v2"
	"slices"
	"testing"

	"scantling/alloc"
	"scantling/api"
	"scantling/block"
	"scantling/fault"
	"scantling/image"
	"scantling/seal"
)

// source returns a random source that is the same in each run.
func source() *rand.Rand {
	return rand.New(rand.NewPCG(16, 14400))
}

// blocks returns an image of n blocks, no two of which are alike.
func blocks(n int) *image.Image {
	b := make([]byte, n*256)
	for i := range b {
		b[i] = byte(i/256) ^ byte(i>>16) ^ byte(7*i)
	}
	return image.Of(b)
}

// rising returns the numbers from low on, below high.
func rising(low, high int) []int {
	var l []int
	for no := low; no < high; no++ {
		l = append(l, no)
	}
	return l
}

// outside returns numbers of blocks that an image of n blocks does not have, or
// that are never allocated; the lowest 8, 16 or 32 bits of some of them are a
// block.
func outside(n int) []int {
	return []int{0, -1, -2, -n, -255, -1<<16 + 1, -1<<32 + 1, n, n + 1, n + 256, 1 << 16, 1<<16 + 1, 1 << 32, 1<<32 + 1, 1<<32 + n - 1, math.MaxInt - 1, math.MaxInt, math.MinInt, math.MinInt + 1}
}

// all returns New's allocator of the blocks from block from on.
func all(t *testing.T, m *image.Image, from int) *alloc.Alloc {
	t.Helper()
	a, err := alloc.New(m, from)
	if a == nil || err != nil {
		t.Fatalf("New of %d blocks from %d on: %v, %v", m.Blocks(), from, a, err)
	}
	return a
}

// some returns From's allocator of the blocks in l.
func some(t *testing.T, m *image.Image, l ...int) *alloc.Alloc {
	t.Helper()
	a, err := alloc.From(m, l)
	if a == nil || err != nil {
		t.Fatalf("From of %d blocks, %v: %v, %v", m.Blocks(), l, a, err)
	}
	return a
}

// is checks that an error is one number, which nothing wraps.
func is(t *testing.T, what string, err error, want api.Errno) {
	t.Helper()
	if err == nil || err != error(want) {
		t.Fatalf("%s: %v, not %v", what, err, want)
	}
}

// at checks that an error is what is wrong with a block, and that alone.
func at(t *testing.T, what string, err error, no int, want api.Errno) {
	t.Helper()
	f, ok := err.(*api.Fault)
	if !ok || f == nil || f.Block != no || f.Err == nil || f.Err != error(want) {
		t.Fatalf("%s: %v, not %v at block %d", what, err, want, no)
	}
}

// holds checks that an allocator of the blocks of m has the blocks in rest left,
// and has allocated used of them, as each of its methods that allocate nothing
// tells.
func holds(t *testing.T, what string, a *alloc.Alloc, m *image.Image, used int, rest ...int) {
	t.Helper()
	if a.Image() != m {
		t.Fatalf("%s: another image", what)
	}
	if n := a.Left(); n != len(rest) {
		t.Fatalf("%s: %d left, not %d", what, n, len(rest))
	}
	if n := a.Used(); n != used {
		t.Fatalf("%s: %d used, not %d", what, n, used)
	}
	n := len(rest)
	for _, k := range []int{math.MinInt, -1 << 32, 1 - 1<<32, -n, -2, -1, 0} {
		if l := a.Ahead(k); len(l) != 0 {
			t.Fatalf("%s: %v are the next %d", what, l, k)
		}
	}
	for _, k := range []int{1, 2, 3, n / 2, n - 1, n, n + 1, 2 * n, 255, 256, 14400, 1 << 16, 1 << 32, 1<<32 + 1, math.MaxInt - 1, math.MaxInt} {
		want := rest[:max(0, min(k, n))]
		if l := a.Ahead(k); !slices.Equal(l, want) {
			t.Fatalf("%s: %v are the next %d, not %v", what, l, k, want)
		}
	}
}

// drains checks that an allocator hands out the blocks in rest, one by one, and
// then no more.
func drains(t *testing.T, what string, a *alloc.Alloc, m *image.Image, used int, rest ...int) {
	t.Helper()
	holds(t, what, a, m, used, rest...)
	for i, want := range rest {
		no, err := a.Next()
		if no != want || err != nil {
			t.Fatalf("%s: Next is %d, %v, not %d", what, no, err, want)
		}
		if len(rest) < 300 || i%1000 == 0 {
			holds(t, what, a, m, used+i+1, rest[i+1:]...)
		}
	}
	for range 3 {
		no, err := a.Next()
		is(t, what, err, api.ErrNoSpace)
		if no != 0 {
			t.Fatalf("%s: Next is %d, with %v", what, no, err)
		}
		holds(t, what, a, m, used+len(rest))
	}
}

// The chapter's example.
func TestExample(t *testing.T) {
	m := blocks(3)
	a := all(t, m, 1)
	for _, want := range []int{1, 2} {
		if no, err := a.Next(); no != want || err != nil {
			t.Errorf("%d, %v, not %d", no, err, want)
		}
	}
	no, err := a.Next()
	is(t, "example", err, api.ErrNoSpace)
	if no != 0 {
		t.Errorf("%d, with %v", no, err)
	}
}

// P16.1, P16.2, P16.3: New's allocators hand out all blocks from one on, up to
// the last one of the image; from its end on, there are none.
func TestNew(t *testing.T) {
	for _, n := range []int{1, 2, 3, 4, 9, 60} {
		m := blocks(n)
		for from := 1; from <= n; from++ {
			drains(t, "New", all(t, m, from), m, 0, rising(from, n)...)
		}
	}
	for _, n := range []int{255, 256, 257, 14399, 14400} {
		m := blocks(n)
		for _, from := range []int{1, 2, 255, n - 2, n - 1, n} {
			drains(t, "New of many", all(t, m, from), m, 0, rising(from, n)...)
		}
	}
}

// P16.1: New's wrong arguments: no image, block 0 and below, and what is beyond
// the end of the image.
func TestNewWrong(t *testing.T) {
	refuses := func(m *image.Image, from int) {
		t.Helper()
		a, err := alloc.New(m, from)
		is(t, "New", err, api.ErrArg)
		if a != nil {
			t.Fatalf("New from %d on: an allocator, with %v", from, err)
		}
	}
	for _, from := range append(outside(8), 1, 2, 7, 8, 9) {
		refuses(nil, from)
		refuses(blocks(0), from)
		refuses(new(image.Image), from)
	}
	for _, n := range []int{1, 2, 3, 8, 256, 14400} {
		m := blocks(n)
		for _, from := range outside(n) {
			if from != n {
				refuses(m, from)
			}
		}
	}
}

// P16.1, P16.2, P16.3: From's allocators hand out the blocks of a list, which
// may be empty.
func TestFrom(t *testing.T) {
	for _, n := range []int{1, 2, 3, 9, 256, 14400} {
		m := blocks(n)
		drains(t, "From nothing", some(t, m), m, 0)
		drains(t, "From an empty list", some(t, m, []int{}...), m, 0)
		drains(t, "From all", some(t, m, rising(1, n)...), m, 0, rising(1, n)...)
		if n > 1 {
			drains(t, "From the first", some(t, m, 1), m, 0, 1)
			drains(t, "From the last", some(t, m, n-1), m, 0, n-1)
		}
		if n > 2 {
			drains(t, "From the ends", some(t, m, 1, n-1), m, 0, 1, n-1)
		}
	}
	m := blocks(300)
	drains(t, "From some", some(t, m, 2, 3, 17, 255, 256, 298), m, 0, 2, 3, 17, 255, 256, 298)
	for _, none := range []*image.Image{blocks(0), new(image.Image)} {
		drains(t, "From no blocks", some(t, none), none, 0)
	}
}

// P16.1: From's allocators of each set of the blocks of a small image.
func TestFromEach(t *testing.T) {
	const n = 9
	m := blocks(n)
	for set := range 1 << (n - 1) {
		var l []int
		for no := 1; no < n; no++ {
			if set>>(no-1)&1 == 1 {
				l = append(l, no)
			}
		}
		drains(t, "From", some(t, m, l...), m, 0, l...)
	}
}

// fromFails checks that From returns nothing but an error.
func fromFails(t *testing.T, m *image.Image, want api.Errno, l ...int) {
	t.Helper()
	a, err := alloc.From(m, l)
	is(t, "From", err, want)
	if a != nil {
		t.Fatalf("From %v: an allocator, with %v", l, err)
	}
}

// P16.1: From's wrong arguments: no image, and blocks that the image does not
// have or that are never allocated, wherever in the list they are, also if it
// does not rise.
func TestFromWrong(t *testing.T) {
	for _, l := range [][]int{nil, {}, {1}, {1, 2}, {2, 1}, {1, 1}, {0}, {-1}, {1 << 32}} {
		fromFails(t, nil, api.ErrArg, l...)
		if len(l) > 0 {
			fromFails(t, blocks(0), api.ErrArg, l...)
			fromFails(t, blocks(1), api.ErrArg, l...)
			fromFails(t, new(image.Image), api.ErrArg, l...)
		}
	}
	for _, n := range []int{5, 8, 256, 14400} {
		m := blocks(n)
		for _, no := range outside(n) {
			fromFails(t, m, api.ErrArg, no)
			for i := range 4 {
				fromFails(t, m, api.ErrArg, slices.Insert([]int{1, 2, 4}, i, no)...)
				fromFails(t, m, api.ErrArg, slices.Insert([]int{3, 3, 1}, i, no)...)
			}
		}
	}
}

// P16.1: lists of blocks of the image that do not rise, or not strictly.
func TestFromOrder(t *testing.T) {
	m := blocks(8)
	for _, l := range [][]int{{1, 1}, {7, 7}, {2, 1}, {7, 1}, {1, 2, 2}, {1, 1, 2}, {1, 3, 2}, {2, 1, 3}, {3, 1, 2}, {3, 2, 1}, {1, 2, 1}, {1, 2, 3, 4, 5, 6, 7, 7}, {1, 2, 3, 4, 5, 7, 6}, {2, 1, 3, 4, 5, 6, 7}} {
		fromFails(t, m, api.ErrOrder, l...)
	}
	many := blocks(14400)
	l := rising(1, 14400)
	for _, i := range []int{1, 2, 255, 256, 7000, 14397, 14398} {
		wrong := slices.Clone(l)
		wrong[i] = wrong[i-1]
		fromFails(t, many, api.ErrOrder, wrong...)
		wrong = slices.Clone(l)
		wrong[i], wrong[i-1] = wrong[i-1], wrong[i]
		fromFails(t, many, api.ErrOrder, wrong...)
	}
	fromFails(t, many, api.ErrOrder, slices.Repeat([]int{1}, 20000)...)
}

// P16.1: From neither changes nor keeps its list, nor the memory behind it.
func TestFromList(t *testing.T) {
	m := blocks(9)
	whole := []int{8, 1, 3, 4, 7, 2, 5}
	before := slices.Clone(whole)
	a := some(t, m, whole[1:5]...)
	clear(whole)
	holds(t, "after a change of the list", a, m, 0, 1, 3, 4, 7)
	copy(whole, before)
	a = some(t, m, whole[1:5]...)
	for range 5 {
		a.Next()
		a.Ahead(2)
	}
	fromFails(t, m, api.ErrOrder, whole...)
	if !slices.Equal(whole, before) {
		t.Errorf("From's list has become %v", whole)
	}
}

// P16.2: only Lay writes to the image.
func TestNothingElseWritten(t *testing.T) {
	m := blocks(9)
	before := m.Bytes()
	drains(t, "New", all(t, m, 1), m, 0, rising(1, 9)...)
	drains(t, "From", some(t, m, 3, 5), m, 0, 3, 5)
	alloc.New(m, 10)
	fromFails(t, m, api.ErrArg, 9)
	fromFails(t, m, api.ErrOrder, 5, 5)
	if !bytes.Equal(m.Bytes(), before) {
		t.Error("the image is another one")
	}
}

// sealed returns the sealed block of a kind and number.
func sealed(t *testing.T, kind, no int, in []byte) []byte {
	t.Helper()
	b, e := seal.Seal(kind, no, in)
	if e != api.OK {
		t.Fatal(e)
	}
	return b
}

// P16.2: Lay writes the next block, of each kind and with payloads of each
// length, and no other one.
func TestLay(t *testing.T) {
	for kind := 1; kind <= 4; kind++ {
		m := blocks(400)
		a, want := all(t, m, 120), m.Bytes()
		for size := 0; size <= 244; size++ {
			in := bytes.Repeat([]byte{byte(255 - size)}, size)
			no, err := a.Lay(kind, in)
			if no != 120+size || err != nil {
				t.Fatalf("Lay of %d bytes: %d, %v", size, no, err)
			}
			copy(want[256*no:], sealed(t, kind, no, in))
			if !bytes.Equal(m.Bytes(), want) {
				t.Fatalf("Lay of %d bytes: another image", size)
			}
			holds(t, "Lay", a, m, size+1, rising(no+1, 400)...)
		}
	}
}

// P16.2: Lay and Next take blocks from the same list, in its order, up to its
// end.
func TestLayList(t *testing.T) {
	for turns := range 1 << 5 {
		m := blocks(20)
		l := []int{1, 4, 5, 11, 19}
		a, want := some(t, m, l...), m.Bytes()
		for i, block := range l {
			no, err := 0, error(nil)
			if turns>>i&1 == 1 {
				no, err = a.Lay(3, []byte{byte(i)})
				copy(want[256*block:], sealed(t, 3, block, []byte{byte(i)}))
			} else {
				no, err = a.Next()
			}
			if no != block || err != nil {
				t.Fatalf("%d, %v, not %d", no, err, block)
			}
			holds(t, "Lay and Next", a, m, i+1, l[i+1:]...)
		}
		drains(t, "Lay and Next", a, m, 5)
		if !bytes.Equal(m.Bytes(), want) {
			t.Fatal("another image")
		}
	}
}

// layFails checks that Lay returns nothing but an error, and that nothing has
// been written and nothing allocated. It returns the error.
func layFails(t *testing.T, a *alloc.Alloc, m *image.Image, kind int, in []byte) error {
	t.Helper()
	used, rest, before := a.Used(), a.Ahead(math.MaxInt), m.Bytes()
	no, err := a.Lay(kind, in)
	if no != 0 || err == nil {
		t.Fatalf("Lay of kind %d, %d bytes: %d, %v", kind, len(in), no, err)
	}
	if !bytes.Equal(m.Bytes(), before) {
		t.Fatalf("Lay of kind %d, %d bytes: written, with %v", kind, len(in), err)
	}
	holds(t, "Lay", a, m, used, rest...)
	return err
}

// noKinds are numbers of kinds that do not exist, such that the lowest 8, 16 or
// 32 bits of some of them are a kind.
var noKinds = []int{0, -1, -4, 5, 6, 255, 256, 257, 1<<16 + 2, 1<<32 + 3, -1<<32 + 4, math.MaxInt, math.MinInt, math.MinInt + 1}

// P16.2: what can't be written has the error of Write, at the next block, which
// is the next one still.
func TestLayWrong(t *testing.T) {
	m := blocks(9)
	l := []int{2, 3, 8}
	a := some(t, m, l...)
	for i, no := range l {
		for _, kind := range noKinds {
			for _, size := range []int{0, 1, 244, 245, 256, 5000} {
				at(t, "no kind", layFails(t, a, m, kind, make([]byte, size)), no, api.ErrArg)
			}
		}
		for kind := 1; kind <= 4; kind++ {
			for _, size := range []int{245, 246, 255, 256, 500, 1 << 16} {
				at(t, "too long", layFails(t, a, m, kind, make([]byte, size)), no, api.ErrRange)
			}
		}
		if got, err := a.Lay(2, []byte{7}); got != no || err != nil {
			t.Fatalf("after errors: %d, %v, not %d", got, err, no)
		}
		if b, e := m.Read(no); e != api.OK || !bytes.Equal(b, sealed(t, 2, no, []byte{7})) {
			t.Fatalf("block %d after errors: %x, %v", no, b, e)
		}
		holds(t, "after errors", a, m, i+1, l[i+1:]...)
	}
}

// P16.2: Lay has no space where Next has none, also for what can't be written.
func TestLayNoSpace(t *testing.T) {
	m := blocks(4)
	used := all(t, m, 1)
	for range 3 {
		used.Next()
	}
	for _, a := range []*alloc.Alloc{used, all(t, m, 4), some(t, m)} {
		for _, kind := range append([]int{1, 2, 3, 4}, noKinds...) {
			for _, size := range []int{0, 1, 244, 245, 5000} {
				is(t, "no space", layFails(t, a, m, kind, make([]byte, size)), api.ErrNoSpace)
			}
		}
	}
}

// P16.2: if the image has lost its blocks, Lay returns that error of Write, and
// does not allocate the block.
func TestLayLost(t *testing.T) {
	m := blocks(9)
	a := some(t, m, 4, 6)
	*m = image.Image{}
	for range 3 {
		at(t, "lost", layFails(t, a, m, 2, nil), 4, api.ErrEnd)
	}
	if no, err := a.Next(); no != 4 || err != nil {
		t.Fatalf("%d, %v", no, err)
	}
	at(t, "lost", layFails(t, a, m, 2, nil), 6, api.ErrEnd)
	at(t, "lost, and no kind", layFails(t, a, m, 9, nil), 6, api.ErrArg)
}

// P16.2: what Lay has written is read back as it was, and Lay neither changes
// nor keeps its bytes.
func TestLayBytes(t *testing.T) {
	m := blocks(9)
	a := all(t, m, 5)
	whole := bytes.Repeat([]byte{1, 0, 255}, 100)
	before := bytes.Clone(whole)
	no, err := a.Lay(4, whole[2:5])
	if no != 5 || err != nil || !bytes.Equal(whole, before) {
		t.Fatalf("%d, %v, and the bytes are %x", no, err, whole)
	}
	clear(whole)
	if b, _ := m.Read(5); !bytes.Equal(b, sealed(t, 4, 5, []byte{255, 1, 0})) {
		t.Errorf("block 5 after a change of the bytes: %x", b)
	}
	if no, err := a.Lay(3, []byte{5, 0, 0, 0, 0x39, 1}); no != 6 || err != nil {
		t.Fatalf("%d, %v", no, err)
	}
	if l, err := block.Bits(m, 6); err != nil || !slices.Equal(l, []int{1, 2, 3, 0, 1}) {
		t.Errorf("%v, %v", l, err)
	}
}

// P16.2, P16.3: calls in any order, held against a list of what is left.
func TestCalls(t *testing.T) {
	r := source()
	for range 400 {
		n := 1 + r.IntN(40)
		m := blocks(n)
		var rest []int
		for no := 1; no < n; no++ {
			if r.IntN(3) > 0 {
				rest = append(rest, no)
			}
		}
		a, want, used := some(t, m, rest...), m.Bytes(), 0
		for range n + 8 {
			no, err := 0, error(nil)
			kind, in := r.IntN(6), bytes.Repeat([]byte{byte(r.Uint32())}, r.IntN(300))
			laid := r.IntN(2) == 0
			if laid {
				no, err = a.Lay(kind, in)
			} else {
				no, err = a.Next()
			}
			switch {
			case len(rest) == 0:
				is(t, "calls", err, api.ErrNoSpace)
			case laid && (kind < 1 || kind > 4):
				at(t, "calls", err, rest[0], api.ErrArg)
			case laid && len(in) > 244:
				at(t, "calls", err, rest[0], api.ErrRange)
			case err != nil || no != rest[0]:
				t.Fatalf("calls: %d, %v, not %d", no, err, rest[0])
			default:
				if laid {
					copy(want[256*no:], sealed(t, kind, no, in))
				}
				used, rest = used+1, rest[1:]
			}
			if err != nil && no != 0 {
				t.Fatalf("calls: %d, with %v", no, err)
			}
			holds(t, "calls", a, m, used, rest...)
		}
		if !bytes.Equal(m.Bytes(), want) {
			t.Fatal("calls: another image")
		}
	}
}

// P16.3: what Ahead returns is the caller's own.
func TestAheadOwn(t *testing.T) {
	m := blocks(12)
	for _, a := range []*alloc.Alloc{all(t, m, 4), some(t, m, 4, 5, 6, 7, 8, 9, 10, 11)} {
		for _, n := range []int{1, 3, 8, 9} {
			l, other := a.Ahead(n), a.Ahead(n)
			want := slices.Clone(other)
			l = l[:cap(l)]
			for i := range l {
				l[i] = -1
			}
			if !slices.Equal(other, want) {
				t.Fatalf("a change of one result changes another to %v", other)
			}
			holds(t, "Ahead", a, m, 0, rising(4, 12)...)
		}
		l := a.Ahead(3)
		a.Next()
		if !slices.Equal(l, []int{4, 5, 6}) {
			t.Fatalf("Next changes the blocks that were ahead to %v", l)
		}
		drains(t, "Ahead", a, m, 1, rising(5, 12)...)
	}
}

// P16.3: Image returns the image itself: what is written to the one is written
// to the other.
func TestImage(t *testing.T) {
	m := blocks(5)
	for _, a := range []*alloc.Alloc{all(t, m, 1), all(t, m, 5), some(t, m, 2), some(t, m)} {
		if a.Image() != m {
			t.Fatal("another image")
		}
	}
	a := all(t, m, 3)
	b := bytes.Repeat([]byte{9}, 256)
	if e := a.Image().Write(3, b); e != api.OK {
		t.Fatal(e)
	}
	if got, _ := m.Read(3); !bytes.Equal(got, b) {
		t.Error("a write to Image is not one to the image")
	}
	holds(t, "after a write", a, m, 0, 3, 4)
	if no, err := a.Lay(2, nil); no != 3 || err != nil {
		t.Fatalf("%d, %v", no, err)
	}
	if got, _ := m.Read(3); !bytes.Equal(got, sealed(t, 2, 3, nil)) {
		t.Error("Lay does not write to the image")
	}
}

// P16.1: allocators do not know of each other, also those of the same image.
func TestApart(t *testing.T) {
	m, other := blocks(6), blocks(8)
	l := []int{2, 3, 5}
	a, b, c, d := all(t, m, 2), all(t, m, 2), some(t, m, l...), some(t, other, l...)
	a.Next()
	c.Lay(2, nil)
	c.Lay(2, nil)
	holds(t, "a", a, m, 1, 3, 4, 5)
	holds(t, "b", b, m, 0, 2, 3, 4, 5)
	holds(t, "c", c, m, 2, 5)
	holds(t, "d", d, other, 0, 2, 3, 5)
	if !bytes.Equal(other.Bytes(), blocks(8).Bytes()) {
		t.Error("Lay writes to the image of another allocator")
	}
	drains(t, "b", b, m, 0, 2, 3, 4, 5)
	holds(t, "a", a, m, 1, 3, 4, 5)
}

// none checks that an allocator has nothing.
func none(t *testing.T, what string, a *alloc.Alloc) {
	t.Helper()
	for range 2 {
		no, err := a.Next()
		is(t, what, err, api.ErrNone)
		if no != 0 {
			t.Fatalf("%s: Next is %d, with %v", what, no, err)
		}
		for _, kind := range append([]int{1, 2, 3, 4}, noKinds...) {
			for _, size := range []int{0, 1, 244, 245} {
				no, err := a.Lay(kind, make([]byte, size))
				is(t, what, err, api.ErrNone)
				if no != 0 {
					t.Fatalf("%s: Lay is %d, with %v", what, no, err)
				}
			}
		}
		holds(t, what, a, nil, 0)
	}
}

// P16.4: nil allocators, and those that neither New nor From returned, among
// them the ones assigned from one that they did; that one keeps its blocks.
func TestNone(t *testing.T) {
	none(t, "nil", nil)
	none(t, "zero", &alloc.Alloc{})
	m := blocks(6)
	a := some(t, m, 2, 4, 5)
	a.Next()
	before := m.Bytes()
	b := *a
	none(t, "assigned", &b)
	if !bytes.Equal(m.Bytes(), before) {
		t.Error("what was assigned writes to the image")
	}
	drains(t, "after assignment", a, m, 1, 4, 5)
	a = all(t, m, 3)
	b = *a
	none(t, "assigned", &b)
	drains(t, "after assignment", a, m, 0, 3, 4, 5)
}

// Errors can be told with package fault: the number, and the block of an error
// of Write.
func TestErrors(t *testing.T) {
	m := blocks(3)
	_, err := alloc.New(m, 0)
	if fault.Code(err) != api.ErrArg || len(fault.Blocks(err)) != 0 || fault.Text(err) != "error 1" {
		t.Errorf("%v", err)
	}
	a := all(t, m, 2)
	_, err = a.Lay(2, make([]byte, 245))
	if fault.Code(err) != api.ErrRange || !slices.Equal(fault.Blocks(err), []int{2}) || fault.Text(err) != "block 2: error 2" {
		t.Errorf("%v", err)
	}
	a.Next()
	_, err = a.Lay(2, make([]byte, 245))
	if fault.Code(err) != api.ErrNoSpace || len(fault.Blocks(err)) != 0 || fault.Text(err) != "error 14" {
		t.Errorf("%v", err)
	}
}
