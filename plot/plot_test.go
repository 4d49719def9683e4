package plot_test

import (
	"bytes"
	"encoding/binary"
	"math"
	"math/rand/v2"
	"slices"
	"strings"
	"testing"

	"scantling/alloc"
	"scantling/api"
	"scantling/block"
	"scantling/fault"
	"scantling/image"
	"scantling/plot"
	"scantling/seal"
	"scantling/walk"
)

const (
	per       = 960
	maxBlocks = 14400
	maxData   = 65536
	maxCount  = 2147483647
	greatest  = 32768 // entries of a tree
	fan       = 18    // keys of an internal node, and of a leaf of tree 5
	slotFan   = 9     // keys of a leaf of tree 4
)

// source returns a random source that is the same in each run.
func source(n uint64) *rand.Rand {
	return rand.New(rand.NewPCG(22, n))
}

// garbage returns an image of n blocks, no two of which are alike, and none of
// which is sealed.
func garbage(n int) *image.Image {
	b := make([]byte, n*256)
	for i := range b {
		b[i] = byte(i/256) ^ byte(i>>16) ^ byte(11*i)
	}
	return image.Of(b)
}

// from returns an allocator of the blocks of m from block no on.
func from(t *testing.T, m *image.Image, no int) *alloc.Alloc {
	t.Helper()
	a, err := alloc.New(m, no)
	if err != nil {
		t.Fatal(err)
	}
	return a
}

// of returns an allocator of the blocks in l.
func of(t *testing.T, m *image.Image, l ...int) *alloc.Alloc {
	t.Helper()
	a, err := alloc.From(m, l)
	if err != nil {
		t.Fatal(err)
	}
	return a
}

// rising returns the numbers from low on, below high.
func rising(low, high int) []int {
	var l []int
	for no := low; no < high; no++ {
		l = append(l, no)
	}
	return l
}

// spelled returns the bytes of an integer.
func spelled(width, n int) string {
	return string(binary.LittleEndian.AppendUint64(nil, uint64(n))[:width])
}

// parts returns the number of parts that n things are in, if all parts but the
// last one have that size.
func parts(n, size int) int {
	return (n + size - 1) / size
}

// nodes returns the number of nodes of the packed tree with that many entries.
func nodes(entries, leaf int) int {
	level := max(parts(entries, leaf), 1)
	sum := level
	for level > 1 {
		level = parts(level, fan)
		sum += level
	}
	return sum
}

// great returns how many of the counts are 3 or more.
func great(counts []int) int {
	n := 0
	for _, c := range counts {
		if c >= 3 {
			n++
		}
	}
	return n
}

// dataNeeds returns the number of blocks that the space map of the counts of data
// blocks needs.
func dataNeeds(counts []int) int {
	n := parts(len(counts), per)
	return n + nodes(n, slotFan) + nodes(great(counts), fan)
}

// metaNeeds returns the number of blocks that the space map of the counts of an
// image's blocks needs.
func metaNeeds(counts []int) int {
	return nodes(great(counts), fan) + parts(len(counts), per) + 1
}

// pair is a key with the bytes of its Val.
type pair struct {
	key int
	val string
}

// sheet is an image as it should be: its bytes, and the blocks that will be
// written next.
type sheet struct {
	t      *testing.T
	bytes  []byte
	blocks []int
}

// lay writes a payload, padded with zeros, to the next block.
func (s *sheet) lay(kind int, payload string) int {
	s.t.Helper()
	no := s.blocks[0]
	b, e := seal.Seal(kind, no, []byte(payload))
	if e != api.OK {
		s.t.Fatal(e)
	}
	copy(s.bytes[256*no:256*no+256], b)
	s.blocks = s.blocks[1:]
	return no
}

// level writes the nodes of a level, each of them with at most that many of the
// pairs, and returns the pairs of the level above.
func (s *sheet) level(tree, leaf, width, most int, l []pair) []pair {
	s.t.Helper()
	var above []pair
	for len(l) > 0 || len(above) == 0 {
		n := min(len(l), most)
		b := spelled(1, leaf) + spelled(1, tree) + spelled(2, n) + spelled(2, width) + spelled(2, most) + spelled(4, 0)
		for _, p := range l[:n] {
			b += spelled(8, p.key)
		}
		b += strings.Repeat("\x00", 8*(most-n))
		for _, p := range l[:n] {
			b += p.val
		}
		up := pair{}
		if n > 0 {
			up.key = l[0].key
		}
		up.val = spelled(4, s.lay(2, b))
		above = append(above, up)
		l = l[n:]
	}
	return above
}

// tree writes the packed tree of the pairs, from the leaves up, and returns its
// root.
func (s *sheet) tree(tree, width, most int, l []pair) int {
	s.t.Helper()
	l = s.level(tree, 1, width, most, l)
	for len(l) > 1 {
		l = s.level(tree, 0, 4, fan, l)
	}
	return int(binary.LittleEndian.Uint32([]byte(l[0].val)))
}

// over writes the tree with an entry for each count that is 3 or more.
func (s *sheet) over(counts []int) int {
	s.t.Helper()
	var l []pair
	for k, n := range counts {
		if n >= 3 {
			l = append(l, pair{k, spelled(4, n)})
		}
	}
	return s.tree(5, 4, fan, l)
}

// bitmaps writes the bitmaps of the counts, and returns the bytes of their slots.
func (s *sheet) bitmaps(counts []int) []string {
	s.t.Helper()
	var l []string
	for len(counts) > 0 {
		n := min(len(counts), per)
		b := make([]byte, 240)
		free, first := 0, n
		for i, c := range counts[:n] {
			b[i/4] |= byte(min(c, 3) << (2 * (i % 4)))
			if c == 0 && free == 0 {
				first = i
			}
			if c == 0 {
				free++
			}
		}
		no := s.lay(3, spelled(4, n)+string(b))
		l = append(l, spelled(8, no)+spelled(4, free)+spelled(4, first))
		counts = counts[n:]
	}
	return l
}

// data writes the space map of data blocks, and returns its two roots.
func (s *sheet) data(counts []int) (int, int) {
	s.t.Helper()
	var l []pair
	for k, val := range s.bitmaps(counts) {
		l = append(l, pair{k, val})
	}
	index := s.tree(4, 16, slotFan, l)
	return index, s.over(counts)
}

// meta writes the space map of an image's own blocks, and returns its index block
// and its root.
func (s *sheet) meta(counts []int) (int, int) {
	s.t.Helper()
	all := slices.Clone(counts)
	for _, no := range s.blocks[:metaNeeds(counts)] {
		all[no]++
	}
	root := s.over(counts)
	l := s.bitmaps(all)
	return s.lay(4, spelled(4, len(l))+strings.Join(l, "")), root
}

// call is Data or Meta.
type call = func(a *alloc.Alloc, counts []int) (int, int, error)

// alike checks that the blocks of m have the bytes.
func alike(t *testing.T, what string, m *image.Image, want []byte) {
	t.Helper()
	if bytes.Equal(m.Bytes(), want) {
		return
	}
	for no := range m.Blocks() {
		if got, _ := m.Read(no); !bytes.Equal(got, want[256*no:256*no+256]) {
			t.Fatalf("%s: block %d is %x, not %x", what, no, got, want[256*no:256*no+256])
		}
	}
	t.Fatalf("%s: %d blocks", what, m.Blocks())
}

// writes checks that do writes what the sheet writes, and nothing else, to the
// next blocks of a, as many as it needs, and leaves the counts and the memory
// behind them as they are.
func writes(t *testing.T, what string, do call, sheetDo func(s *sheet) (int, int), a *alloc.Alloc, counts []int, needs int) (int, int) {
	t.Helper()
	m, used, rest := a.Image(), a.Used(), a.Ahead(math.MaxInt)
	s := &sheet{t, m.Bytes(), rest}
	wantOne, wantTwo := sheetDo(s)
	if len(rest)-len(s.blocks) != needs {
		t.Fatalf("%s: %d blocks written, not %d", what, len(rest)-len(s.blocks), needs)
	}
	given := append(slices.Clone(counts), 3, -1, 5)[:len(counts)]
	whole := given[:cap(given)]
	kept := slices.Clone(whole)
	one, two, err := do(a, given)
	if one != wantOne || two != wantTwo || err != nil {
		t.Fatalf("%s: %d, %d, %v, not %d, %d", what, one, two, err, wantOne, wantTwo)
	}
	if !slices.Equal(whole, kept) {
		t.Fatalf("%s: the counts have changed", what)
	}
	clear(whole) // the image has none of this memory
	alike(t, what, m, s.bytes)
	if a.Image() != m || a.Used() != used+needs || !slices.Equal(a.Ahead(math.MaxInt), s.blocks) {
		t.Fatalf("%s: %d used, not %d, or others left", what, a.Used(), used+needs)
	}
	return one, two
}

// data checks that Data writes the space map of the counts, and that it is read
// back. It returns its roots.
func data(t *testing.T, what string, a *alloc.Alloc, counts []int) (int, int) {
	t.Helper()
	do := func(s *sheet) (int, int) { return s.data(counts) }
	index, over := writes(t, what, plot.Data, do, a, counts, dataNeeds(counts))
	w, err := walk.Whole(a.Image(), index, 4, api.Fuel)
	if err != nil || len(w.Entries) != parts(len(counts), per) {
		t.Fatalf("%s: the slots %v, %v", what, w.Entries, err)
	}
	var l []string
	for k, x := range w.Entries {
		if x.Key != k {
			t.Fatalf("%s: the slot with key %d is the one with index %d", what, x.Key, k)
		}
		l = append(l, x.Val)
	}
	counted(t, what, a.Image(), l, over, counts)
	return index, over
}

// meta checks that Meta writes the space map of the counts, and that it is read
// back. It returns its index block and its root.
func meta(t *testing.T, what string, a *alloc.Alloc, counts []int) (int, int) {
	t.Helper()
	all := slices.Clone(counts)
	for _, no := range a.Ahead(metaNeeds(counts)) {
		all[no]++
	}
	do := func(s *sheet) (int, int) { return s.meta(counts) }
	index, over := writes(t, what, plot.Meta, do, a, counts, metaNeeds(counts))
	slots, err := block.Index(a.Image(), index)
	if err != nil {
		t.Fatalf("%s: the index %v", what, err)
	}
	var l []string
	for _, x := range slots {
		l = append(l, spelled(8, x.Block)+spelled(4, x.Free)+spelled(4, x.First))
	}
	counted(t, what, a.Image(), l, over, all)
	return index, over
}

// counted checks that the bitmaps of the slots, and the tree at over, have the
// counts.
func counted(t *testing.T, what string, m *image.Image, slots []string, over int, counts []int) {
	t.Helper()
	var got []int
	for k, val := range slots {
		no := int(binary.LittleEndian.Uint64([]byte(val)))
		l, err := block.Bits(m, no)
		if err != nil || len(l) != min(per, len(counts)-per*k) {
			t.Fatalf("%s: bitmap %d has %d counts, %v", what, k, len(l), err)
		}
		zeros := 0
		for _, n := range l {
			if n == 0 {
				zeros++
			}
		}
		first := slices.Index(l, 0)
		if first < 0 {
			first = len(l)
		}
		if val[8:] != spelled(4, zeros)+spelled(4, first) {
			t.Fatalf("%s: slot %d is %x, with %d zeros from %d on", what, k, val, zeros, first)
		}
		got = append(got, l...)
	}
	w, err := walk.Whole(m, over, 5, api.Fuel)
	if err != nil {
		t.Fatalf("%s: the overflow entries: %v", what, err)
	}
	for _, x := range w.Entries {
		if got[x.Key] != 3 {
			t.Fatalf("%s: an overflow entry for %d, whose count is %d", what, x.Key, got[x.Key])
		}
		got[x.Key] = int(binary.LittleEndian.Uint32([]byte(x.Val)))
	}
	if !slices.Equal(got, counts) {
		t.Fatalf("%s: read back as %v, not %v", what, got, counts)
	}
	if len(w.Entries) != great(counts) {
		t.Fatalf("%s: %d overflow entries for %d counts", what, len(w.Entries), great(counts))
	}
}

// fails checks that do returns nothing but an error, without a write and without
// an allocation, and leaves the counts as they are. It returns the error.
func fails(t *testing.T, what string, do call, a *alloc.Alloc, counts []int) error {
	t.Helper()
	m := a.Image()
	before, used, rest := m.Bytes(), a.Used(), a.Ahead(math.MaxInt)
	given := append(slices.Clone(counts), 3, -1, 5)[:len(counts)]
	kept := slices.Clone(given[:cap(given)])
	one, two, err := do(a, given)
	if err == nil || one != 0 || two != 0 {
		t.Fatalf("%s: %d, %d, %v", what, one, two, err)
	}
	if !bytes.Equal(m.Bytes(), before) {
		t.Fatalf("%s: written, with %v", what, err)
	}
	if a.Used() != used || !slices.Equal(a.Ahead(math.MaxInt), rest) {
		t.Fatalf("%s: allocated, with %v", what, err)
	}
	if !slices.Equal(given[:cap(given)], kept) {
		t.Fatalf("%s: the counts have changed, with %v", what, err)
	}
	return err
}

// refuses checks that do returns one number, which nothing wraps, and does
// nothing.
func refuses(t *testing.T, what string, do call, a *alloc.Alloc, counts []int, want api.Errno) {
	t.Helper()
	if err := fails(t, what, do, a, counts); err != error(want) {
		t.Fatalf("%s: %v, not %v", what, err, want)
	}
}

// bounded returns n counts below a limit.
func bounded(r *rand.Rand, n, limit int) []int {
	l := make([]int, n)
	for k := range l {
		l[k] = r.IntN(limit)
	}
	return l
}

// apart returns n counts, of which that many are 3 or more, spread over all of
// them, and the others 0.
func apart(n, many int) []int {
	l := make([]int, n)
	for i := range many {
		l[i*n/many] = 3 + i
	}
	return l
}

// zeroed returns the counts with 0 for each of the blocks.
func zeroed(counts, blocks []int) []int {
	l := slices.Clone(counts)
	for _, no := range blocks {
		l[no] = 0
	}
	return l
}

// used returns the counts of an image of n blocks of which those below block no
// are used once.
func used(n, no int) []int {
	return append(slices.Repeat([]int{1}, no), make([]int, n-no)...)
}

// The chapter's example.
func TestExample(t *testing.T) {
	for _, counts := range [][]int{nil, {}} {
		m := garbage(9)
		a := from(t, m, 5)
		slots, over, err := plot.Data(a, counts)
		if slots != 5 || over != 6 || err != nil || a.Used() != 2 {
			t.Fatalf("%d, %d, %v, with %d blocks", slots, over, err, a.Used())
		}
		for no, tree := range map[int]int{slots: api.Slots, over: api.Over} {
			n, err := block.Node(m, no, tree)
			if err != nil || !n.Leaf || len(n.Keys)+len(n.Vals) != 0 {
				t.Errorf("block %d: %v, %v", no, n, err)
			}
		}
	}
}

// leaf checks that block no is a leaf of the tree with one key and its Val.
func leaf(t *testing.T, m *image.Image, no, tree, key int, val string) {
	t.Helper()
	n, err := block.Node(m, no, tree)
	if err != nil || !n.Leaf || !slices.Equal(n.Keys, []int{key}) || !slices.Equal(n.Vals, []string{val}) {
		t.Fatalf("block %d: %v, %v", no, n, err)
	}
}

// bitmap checks that block no has the counts.
func bitmap(t *testing.T, m *image.Image, no int, want ...int) {
	t.Helper()
	l, err := block.Bits(m, no)
	if err != nil || !slices.Equal(l, want) {
		t.Fatalf("block %d: %v, %v", no, l, err)
	}
}

// P22.1: the space map of three data blocks by hand.
func TestDataByHand(t *testing.T) {
	m := garbage(9)
	a := from(t, m, 3)
	slots, over, err := plot.Data(a, []int{0, 5, 2})
	if slots != 4 || over != 5 || err != nil || a.Used() != 3 {
		t.Fatalf("%d, %d, %v, with %d blocks", slots, over, err, a.Used())
	}
	bitmap(t, m, 3, 0, 3, 2)
	leaf(t, m, 4, api.Slots, 0, "\x03\x00\x00\x00\x00\x00\x00\x00\x01\x00\x00\x00\x00\x00\x00\x00")
	leaf(t, m, 5, api.Over, 1, "\x05\x00\x00\x00")
}

// P22.2: the space map of an image of eight blocks by hand, in which the tree Over
// comes first and the index last. All blocks are in use then, so that the first
// free one is behind them.
func TestMetaByHand(t *testing.T) {
	m := garbage(8)
	a := from(t, m, 5)
	index, over, err := plot.Meta(a, []int{1, 1, 1, 7, 1, 0, 0, 0})
	if index != 7 || over != 5 || err != nil || a.Left() != 0 {
		t.Fatalf("%d, %d, %v, with %d blocks left", index, over, err, a.Left())
	}
	leaf(t, m, 5, api.Over, 3, "\x07\x00\x00\x00")
	bitmap(t, m, 6, 1, 1, 1, 3, 1, 1, 1, 1)
	slots, err := block.Index(m, 7)
	if err != nil || !slices.Equal(slots, []api.Slot{{Block: 6, Free: 0, First: 8}}) {
		t.Fatalf("the index: %v, %v", slots, err)
	}
}

// P22.2: a larger image by hand: what is free is counted after the blocks of the
// space map, and the blocks behind it stay free.
func TestMetaFree(t *testing.T) {
	m := garbage(12)
	a := of(t, m, 2, 3, 5, 9, 11)
	index, over, err := plot.Meta(a, []int{1, 2, 0, 0, 1, 0, 0, 4, 1, 0, 1, 0})
	if index != 5 || over != 2 || err != nil || a.Left() != 2 {
		t.Fatalf("%d, %d, %v, with %d blocks left", index, over, err, a.Left())
	}
	leaf(t, m, 2, api.Over, 7, "\x04\x00\x00\x00")
	bitmap(t, m, 3, 1, 2, 1, 1, 1, 1, 0, 3, 1, 0, 1, 0)
	slots, err := block.Index(m, 5)
	if err != nil || !slices.Equal(slots, []api.Slot{{Block: 3, Free: 3, First: 6}}) {
		t.Fatalf("the index: %v, %v", slots, err)
	}
}

// P22.1: the slots of bitmaps that are all free, partly free and full, as the Vals
// of keys from 0 on.
func TestSlots(t *testing.T) {
	m := garbage(20)
	counts := slices.Concat(make([]int, per), slices.Repeat([]int{1}, per), slices.Repeat([]int{1, 2, 0}, per/3), []int{2, 2})
	slots, _ := data(t, "slots", from(t, m, 2), counts)
	w, err := walk.Whole(m, slots, api.Slots, 1)
	if err != nil {
		t.Fatal(err)
	}
	want := []string{
		spelled(8, 2) + spelled(4, per) + spelled(4, 0),
		spelled(8, 3) + spelled(4, 0) + spelled(4, per),
		spelled(8, 4) + spelled(4, per/3) + spelled(4, 2),
		spelled(8, 5) + spelled(4, 0) + spelled(4, 2),
	}
	for k, x := range w.Entries {
		if x.Key != k || x.Val != want[k] || x.At != 6 {
			t.Errorf("slot %d: %v, not %x", k, x, want[k])
		}
	}
}

// P22.1: each count alone, around those that bits hold and at the limits.
func TestDataCounts(t *testing.T) {
	for _, n := range []int{0, 1, 2, 3, 4, 5, 255, 256, 1 << 16, 1<<24 + 1, maxCount - 1, maxCount} {
		for _, counts := range [][]int{{n}, {0, n}, {1, n, 0}, {n, n, n, n, n}} {
			data(t, "count", from(t, garbage(20), 4), counts)
		}
	}
}

// P22.1, P22.3: numbers of counts at which another bitmap begins, and another node
// of the tree Slots, with many overflow entries, with few, and with none.
func TestDataLengths(t *testing.T) {
	r := source(1)
	lengths := []int{0, 1, 2, 3, 4, 5, 17, 18, 19, per - 1, per, per + 1, 2*per - 1, 2 * per, 2*per + 1}
	for _, k := range []int{slotFan, 2 * slotFan, 15, 16, 68} {
		lengths = append(lengths, k*per-1, k*per, k*per+1)
	}
	for _, n := range append(lengths, maxData-1, maxData) {
		for _, counts := range [][]int{make([]int, n), slices.Repeat([]int{1}, n), bounded(r, n, 3), bounded(r, n, 5), apart(n, n/7), apart(n, min(n, 20))} {
			data(t, "lengths", from(t, garbage(2400), 7), counts)
		}
	}
}

// P22.1, P22.3: numbers of overflow entries at which the tree Over has another
// node or another level, up to the greatest tree.
func TestDataOver(t *testing.T) {
	for _, many := range []int{0, 1, 2, fan - 1, fan, fan + 1, 2 * fan, 2*fan + 1, fan*fan - 1, fan * fan, fan*fan + 1, fan * fan * fan, fan*fan*fan + 1, greatest - 1, greatest} {
		for _, n := range []int{many, 2*many + 3, maxData} {
			if n < many || n > maxData {
				continue
			}
			counts := apart(n, many)
			if great(counts) != many {
				t.Fatalf("%d counts are 3 or more, not %d", great(counts), many)
			}
			data(t, "overflow entries", from(t, garbage(3000), 1), counts)
			data(t, "overflow entries", from(t, garbage(maxBlocks), 9000), counts)
		}
	}
}

// P22.2, P22.3: sizes of images at which another bitmap begins, with the least
// blocks before the space map, with some, and with as many as there can be.
func TestMetaLengths(t *testing.T) {
	sizes := []int{4, 5, 8, 17, 18, 19, per - 1, per, per + 1, 2*per - 1, 2 * per, 2*per + 1, 9*per + 1, maxBlocks - per, maxBlocks - per + 1, maxBlocks - 1, maxBlocks}
	for _, n := range sizes {
		most := n - parts(n, per) - 2 // what leaves the blocks of the space map
		for _, no := range []int{1, 2, most / 2, most - 1, most} {
			if no < 1 || no > most {
				continue
			}
			m := garbage(n)
			a := from(t, m, no)
			index, over := meta(t, "sizes", a, used(n, no))
			if over != no || index != no+parts(n, per)+1 {
				t.Fatalf("%d blocks from %d on: %d, %d", n, no, index, over)
			}
			if no == most && a.Left() != 0 {
				t.Fatalf("%d blocks from %d on: %d left", n, no, a.Left())
			}
		}
	}
}

// P22.2, P22.3: numbers of overflow entries at which the tree Over has another
// node or another level, in blocks that the allocator does not have.
func TestMetaOver(t *testing.T) {
	for _, many := range []int{0, 1, 2, fan - 1, fan, fan + 1, 2 * fan, 2*fan + 1, fan*fan - 1, fan * fan, fan*fan + 1, fan * fan * fan, fan*fan*fan + 1, 7000} {
		n := 2*many + 20
		if n > maxBlocks {
			t.Fatal(n)
		}
		counts := append(apart(many+5, many), make([]int, n-many-5)...)
		meta(t, "overflow entries", from(t, garbage(n), many+5), counts)
		var free []int
		odd := make([]int, n)
		for no := range n {
			if no%2 == 1 {
				free = append(free, no)
			} else if no/2 < many {
				odd[no] = 3 + no
			}
		}
		meta(t, "overflow entries between", of(t, garbage(n), free...), odd)
	}
}

// P22.2: the counts of blocks that are not the space map's stay, up to the
// greatest one.
func TestMetaCounts(t *testing.T) {
	for _, n := range []int{0, 1, 2, 3, 4, 5, 255, 256, 1 << 16, 1<<24 + 1, maxCount - 1, maxCount} {
		for at := range 9 {
			counts := make([]int, 9)
			counts[at] = n
			var free []int
			for no := 1; no < 9; no++ {
				if no != at {
					free = append(free, no)
				}
			}
			meta(t, "count", of(t, garbage(9), free...), counts)
		}
		meta(t, "counts", from(t, garbage(400), 300), append(slices.Repeat([]int{n}, 300), make([]int, 100)...))
	}
}

// P22.2: blocks that the allocator does not get to are not the space map's, so
// that their counts may be any, and stay as they are.
func TestMetaBehind(t *testing.T) {
	for _, n := range []int{0, 1, 2, 3, 9, maxCount} {
		counts := slices.Concat(used(20, 6)[:20-8], slices.Repeat([]int{n}, 8))
		meta(t, "behind", from(t, garbage(20), 6), counts)
	}
}

// P22.1, P22.2: allocators of lists with gaps, whose blocks are spread over all
// bitmaps, up to the last block of the greatest image.
func TestGaps(t *testing.T) {
	r := source(2)
	edges := []int{1, 3, per - 1, per, per + 1, 2*per - 1, 2 * per, 3*per - 1, 5*per + 7, 14*per - 1, 14 * per, 14*per + 1, maxBlocks - 5, maxBlocks - 4, maxBlocks - 3, maxBlocks - 2, maxBlocks - 1}
	counts := zeroed(bounded(r, maxBlocks, 3), edges)
	a := of(t, garbage(maxBlocks), edges...)
	if index, _ := meta(t, "edges", a, counts); index != maxBlocks-1 || a.Left() != 0 {
		t.Fatalf("the index is block %d, with %d left", index, a.Left())
	}
	for range 60 {
		n := 400 + r.IntN(4000)
		var l []int
		for no := 1; no < n; no++ {
			if r.IntN(3) == 0 {
				l = append(l, no)
			}
		}
		counts := zeroed(bounded(r, n, 1+r.IntN(4)), l)
		for k := 0; k < n; k += 40 {
			counts[k] *= 1 + r.IntN(1000)
		}
		a := of(t, garbage(n), l...)
		if len(l) < metaNeeds(counts) {
			refuses(t, "gaps", plot.Meta, a, counts, api.ErrNoSpace)
			continue
		}
		meta(t, "gaps", a, counts)
	}
}

// P22.1, P22.2: an image as layer 26 describes it: Data first, then Meta for the
// blocks that have been allocated, with the same allocator. The bitmaps count
// what is written behind them too.
func TestBoth(t *testing.T) {
	r := source(3)
	for range 100 {
		n := 100 + r.IntN(3000)
		m := garbage(n)
		a := from(t, m, 1)
		for range r.IntN(20) {
			a.Next()
		}
		shared := bounded(r, r.IntN(3*per), 2+r.IntN(3))
		if a.Left() < dataNeeds(shared) {
			refuses(t, "both", plot.Data, a, shared, api.ErrNoSpace)
			continue
		}
		slots, over := data(t, "both", a, shared)
		counts := used(n, 1+a.Used())
		if a.Left() < metaNeeds(counts) {
			refuses(t, "both", plot.Meta, a, counts, api.ErrNoSpace)
			continue
		}
		index, root := meta(t, "both", a, counts)
		if slots >= over || over >= root || root >= index {
			t.Fatalf("%d, %d, %d, %d", slots, over, root, index)
		}
	}
}

// P22.1, P22.2: space maps that are written one after the other by one allocator
// stay as they are.
func TestSeveral(t *testing.T) {
	r := source(4)
	m := garbage(2000)
	a := from(t, m, 3)
	counts := used(2000, 3)
	type laid struct {
		counts      []int
		slots, over int
	}
	var all []laid
	for len(all) < 12 {
		switch r.IntN(3) {
		case 0:
			a.Next()
		case 1:
			a.Lay(api.BitsKind, []byte{1, 0, 0, 0, 1})
		}
		x := laid{counts: bounded(r, r.IntN(4000), 1+r.IntN(4))}
		if a.Left() < dataNeeds(x.counts)+300 {
			break
		}
		x.slots, x.over = data(t, "several", a, x.counts)
		all = append(all, x)
		meta(t, "several", a, counts)
	}
	if len(all) < 4 {
		t.Fatalf("%d space maps only", len(all))
	}
	for _, x := range all {
		w, err := walk.Whole(m, x.slots, 4, api.Fuel)
		if err != nil {
			t.Fatal(err)
		}
		var l []string
		for _, y := range w.Entries {
			l = append(l, y.Val)
		}
		counted(t, "several", m, l, x.over, x.counts)
	}
}

// P22.1, P22.3: nothing is allocated where the blocks do not suffice, and the space
// map is written where they do, with none to spare.
func TestDataNoSpace(t *testing.T) {
	for _, counts := range [][]int{nil, {0}, {3}, apart(20, 18), apart(20, 19), make([]int, per), make([]int, per+1), make([]int, slotFan*per), make([]int, slotFan*per+1), apart(3*per, 19), apart(11*per, 50)} {
		needs := dataNeeds(counts)
		for left := range needs {
			m := garbage(left + 4)
			refuses(t, "no space", plot.Data, from(t, m, 4), counts, api.ErrNoSpace)
			refuses(t, "no space", plot.Data, of(t, m, rising(1, left+1)...), counts, api.ErrNoSpace)
		}
		a := from(t, garbage(needs+4), 4)
		data(t, "space", a, counts)
		if a.Left() != 0 {
			t.Fatalf("%d blocks left", a.Left())
		}
		refuses(t, "no space any more", plot.Data, a, counts, api.ErrNoSpace)
		refuses(t, "no space any more", plot.Data, a, nil, api.ErrNoSpace)
	}
	for _, counts := range [][]int{make([]int, maxData), apart(maxData, 5000), apart(maxData, greatest)} {
		needs := dataNeeds(counts)
		refuses(t, "no space", plot.Data, from(t, garbage(needs+1), 2), counts, api.ErrNoSpace)
		data(t, "space", from(t, garbage(needs+1), 1), counts)
	}
}

// P22.2, P22.3: the same for the space map of an image's blocks, in images of one
// bitmap and of several.
func TestMetaNoSpace(t *testing.T) {
	for _, n := range []int{1, 2, 3, 4, 5, 40, per, per + 1, 3*per + 1, maxBlocks} {
		for _, many := range []int{0, 1, fan, fan + 1, 50} {
			if many > 0 && n < 2*many {
				continue
			}
			counts := append(apart(n/2, many), make([]int, n-n/2)...)
			needs := metaNeeds(counts)
			free := rising(n/2+1, n)
			for left := range min(needs, len(free)+1) {
				refuses(t, "no space", plot.Meta, of(t, garbage(n), free[:left]...), counts, api.ErrNoSpace)
				refuses(t, "no space", plot.Meta, from(t, garbage(n), n-left), counts, api.ErrNoSpace)
			}
			if needs > len(free) {
				continue
			}
			a := of(t, garbage(n), free[:needs]...)
			meta(t, "space", a, counts)
			if a.Left() != 0 {
				t.Fatalf("%d blocks left", a.Left())
			}
			refuses(t, "no space any more", plot.Meta, a, counts, api.ErrNoSpace)
		}
	}
}

// P22.2: an image without blocks has no counts, and no space either.
func TestMetaEmpty(t *testing.T) {
	refuses(t, "empty", plot.Meta, of(t, garbage(0)), nil, api.ErrNoSpace)
	refuses(t, "empty", plot.Meta, of(t, garbage(0)), []int{0}, api.ErrArg)
	refuses(t, "empty", plot.Data, of(t, garbage(0)), nil, api.ErrNoSpace)
}

// wrongs are integers that no count may be.
var wrongs = []int{-1, -2, -3, -per, math.MinInt32, -1 << 32, 3 - 1<<32, math.MinInt, math.MinInt + 3, maxCount + 1, maxCount + 2, math.MaxUint32, 1 << 32, 1<<32 + 3, math.MaxInt - 1, math.MaxInt}

// P22.1, P22.2: a count out of range, wherever it is, with space and without.
func TestRange(t *testing.T) {
	for _, bad := range wrongs {
		for _, n := range []int{1, 2, 9, per, per + 1, 3 * per} {
			for _, at := range []int{0, 1, n / 2, per - 1, per, n - 1} {
				if at >= n {
					continue
				}
				counts := make([]int, n)
				counts[at] = bad
				m := garbage(n)
				for _, a := range []*alloc.Alloc{of(t, m, rising(1, n)...), of(t, m)} {
					refuses(t, "range", plot.Data, a, counts, api.ErrRange)
					refuses(t, "range", plot.Meta, a, counts, api.ErrRange)
				}
			}
		}
	}
}

// P22.1: too many counts, whatever they are, with space and without.
func TestDataMany(t *testing.T) {
	m := garbage(maxBlocks)
	for _, n := range []int{maxData + 1, maxData + 2, 69*per + 1, 2 * maxData, 1 << 20} {
		for _, counts := range [][]int{make([]int, n), slices.Repeat([]int{-1}, n), slices.Repeat([]int{7}, n)} {
			refuses(t, "too many", plot.Data, from(t, m, 1), counts, api.ErrArg)
			refuses(t, "too many", plot.Data, from(t, m, maxBlocks), counts, api.ErrArg)
		}
	}
	refuses(t, "not too many", plot.Data, from(t, m, 1), append(make([]int, maxData-1), -1), api.ErrRange)
}

// P22.1: more overflow entries than a tree may have. No tree needs any blocks for
// them, so that the error is ErrNoSpace where the others do not suffice, and
// ErrArg otherwise, with nothing written.
func TestDataOverMany(t *testing.T) {
	for _, counts := range [][]int{apart(greatest+1, greatest+1), apart(maxData, greatest+1), apart(maxData, maxData-1), apart(maxData, maxData)} {
		n := parts(len(counts), per)
		others := n + nodes(n, slotFan)
		m := garbage(maxBlocks)
		refuses(t, "overflow entries", plot.Data, from(t, m, 1), counts, api.ErrArg)
		refuses(t, "overflow entries", plot.Data, from(t, m, maxBlocks-others), counts, api.ErrArg)
		refuses(t, "overflow entries", plot.Data, from(t, m, maxBlocks-others+1), counts, api.ErrNoSpace)
		refuses(t, "overflow entries", plot.Data, from(t, m, maxBlocks), counts, api.ErrNoSpace)
	}
}

// P22.2: another number of counts than the image has blocks, whatever they are,
// with space and without.
func TestMetaArg(t *testing.T) {
	for _, n := range []int{1, 2, 9, 40, per, per + 1, maxBlocks} {
		m := garbage(n)
		for _, wrong := range []int{0, 1, n - 2, n - 1, n + 1, n + 2, 2 * n, n + per, n + 256, n + 1<<16, maxData, maxData + 1} {
			if wrong < 0 || wrong == n {
				continue
			}
			for _, counts := range [][]int{make([]int, wrong), slices.Repeat([]int{1}, wrong), slices.Repeat([]int{5}, wrong), slices.Repeat([]int{-1}, wrong)} {
				refuses(t, "another number", plot.Meta, of(t, m, rising(1, n)...), counts, api.ErrArg)
				refuses(t, "another number", plot.Meta, of(t, m), counts, api.ErrArg)
			}
		}
	}
}

// P22.1, P22.2: nil allocators, and those that neither New nor From returned,
// whatever the counts are.
func TestNone(t *testing.T) {
	m := garbage(40)
	a := from(t, m, 2)
	assigned := *a
	for _, none := range []*alloc.Alloc{nil, {}, &assigned} {
		for _, counts := range [][]int{nil, {0}, {-1}, {5, 5}, make([]int, 40), slices.Repeat([]int{-1}, 40), slices.Repeat([]int{3}, 40), make([]int, maxData+1)} {
			refuses(t, "none", plot.Data, none, counts, api.ErrNone)
			refuses(t, "none", plot.Meta, none, counts, api.ErrNone)
		}
	}
	alike(t, "none", m, garbage(40).Bytes())
	data(t, "after none", a, []int{0, 5, 2})
	meta(t, "after none", a, used(40, 5))
}

// P22.1, P22.2: after an error, the next space map is written where the refused
// one would have been.
func TestAfterErrors(t *testing.T) {
	m := garbage(12)
	a := from(t, m, 4)
	refuses(t, "no space", plot.Data, a, apart(2000, 100), api.ErrNoSpace)
	refuses(t, "range", plot.Data, a, []int{1, -1}, api.ErrRange)
	refuses(t, "another number", plot.Meta, a, []int{1}, api.ErrArg)
	slots, over := data(t, "after errors", a, []int{0, 5, 2})
	if slots != 5 || over != 6 {
		t.Fatalf("%d, %d", slots, over)
	}
	refuses(t, "another number", plot.Meta, a, used(13, 7), api.ErrArg)
	refuses(t, "range", plot.Meta, a, append(used(11, 7), maxCount+1), api.ErrRange)
	refuses(t, "no space", plot.Data, a, make([]int, 4*per), api.ErrNoSpace)
	index, root := meta(t, "after errors", a, used(12, 7))
	if root != 7 || index != 9 {
		t.Fatalf("%d, %d", index, root)
	}
	refuses(t, "no space", plot.Meta, a, used(12, 10), api.ErrNoSpace)
	if no, err := a.Next(); no != 10 || err != nil {
		t.Fatalf("%d, %v", no, err)
	}
}

// P22.1, P22.2: if the image has lost its blocks, the error is that of the first
// block, which Lay does not write, and no block is allocated; the other errors
// precede it.
func TestLost(t *testing.T) {
	m := garbage(100)
	a := of(t, m, rising(7, 90)...)
	*m = image.Image{}
	lost := func(do call, counts []int) {
		t.Helper()
		err := fails(t, "lost", do, a, counts)
		if fault.Code(err) != api.ErrEnd || !slices.Equal(fault.Blocks(err), []int{7}) || fault.Text(err) != "block 7: error 3" {
			t.Fatalf("%d counts: %v", len(counts), err)
		}
	}
	for _, counts := range [][]int{nil, {0}, {5}, apart(20, 19), make([]int, 10*per)} {
		lost(plot.Data, counts)
	}
	lost(plot.Meta, nil)
	refuses(t, "lost", plot.Data, a, []int{-1}, api.ErrRange)
	refuses(t, "lost", plot.Data, a, apart(4000, 2000), api.ErrNoSpace)
	refuses(t, "lost", plot.Meta, a, used(100, 7), api.ErrArg)
	if no, err := a.Next(); no != 7 || err != nil {
		t.Fatalf("after a lost image: %d, %v", no, err)
	}
}

// P22.2: nothing is promised for counts of the space map's own blocks that are not
// 0, but a call ends, and changes no counts.
func TestMetaUnpromised(t *testing.T) {
	for _, n := range []int{1, 2, 3, maxCount - 1, maxCount} {
		for _, size := range []int{4, 40, per + 1} {
			counts := slices.Repeat([]int{n}, size)
			a := from(t, garbage(size), 1)
			index, over, err := plot.Meta(a, counts)
			if err != nil && (index != 0 || over != 0) {
				t.Fatalf("%d: %d, %d, %v", n, index, over, err)
			}
			if !slices.Equal(counts, slices.Repeat([]int{n}, size)) {
				t.Fatalf("%d: the counts have changed", n)
			}
		}
	}
}

// P22.1, P22.2, P22.3: random counts, in images of random sizes.
func TestRandom(t *testing.T) {
	r := source(5)
	for range 300 {
		n := 30 + r.IntN(1<<(5+r.IntN(8)))
		no := 1 + r.IntN(n)
		counts := append(bounded(r, no, 1+r.IntN(6)), make([]int, n-no)...)
		for k := 0; k < no; k += 1 + r.IntN(30) {
			counts[k] *= r.IntN(maxCount / 5)
		}
		for _, l := range [][]int{counts, counts[:r.IntN(n)], slices.Concat(counts, counts, counts)} {
			a := from(t, garbage(n), no)
			if a.Left() < dataNeeds(l) {
				refuses(t, "random", plot.Data, a, l, api.ErrNoSpace)
			} else {
				data(t, "random", a, l)
			}
		}
		a := from(t, garbage(n), no)
		if a.Left() < metaNeeds(counts) {
			refuses(t, "random", plot.Meta, a, counts, api.ErrNoSpace)
		} else {
			meta(t, "random", a, counts)
		}
	}
}
