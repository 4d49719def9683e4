package build_test

import (
	"bytes"
	"encoding/binary"
	"math"
	"math/rand/v2"
	"slices"
	"testing"

	"scantling/alloc"
	"scantling/api"
	"scantling/block"
	"scantling/build"
	"scantling/fault"
	"scantling/image"
	"scantling/seal"
	"scantling/walk"
)

const (
	greatest = 32768 // entries of a tree
	fan      = 18    // keys of an internal node
	lastKey  = 1<<48 - 1
)

// leaves are the keys of a leaf of each tree, and widths the bytes of each of its
// Vals; there is no tree 0.
var (
	leaves = []int{0, 18, 12, 6, 9, 18}
	widths = []int{0, 4, 8, 24, 16, 4}
)

// noTrees are numbers of trees that do not exist, such that the lowest 8, 16 or
// 32 bits of some of them are a tree.
var noTrees = []int{0, -1, -2, -5, 6, 7, 9, 18, 255, 256, 257, 258, 261, 1<<16 + 2, 1<<32 + 1, 1<<32 + 5, -1<<32 + 3, math.MaxInt, math.MinInt, math.MinInt + 2}

// source returns a random source that is the same in each run.
func source(n uint64) *rand.Rand {
	return rand.New(rand.NewPCG(17, n))
}

// garbage returns an image of n blocks, no two of which are alike, and none of
// which is a node.
func garbage(n int) *image.Image {
	b := make([]byte, n*256)
	for i := range b {
		b[i] = byte(i/256) ^ byte(i>>16) ^ byte(11*i)
	}
	return image.Of(b)
}

// from returns an allocator of the blocks of m from block no on.
func from(t *testing.T, m *image.Image, no int) *alloc.Alloc {
	t.Helper()
	a, err := alloc.New(m, no)
	if err != nil {
		t.Fatal(err)
	}
	return a
}

// of returns an allocator of the blocks in l.
func of(t *testing.T, m *image.Image, l ...int) *alloc.Alloc {
	t.Helper()
	a, err := alloc.From(m, l)
	if err != nil {
		t.Fatal(err)
	}
	return a
}

// rising returns the numbers from low on, below high.
func rising(low, high int) []int {
	var l []int
	for no := low; no < high; no++ {
		l = append(l, no)
	}
	return l
}

// entry returns an entry of the tree, whose Val has the right width and no two
// bytes alike.
func entry(tree, key int) api.Entry {
	val := make([]byte, widths[tree])
	for i := range val {
		val[i] = byte(key>>8) ^ byte(key) ^ byte(8*i+tree)
	}
	return api.Entry{Key: key, Val: string(val), At: key*3 - 7}
}

// entries returns entries of the tree with the keys.
func entries(tree int, keys ...int) []api.Entry {
	var l []api.Entry
	for _, key := range keys {
		l = append(l, entry(tree, key))
	}
	return l
}

// some returns n entries of the tree, whose keys begin with key and are that far
// apart.
func some(tree, n, key, step int) []api.Entry {
	var l []api.Entry
	for range n {
		l = append(l, entry(tree, key))
		key += step
	}
	return l
}

// pair is a key with a Val.
type pair struct {
	key int
	val string
}

// grown is a node as it is filled: its pairs, and its children, if it has any.
type grown struct {
	pairs    []pair
	children []*grown
}

// shoot is a tree that entries are added to at its end, one by one: its levels
// from the leaves to the root.
type shoot struct {
	leaf   int
	levels [][]*grown
}

// add adds an entry: to the last leaf, or to a new one behind it if that is full,
// which is then one more child of the last node above it, and so on; a second
// node of the highest level gets a root above both.
func (s *shoot) add(x api.Entry) {
	most, p, child := s.leaf, pair{x.Key, x.Val}, (*grown)(nil)
	for i, level := range s.levels {
		last := level[len(level)-1]
		if len(last.pairs) < most {
			last.push(p, child)
			return
		}
		next := &grown{}
		next.push(p, child)
		s.levels[i] = append(level, next)
		most, p, child = fan, pair{key: x.Key}, next
	}
	root := &grown{}
	top := s.levels[len(s.levels)-1]
	root.push(pair{key: top[0].pairs[0].key}, top[0])
	root.push(p, child)
	s.levels = append(s.levels, []*grown{root})
}

// push puts a pair behind the others, with the child that it leads to, if any.
func (g *grown) push(p pair, child *grown) {
	g.pairs = append(g.pairs, p)
	if child != nil {
		g.children = append(g.children, child)
	}
}

// payload returns the bytes of a node of the tree, whose children are in the
// blocks that are given.
func (g *grown) payload(tree int, place map[*grown]int) []byte {
	leaf, width, most := 1, widths[tree], leaves[tree]
	if len(g.children) > 0 {
		leaf, width, most = 0, 4, fan
	}
	le := binary.LittleEndian
	b := []byte{byte(leaf), byte(tree)}
	for _, n := range []int{len(g.pairs), width, most, 0, 0} {
		b = le.AppendUint16(b, uint16(n))
	}
	for _, p := range g.pairs {
		b = le.AppendUint64(b, uint64(p.key))
	}
	b = append(b, make([]byte, 8*(most-len(g.pairs)))...)
	for i, p := range g.pairs {
		if leaf == 1 {
			b = append(b, p.val...)
		} else {
			b = le.AppendUint32(b, uint32(place[g.children[i]]))
		}
	}
	return append(b, make([]byte, 244-len(b))...)
}

// wanted writes the nodes of the packed tree of l to the blocks, as many as it
// needs of them, within the bytes of an image, and returns these blocks.
func wanted(t *testing.T, all []byte, blocks []int, tree int, l []api.Entry) []int {
	t.Helper()
	s := &shoot{leaf: leaves[tree], levels: [][]*grown{{{}}}}
	for _, x := range l {
		s.add(x)
	}
	place := map[*grown]int{}
	for _, level := range s.levels {
		for _, g := range level {
			no := blocks[len(place)]
			b, e := seal.Seal(api.NodeKind, no, g.payload(tree, place))
			if e != api.OK {
				t.Fatal(e)
			}
			copy(all[256*no:256*no+256], b)
			place[g] = no
		}
	}
	return blocks[:len(place)]
}

// holds checks that Tree writes the tree of l, and nothing else, to the next
// blocks of a, and that it is read back. It returns the root.
func holds(t *testing.T, a *alloc.Alloc, tree int, l []api.Entry) int {
	t.Helper()
	m := a.Image()
	want, used, rest := m.Bytes(), a.Used(), a.Ahead(math.MaxInt)
	blocks := wanted(t, want, rest, tree, l)
	kept := slices.Clone(l)
	root, err := build.Tree(a, tree, l)
	if err != nil || root != blocks[len(blocks)-1] {
		t.Fatalf("tree %d with %d entries: %d, %v, not %d", tree, len(l), root, err, blocks[len(blocks)-1])
	}
	if !bytes.Equal(m.Bytes(), want) {
		for no := range m.Blocks() {
			if got, _ := m.Read(no); !bytes.Equal(got, want[256*no:256*no+256]) {
				t.Fatalf("tree %d with %d entries: block %d is %x, not %x", tree, len(l), no, got, want[256*no:256*no+256])
			}
		}
	}
	if a.Used() != used+len(blocks) || !slices.Equal(a.Ahead(math.MaxInt), rest[len(blocks):]) {
		t.Fatalf("tree %d with %d entries: %d used, not %d, or others left", tree, len(l), a.Used(), used+len(blocks))
	}
	if !slices.Equal(l, kept) {
		t.Fatalf("tree %d with %d entries: Tree has changed them", tree, len(l))
	}
	scans(t, m, root, tree, l, blocks)
	return root
}

// scans checks that the tree at root has the entries and the blocks, and no
// faults.
func scans(t *testing.T, m *image.Image, root, tree int, l []api.Entry, blocks []int) {
	t.Helper()
	w, err := walk.Whole(m, root, tree, len(blocks))
	if err != nil {
		t.Fatalf("tree %d with %d entries: %v", tree, len(l), err)
	}
	same := slices.EqualFunc(w.Entries, l, func(x, y api.Entry) bool { return x.Key == y.Key && x.Val == y.Val })
	if !same {
		t.Fatalf("tree %d with %d entries: they are read as %v", tree, len(l), w.Entries)
	}
	slices.Sort(w.Blocks)
	if !slices.Equal(w.Blocks, blocks) {
		t.Fatalf("tree %d with %d entries: its blocks are %v, not %v", tree, len(l), w.Blocks, blocks)
	}
}

// fails checks that Tree returns nothing but an error, without a write and
// without an allocation. It returns the error.
func fails(t *testing.T, a *alloc.Alloc, tree int, l []api.Entry) error {
	t.Helper()
	m := a.Image()
	before, used, rest := m.Bytes(), a.Used(), a.Ahead(math.MaxInt)
	whole := l[:cap(l)]
	kept := slices.Clone(whole)
	root, err := build.Tree(a, tree, l)
	if err == nil || root != 0 {
		t.Fatalf("tree %d with %d entries: %d, %v", tree, len(l), root, err)
	}
	if !bytes.Equal(m.Bytes(), before) {
		t.Fatalf("tree %d with %d entries: written, with %v", tree, len(l), err)
	}
	if a.Used() != used || !slices.Equal(a.Ahead(math.MaxInt), rest) {
		t.Fatalf("tree %d with %d entries: allocated, with %v", tree, len(l), err)
	}
	if !slices.Equal(whole, kept) {
		t.Fatalf("tree %d with %d entries: changed, with %v", tree, len(l), err)
	}
	return err
}

// refuses checks that Tree returns one number, which nothing wraps, and does
// nothing.
func refuses(t *testing.T, what string, a *alloc.Alloc, tree int, l []api.Entry, want api.Errno) {
	t.Helper()
	if err := fails(t, a, tree, l); err != error(want) {
		t.Fatalf("%s: %v, not %v", what, err, want)
	}
}

// The chapter's example.
func TestExample(t *testing.T) {
	m := garbage(9)
	l := some(2, 13, 0, 1)
	root, err := build.Tree(from(t, m, 5), 2, l)
	if root != 7 || err != nil {
		t.Fatalf("%d, %v", root, err)
	}
	for no, keys := range map[int][]int{5: rising(0, 12), 6: {12}} {
		n, err := block.Node(m, no, 2)
		if err != nil || !n.Leaf || !slices.Equal(n.Keys, keys) {
			t.Errorf("block %d: %v, %v", no, n, err)
		}
		for i, key := range n.Keys {
			if n.Vals[i] != l[key].Val {
				t.Errorf("block %d: the Val of %d is %x", no, key, n.Vals[i])
			}
		}
	}
	n, err := block.Node(m, 7, 2)
	if err != nil || n.Leaf || !slices.Equal(n.Keys, []int{0, 12}) || !slices.Equal(n.Vals, []string{"\x05\x00\x00\x00", "\x06\x00\x00\x00"}) {
		t.Errorf("block 7: %v, %v", n, err)
	}
}

// has checks that block no is an internal node of tree 3 with the keys and the
// children.
func has(t *testing.T, m *image.Image, no int, keys, children []int) {
	t.Helper()
	n, err := block.Node(m, no, 3)
	if err != nil || n.Leaf || !slices.Equal(n.Keys, keys) || len(n.Vals) != len(children) {
		t.Fatalf("block %d: %v, %v", no, n, err)
	}
	for i, child := range children {
		if n.Vals[i] != string([]byte{byte(child), 0, 0, 0}) {
			t.Errorf("block %d: the Vals %x, not the blocks %v", no, n.Vals, children)
		}
	}
}

// P17.1: a tree of three levels by hand: 20 leaves, of which the last one has one
// key only, two nodes above them, and the root.
func TestLevels(t *testing.T) {
	m := garbage(40)
	if root, err := build.Tree(from(t, m, 3), 3, some(3, 19*6+1, 1000, 10)); root != 25 || err != nil {
		t.Fatalf("%d, %v", root, err)
	}
	var firsts []int
	for i := range 20 {
		key := 1000 + 60*i
		firsts = append(firsts, key)
		keys := []int{key, key + 10, key + 20, key + 30, key + 40, key + 50}
		if i == 19 {
			keys = keys[:1]
		}
		if n, err := block.Node(m, 3+i, 3); err != nil || !n.Leaf || !slices.Equal(n.Keys, keys) {
			t.Errorf("leaf %d: %v, %v", i, n, err)
		}
	}
	has(t, m, 23, firsts[:18], rising(3, 21))
	has(t, m, 24, firsts[18:], []int{21, 22})
	has(t, m, 25, []int{1000, 2080}, []int{23, 24})
}

// P17.1, P17.2: each tree with each number of entries up to some that need three
// levels.
func TestEveryCount(t *testing.T) {
	for tree := 1; tree <= 5; tree++ {
		for n := range leaves[tree]*19 + 3 {
			m := garbage(50)
			holds(t, from(t, m, 1+n%20), tree, some(tree, n, n%7, 1+n%5))
		}
	}
}

// P17.1, P17.2: trees with about as many entries as fill all nodes of their
// levels, and with the greatest number of them.
func TestLarge(t *testing.T) {
	for tree := 1; tree <= 5; tree++ {
		full := leaves[tree] * fan * fan
		for _, n := range []int{1000, 4097, full - 1, full, full + 1, 2*full + 5, greatest - 1, greatest} {
			holds(t, from(t, garbage(14400), 8000), tree, some(tree, n, 5, 3))
		}
	}
}

// P17.1: an empty tree is one leaf, without keys.
func TestEmpty(t *testing.T) {
	for tree := 1; tree <= 5; tree++ {
		m := garbage(4)
		a := from(t, m, 2)
		if root := holds(t, a, tree, nil); root != 2 {
			t.Fatalf("tree %d: block %d", tree, root)
		}
		if root := holds(t, a, tree, []api.Entry{}); root != 3 {
			t.Fatalf("tree %d: block %d", tree, root)
		}
		n, err := block.Node(m, 2, tree)
		if err != nil || n.Tree != tree || !n.Leaf || len(n.Keys)+len(n.Vals) != 0 {
			t.Errorf("tree %d: %v, %v", tree, n, err)
		}
	}
}

// P17.1: keys at both ends of their range, and random ones between them, with
// random Vals.
func TestKeys(t *testing.T) {
	r := source(1)
	for tree := 1; tree <= 5; tree++ {
		holds(t, from(t, garbage(9), 1), tree, entries(tree, 0))
		holds(t, from(t, garbage(9), 1), tree, entries(tree, lastKey))
		holds(t, from(t, garbage(9), 1), tree, entries(tree, 0, lastKey))
		holds(t, from(t, garbage(9), 1), tree, entries(tree, 0, 1, 255, 256, 1<<16, 1<<31, 1<<32, 1<<32+1, 1<<40, lastKey-1, lastKey))
		holds(t, from(t, garbage(50), 1), tree, some(tree, 120, lastKey-119, 1))
		for range 60 {
			l := slices.Repeat([]int{0}, r.IntN(500))
			for i := range l {
				l[i] = r.IntN(lastKey + 1)
			}
			slices.Sort(l)
			x := entries(tree, slices.Compact(l)...)
			for i := range x {
				b := make([]byte, widths[tree])
				for k := range b {
					b[k] = byte(r.Uint32())
				}
				x[i].Val, x[i].At = string(b), r.Int()-r.Int()
			}
			holds(t, from(t, garbage(120), 1), tree, x)
		}
	}
}

// P17.1: the Vals may be any bytes of the right width, also such as are no value
// of the tree.
func TestAnyVals(t *testing.T) {
	for tree := 1; tree <= 5; tree++ {
		for _, b := range []byte{0, 1, 127, 128, 255} {
			l := some(tree, 50, 0, 1)
			for i := range l {
				l[i].Val = string(bytes.Repeat([]byte{b}, widths[tree]))
			}
			holds(t, from(t, garbage(30), 1), tree, l)
		}
	}
}

// P17.1: what the entries have as At does not count.
func TestAt(t *testing.T) {
	for tree := 1; tree <= 5; tree++ {
		l := some(tree, 130, 2, 3)
		one, two := garbage(40), garbage(40)
		for i := range l {
			l[i].At = 0
		}
		holds(t, from(t, one, 4), tree, l)
		for i := range l {
			l[i].At = []int{-1, 4, math.MaxInt, math.MinInt, 1 << 32, i}[i%6]
		}
		holds(t, from(t, two, 4), tree, l)
		if !bytes.Equal(one.Bytes(), two.Bytes()) {
			t.Errorf("tree %d: another image", tree)
		}
	}
}

// P17.1: allocators of lists with gaps, whose blocks are taken in order, up to
// the last one of the greatest image.
func TestGaps(t *testing.T) {
	r := source(2)
	last := of(t, garbage(14400), 1, 255, 256, 257, 4095, 4096, 8191, 8192, 14397, 14398, 14399)
	if root := holds(t, last, 3, some(3, 60, 0, 1)); root != 14399 || last.Left() != 0 {
		t.Errorf("%d, and %d left", root, last.Left())
	}
	for range 100 {
		var l []int
		for no := 1; no < 400; no++ {
			if r.IntN(4) == 0 {
				l = append(l, no)
			}
		}
		tree := 1 + r.IntN(5)
		holds(t, of(t, garbage(400), l...), tree, some(tree, r.IntN(leaves[tree]*40), r.IntN(99), 1+r.IntN(9)))
	}
}

// P17.1, P17.2: trees that are written one after the other by one allocator, with
// other blocks between them, stay as they are.
func TestSeveral(t *testing.T) {
	r := source(3)
	m := garbage(400)
	a := from(t, m, 3)
	type laid struct {
		root, tree int
		l          []api.Entry
		blocks     []int
	}
	var all []laid
	for a.Left() > 60 {
		switch r.IntN(3) {
		case 0:
			a.Next()
		case 1:
			a.Lay(api.BitsKind, []byte{1, 0, 0, 0, 1})
		}
		x := laid{tree: 1 + r.IntN(5)}
		x.l = some(x.tree, r.IntN(200), r.IntN(50), 1+r.IntN(4))
		before := a.Ahead(math.MaxInt)
		x.root = holds(t, a, x.tree, x.l)
		x.blocks = before[:len(before)-a.Left()]
		all = append(all, x)
	}
	if len(all) < 10 {
		t.Fatalf("%d trees only", len(all))
	}
	for _, x := range all {
		scans(t, m, x.root, x.tree, x.l, x.blocks)
	}
}

// P17.1: nothing is allocated where the blocks do not suffice, and the tree is
// written where they do, with none to spare.
func TestNoSpace(t *testing.T) {
	for tree := 1; tree <= 5; tree++ {
		for _, n := range []int{0, 1, leaves[tree], leaves[tree] + 1, 50, leaves[tree] * 18, leaves[tree]*18 + 1, 400} {
			l := some(tree, n, 9, 2)
			need := len(wanted(t, make([]byte, 256*400), rising(0, 400), tree, l))
			for left := range need {
				m := garbage(left + 4)
				refuses(t, "no space", from(t, m, 4), tree, l, api.ErrNoSpace)
				refuses(t, "no space", of(t, m, rising(1, left+1)...), tree, l, api.ErrNoSpace)
			}
			a := from(t, garbage(need+4), 4)
			holds(t, a, tree, l)
			if a.Left() != 0 {
				t.Fatalf("tree %d with %d entries: %d blocks left", tree, n, a.Left())
			}
			refuses(t, "no space any more", a, tree, l, api.ErrNoSpace)
			refuses(t, "no space any more", a, tree, nil, api.ErrNoSpace)
		}
	}
}

// P17.1: the greatest trees have space in the greatest image, but not in one with
// a block less than they need.
func TestNoSpaceLarge(t *testing.T) {
	for tree, need := range []int{0, 1930, 2893, 5784, 3857, 1930} {
		if tree == 0 {
			continue
		}
		l := some(tree, greatest, 0, 1)
		a := from(t, garbage(need+1), 2)
		refuses(t, "no space", a, tree, l, api.ErrNoSpace)
		a = from(t, garbage(need+1), 1)
		if root := holds(t, a, tree, l); root != need || a.Left() != 0 {
			t.Errorf("tree %d: %d, and %d left", tree, root, a.Left())
		}
	}
}

// P17.1: trees that do not exist.
func TestNoTree(t *testing.T) {
	m := garbage(30)
	for _, tree := range noTrees {
		for _, a := range []*alloc.Alloc{from(t, m, 1), from(t, m, 30)} {
			refuses(t, "no tree", a, tree, nil, api.ErrArg)
			for width := range 26 {
				val := string(make([]byte, width))
				refuses(t, "no tree", a, tree, []api.Entry{{Key: 1, Val: val}}, api.ErrArg)
				refuses(t, "no tree", a, tree, []api.Entry{{Key: 1, Val: val}, {Key: 2, Val: val}}, api.ErrArg)
			}
		}
	}
}

// P17.1: more entries than a tree may have, where there is space and where there
// is none.
func TestTooMany(t *testing.T) {
	m := garbage(14400)
	for tree := 1; tree <= 5; tree++ {
		l := some(tree, greatest+1, 0, 1)
		refuses(t, "too many", from(t, m, 1), tree, l, api.ErrArg)
		refuses(t, "too many", of(t, m), tree, l, api.ErrArg)
		refuses(t, "too many", from(t, m, 1), tree, append(l, some(tree, greatest, greatest+1, 1)...), api.ErrArg)
		refuses(t, "too many", from(t, m, 1), tree, some(tree, 1<<16+1, 0, 1), api.ErrArg)
	}
}

// wrong checks that a tree of sound entries with a change at index i is refused,
// with much space and with none.
func wrong(t *testing.T, what string, tree, n, i int, change func(x *api.Entry)) {
	t.Helper()
	l := append(make([]api.Entry, 0, n+3), some(tree, n, 100, 2)...)
	change(&l[i])
	m := garbage(400)
	refuses(t, what, from(t, m, 1), tree, l, api.ErrArg)
	refuses(t, what, of(t, m), tree, l, api.ErrArg)
}

// P17.1: keys that do not rise, or not strictly, wherever in the list they are,
// also across two leaves.
func TestOrder(t *testing.T) {
	for tree := 1; tree <= 5; tree++ {
		n := leaves[tree]*2 + 2
		for i := 1; i < n; i++ {
			for _, key := range []int{98 + 2*i, 97 + 2*i, 1, 0} {
				wrong(t, "order", tree, n, i, func(x *api.Entry) { x.Key = key })
			}
			for _, key := range []int{100 + 2*i, 101 + 2*i, lastKey} {
				wrong(t, "order", tree, n, i-1, func(x *api.Entry) { x.Key = key })
			}
		}
		m := garbage(400)
		refuses(t, "order", from(t, m, 1), tree, entries(tree, 0, 0), api.ErrArg)
		refuses(t, "order", from(t, m, 1), tree, entries(tree, lastKey, lastKey), api.ErrArg)
		refuses(t, "order", from(t, m, 1), tree, entries(tree, lastKey, 0), api.ErrArg)
		l := some(tree, n, 100, 2)
		slices.Reverse(l)
		refuses(t, "order", from(t, m, 1), tree, l, api.ErrArg)
	}
}

// P17.1: keys out of their range, at each index, also such as rise.
func TestRange(t *testing.T) {
	for tree := 1; tree <= 5; tree++ {
		n := leaves[tree] + 2
		for i := range n {
			for _, key := range []int{-1, -2, -256, -1 << 16, -1 << 48, 100 - 1<<48, math.MinInt, math.MinInt + 1, lastKey + 1, lastKey + 2, 1<<48 + 100 + 2*i, 1<<56 + 100 + 2*i, math.MaxInt - 1, math.MaxInt} {
				wrong(t, "range", tree, n, i, func(x *api.Entry) { x.Key = key })
			}
		}
		m := garbage(400)
		for _, keys := range [][]int{{-1}, {lastKey + 1}, {-1, 0}, {-2, -1}, {math.MinInt, 0}, {0, lastKey + 1}, {lastKey, lastKey + 1}, {lastKey + 1, lastKey + 2}, {math.MaxInt, math.MinInt}, {math.MaxInt}, {math.MaxInt, math.MaxInt}} {
			refuses(t, "range", from(t, m, 1), tree, entries(tree, keys...), api.ErrArg)
		}
	}
}

// P17.1: Vals that do not have the width of the tree's leaves, at each index; all
// other widths that a node may have are among them, that of internal nodes too.
func TestWidth(t *testing.T) {
	for tree := 1; tree <= 5; tree++ {
		n := leaves[tree] + 2
		for i := range n {
			for _, width := range []int{0, 1, 3, 4, 5, 7, 8, 9, 12, 15, 16, 17, 20, 23, 24, 25, 32, 244, 256 + widths[tree], 1<<16 + widths[tree]} {
				if width != widths[tree] {
					wrong(t, "width", tree, n, i, func(x *api.Entry) { x.Val = string(make([]byte, width)) })
				}
			}
		}
		m := garbage(400)
		for width := range 260 {
			if width == widths[tree] {
				continue
			}
			l := some(tree, 30, 0, 1)
			for i := range l {
				l[i].Val = string(make([]byte, width))
			}
			refuses(t, "width", from(t, m, 1), tree, l, api.ErrArg)
			refuses(t, "width", from(t, m, 1), tree, l[:1], api.ErrArg)
		}
		// The bytes of a Val count, not its letters.
		short := string(slices.Repeat([]rune{0xe9}, widths[tree]))
		refuses(t, "width", from(t, m, 1), tree, []api.Entry{{Key: 1, Val: short}}, api.ErrArg)
	}
}

// P17.1: nil allocators, and those that neither New nor From returned, whatever
// the other arguments are.
func TestNone(t *testing.T) {
	m := garbage(40)
	a := from(t, m, 2)
	assigned := *a
	for _, none := range []*alloc.Alloc{nil, {}, &assigned} {
		for tree := -1; tree <= 7; tree++ {
			for _, l := range [][]api.Entry{nil, some(2, 13, 0, 1), some(3, 500, 0, 1), some(1, 40000, 0, 1), entries(5, 2, 1), entries(4, -1), {{Key: 1, Val: "x"}}} {
				refuses(t, "none", none, tree, l, api.ErrNone)
			}
		}
	}
	if !bytes.Equal(m.Bytes(), garbage(40).Bytes()) {
		t.Error("written by what is no allocator")
	}
	if root := holds(t, a, 2, some(2, 13, 0, 1)); root != 4 {
		t.Errorf("the root is in block %d", root)
	}
}

// P17.1: after an error, the next tree is written where the refused one would
// have been.
func TestAfterErrors(t *testing.T) {
	for tree := 1; tree <= 5; tree++ {
		m := garbage(12)
		a := from(t, m, 2)
		refuses(t, "no space", a, tree, some(tree, leaves[tree]*10, 0, 1), api.ErrNoSpace)
		refuses(t, "no tree", a, tree+5, some(tree, 2, 0, 1), api.ErrArg)
		refuses(t, "order", a, tree, entries(tree, 4, 4), api.ErrArg)
		if root := holds(t, a, tree, some(tree, leaves[tree]*9, 0, 1)); root != 11 || a.Left() != 0 {
			t.Errorf("tree %d: the root is in block %d", tree, root)
		}
	}
}

// P17.1: if the image has lost its blocks, the error is that of the first leaf,
// which Lay does not write, and no block is allocated; the other errors precede
// it.
func TestLost(t *testing.T) {
	for tree := 1; tree <= 5; tree++ {
		m := garbage(100)
		a := of(t, m, rising(7, 90)...)
		*m = image.Image{}
		for _, n := range []int{0, 1, leaves[tree], leaves[tree] + 1, leaves[tree]*18 + 1} {
			err := fails(t, a, tree, some(tree, n, 0, 1))
			if fault.Code(err) != api.ErrEnd || !slices.Equal(fault.Blocks(err), []int{7}) || fault.Text(err) != "block 7: error 3" {
				t.Fatalf("tree %d with %d entries: %v", tree, n, err)
			}
		}
		refuses(t, "lost", a, tree, entries(tree, -1), api.ErrArg)
		refuses(t, "lost", a, tree, some(tree, 4000, 0, 1), api.ErrNoSpace)
		if no, err := a.Next(); no != 7 || err != nil {
			t.Fatalf("after a lost image: %d, %v", no, err)
		}
	}
}

// P17.1: the entries, and the memory behind them, stay as they are, and a change
// of them does not change the tree.
func TestEntriesOwn(t *testing.T) {
	for tree := 1; tree <= 5; tree++ {
		whole := some(tree, 200, 0, 1)
		kept := slices.Clone(whole)
		m := garbage(60)
		a := from(t, m, 1)
		l := whole[20:140]
		root := holds(t, a, tree, l)
		if !slices.Equal(whole, kept) {
			t.Fatalf("tree %d: the entries are %v", tree, whole)
		}
		blocks, want := a.Used(), m.Bytes()
		clear(whole)
		scans(t, m, root, tree, kept[20:140], rising(1, blocks+1))
		if !bytes.Equal(m.Bytes(), want) {
			t.Fatalf("tree %d: a change of the entries has changed the image", tree)
		}
	}
}

// P17.2: in a tree that was built, each entry is read from the leaf that has it,
// and the leaves are as deep as the tree has levels.
func TestLeaves(t *testing.T) {
	for tree := 1; tree <= 5; tree++ {
		for n, deep := range map[int]int{0: 1, 1: 1, leaves[tree]: 1, leaves[tree] + 1: 2, leaves[tree] * 18: 2, leaves[tree]*18 + 1: 3, leaves[tree]*18*18 + 1: 4} {
			m := garbage(400)
			l := some(tree, n, 4, 1)
			root := holds(t, from(t, m, 10), tree, l)
			w := walk.Scan(m, root, tree, api.Fuel)
			if w.Deep != deep || len(w.Faults) != 0 || w.Looked != len(w.Blocks) {
				t.Fatalf("tree %d with %d entries: depth %d, faults %v", tree, n, w.Deep, w.Faults)
			}
			for i, x := range w.Entries {
				if x.At != 10+i/leaves[tree] {
					t.Fatalf("tree %d with %d entries: the one with index %d is in block %d", tree, n, i, x.At)
				}
			}
		}
	}
}
