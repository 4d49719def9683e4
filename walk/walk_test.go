package walk_test

import (
	"bytes"
	"encoding/binary"
	"maps"
	"math"
	"math/rand/v2"
	"slices"
	"testing"

	"scantling/api"
	"scantling/block"
	"scantling/fault"
	"scantling/image"
	"scantling/node"
	"scantling/walk"
)

// plenty is more fuel than any scan of these tests needs.
const plenty = 1 << 40

// source returns a random source that is the same in each run.
func source(n uint64) *rand.Rand {
	return rand.New(rand.NewPCG(14, n))
}

// ref returns an integer as a Val of an internal node, whether it is a root or
// not.
func ref(n int) string {
	return string(binary.LittleEndian.AppendUint32(nil, uint32(n)))
}

// inner returns an internal node of tree 5 with keys and, behind them, as many
// children.
func inner(l ...int) api.Node {
	half := len(l) / 2
	n := api.Node{Tree: 5, Keys: l[:half]}
	for _, child := range l[half:] {
		n.Vals = append(n.Vals, ref(child))
	}
	return n
}

// leaf returns a leaf of tree 5 whose Vals differ from key to key.
func leaf(keys ...int) api.Node {
	n := api.Node{Tree: 5, Leaf: true, Keys: keys}
	for _, key := range keys {
		n.Vals = append(n.Vals, ref(key*7+1))
	}
	return n
}

// of returns the node as one of another tree, whose leaves have that width.
func of(n api.Node, tree, width int) api.Node {
	n.Tree = tree
	for i := range n.Vals {
		if n.Leaf {
			n.Vals[i] = string(bytes.Repeat([]byte{byte(i + tree)}, width))
		}
	}
	return n
}

// nodes are the nodes of an image, by their blocks.
type nodes map[int]api.Node

// image returns an image of that many blocks with the nodes.
func (l nodes) image(t *testing.T, blocks int) *image.Image {
	t.Helper()
	m, e := image.New(blocks)
	if e != api.OK {
		t.Fatal(e)
	}
	for no, n := range l {
		put(t, m, no, n)
	}
	return m
}

// put writes a node as block no.
func put(t *testing.T, m *image.Image, no int, n api.Node) {
	t.Helper()
	in, e := node.Put(n)
	if e != api.OK {
		t.Fatalf("node %v: %v", n, e)
	}
	if err := block.Write(m, no, api.NodeKind, in); err != nil {
		t.Fatalf("block %d: %v", no, err)
	}
}

// damage flips a bit of block no.
func damage(t *testing.T, m *image.Image, no, bit int) {
	t.Helper()
	b, e := m.Read(no)
	if e != api.OK {
		t.Fatal(e)
	}
	b[bit/8] ^= 1 << (bit % 8)
	if e = m.Write(no, b); e != api.OK {
		t.Fatal(e)
	}
}

// wrong is a fault: an error at the last of the blocks, with the others above it.
type wrong struct {
	e      api.Errno
	blocks []int
}

// bad returns a fault.
func bad(e api.Errno, blocks ...int) wrong {
	return wrong{e, blocks}
}

// found is a Walked with faults spelt out.
type found struct {
	entries      []api.Entry
	blocks       []int
	deep, looked int
	faults       []wrong
}

// place is a visit that is still to come: of block no, which has these blocks
// above it, with the keys from lo to hi-1, or a fault that is due there.
type place struct {
	no     int
	above  []int
	lo, hi int
	due    api.Errno
}

// under returns the places of an internal node's children.
func (p place) under(n api.Node) []place {
	var l []place
	for i, key := range n.Keys {
		c := place{above: append(slices.Clone(p.above), p.no), lo: key, hi: p.hi}
		if i+1 < len(n.Keys) {
			c.hi = n.Keys[i+1]
		}
		c.no = int(binary.LittleEndian.Uint32([]byte(n.Vals[i])))
		if c.no < 1 || c.no > 14399 {
			c.due = api.ErrRange
		}
		l = append(l, c)
	}
	return l
}

// look returns the node at a place, or what is wrong with it, if leaves must be
// at that depth (anywhere, if it is 0).
func (p place) look(m *image.Image, tree, deep int) (api.Node, api.Errno) {
	depth := 1
	for _, no := range p.above {
		if no == p.no {
			return api.Node{}, api.ErrLoop
		}
		depth++
	}
	if depth >= 17 {
		return api.Node{}, api.ErrDepth
	}
	n, err := block.Node(m, p.no, tree)
	if err != nil {
		return api.Node{}, fault.Code(err)
	}
	for _, key := range n.Keys {
		if key < p.lo || key >= p.hi {
			return api.Node{}, api.ErrKey
		}
	}
	if n.Leaf && deep > 0 && depth != deep {
		return api.Node{}, api.ErrDepth
	}
	return n, api.OK
}

// wanted returns what a scan finds, by a list of places that are still to be
// visited instead of calls within calls.
func wanted(m *image.Image, root, tree, fuel int) found {
	var w found
	left := []place{{no: root, hi: 1 << 48}}
	for len(left) > 0 {
		p := left[0]
		left = left[1:]
		path := append(slices.Clone(p.above), p.no)
		switch {
		case p.due != api.OK:
			w.faults = append(w.faults, bad(p.due, p.above...))
			continue
		case fuel <= 0:
			w.faults = append(w.faults, bad(api.ErrFuel, path...))
			return w
		}
		fuel--
		w.looked++
		n, e := p.look(m, tree, w.deep)
		if e != api.OK {
			w.faults = append(w.faults, bad(e, path...))
			continue
		}
		w.blocks = append(w.blocks, p.no)
		if !n.Leaf {
			left = append(p.under(n), left...)
			continue
		}
		w.deep = len(path)
		for i := range n.Keys {
			w.entries = append(w.entries, api.Entry{Key: n.Keys[i], Val: n.Vals[i], At: p.no})
		}
	}
	return w
}

// spelt returns the blocks of an error and its innermost number. It fails on any
// other error than Faults around an Errno.
func spelt(t *testing.T, err error) wrong {
	t.Helper()
	var w wrong
	for e := err; ; {
		switch x := e.(type) {
		case *api.Fault:
			w.blocks = append(w.blocks, x.Block)
			e = x.Err
		case api.Errno:
			w.e = x
			return w
		default:
			t.Fatalf("%#v within %#v", e, err)
		}
	}
}

// alike fails unless a result is the one that is wanted.
func alike(t *testing.T, got walk.Walked, want found) {
	t.Helper()
	if !slices.Equal(got.Entries, want.entries) {
		t.Fatalf("entries %v, not %v", got.Entries, want.entries)
	}
	if !slices.Equal(got.Blocks, want.blocks) {
		t.Fatalf("blocks %v, not %v", got.Blocks, want.blocks)
	}
	if got.Deep != want.deep || got.Looked != want.looked {
		t.Fatalf("depth %d and %d examined, not %d and %d", got.Deep, got.Looked, want.deep, want.looked)
	}
	if len(got.Faults) != len(want.faults) {
		t.Fatalf("faults %v, not %v", got.Faults, want.faults)
	}
	for i, err := range got.Faults {
		w := spelt(t, err)
		if w.e != want.faults[i].e || !slices.Equal(w.blocks, want.faults[i].blocks) {
			t.Fatalf("fault %d: %v, not %v", i, w, want.faults[i])
		}
	}
}

// bounds fails unless a result keeps what holds for every scan.
func bounds(t *testing.T, got walk.Walked, fuel int) {
	t.Helper()
	if got.Looked > max(fuel, 0) {
		t.Fatalf("%d examined with fuel %d", got.Looked, fuel)
	}
	for i := 1; i < len(got.Entries); i++ {
		if got.Entries[i-1].Key >= got.Entries[i].Key {
			t.Fatalf("the keys of the entries %v do not rise", got.Entries)
		}
	}
	for i, err := range got.Faults {
		if fault.Is(err, api.ErrFuel) && (i < len(got.Faults)-1 || got.Looked != max(fuel, 0)) {
			t.Fatalf("fault %d of %v with fuel %d, %d examined", i, got.Faults, fuel, got.Looked)
		}
	}
}

// holds checks Scan and Whole of a tree.
func holds(t *testing.T, m *image.Image, root, tree, fuel int, want found) {
	t.Helper()
	kept := m.Bytes()
	got := walk.Scan(m, root, tree, fuel)
	alike(t, got, want)
	bounds(t, got, fuel)
	w, err := walk.Whole(m, root, tree, fuel)
	if len(want.faults) == 0 {
		if err != nil {
			t.Fatalf("whole: %v", err)
		}
		alike(t, w, want)
	} else {
		alike(t, w, found{})
		if err == nil {
			t.Fatalf("whole: no error, not %v", want.faults[0])
		}
		alike(t, walk.Walked{Faults: []error{err}}, found{faults: want.faults[:1]})
	}
	if !bytes.Equal(m.Bytes(), kept) {
		t.Fatal("the image has been changed")
	}
}

// agrees checks a tree with the least fuel that it needs, with more, and with
// all lesser amounts up to a few.
func agrees(t *testing.T, m *image.Image, root, tree int) found {
	t.Helper()
	all := wanted(m, root, tree, plenty)
	for _, fuel := range []int{math.MinInt, -1, all.looked, all.looked + 1, api.Fuel, math.MaxInt} {
		want := wanted(m, root, tree, fuel)
		holds(t, m, root, tree, fuel, want)
		if fuel >= all.looked {
			holds(t, m, root, tree, fuel, all)
		}
	}
	for fuel := range min(all.looked, 12) {
		holds(t, m, root, tree, fuel, wanted(m, root, tree, fuel))
	}
	return all
}

// entries returns the entries of leaves of tree 5: of each block, the keys.
func entries(l ...[]int) []api.Entry {
	var all []api.Entry
	for _, x := range l {
		for _, key := range x[1:] {
			all = append(all, api.Entry{Key: key, Val: ref(key*7 + 1), At: x[0]})
		}
	}
	return all
}

// The chapter's example.
func TestExample(t *testing.T) {
	m := nodes{1: leaf()}.image(t, 2)
	w := walk.Scan(m, 1, 5, 10)
	if len(w.Entries) != 0 || w.Deep != 1 || w.Looked != 1 || !slices.Equal(w.Blocks, []int{1}) || len(w.Faults) != 0 {
		t.Errorf("%v", w)
	}
}

// tree returns the image of a tree of nine nodes without faults, whose blocks
// are in another order than its nodes, and what a scan from block 4 on finds.
func tree(t *testing.T) (*image.Image, found) {
	t.Helper()
	m := nodes{
		4: inner(2, 9, 30, 7, 1, 9),
		7: inner(2, 5, 6, 3),
		1: inner(11, 2),
		9: inner(30, 40, 5, 8),
		6: leaf(2, 4), 3: leaf(5), 2: leaf(11, 12, 29), 5: leaf(), 8: leaf(40, api.MaxKey),
	}.image(t, 10)
	return m, found{
		entries: entries([]int{6, 2, 4}, []int{3, 5}, []int{2, 11, 12, 29}, []int{8, 40, api.MaxKey}),
		blocks:  []int{4, 7, 6, 3, 1, 2, 9, 5, 8},
		deep:    3, looked: 9,
	}
}

// P14.1, P14.2: a tree without faults, and its subtrees.
func TestTree(t *testing.T) {
	m, want := tree(t)
	for _, fuel := range []int{9, 10, api.Fuel, math.MaxInt} {
		holds(t, m, 4, 5, fuel, want)
	}
	for root, want := range map[int]found{
		7: {entries([]int{6, 2, 4}, []int{3, 5}), []int{7, 6, 3}, 2, 3, nil},
		1: {entries([]int{2, 11, 12, 29}), []int{1, 2}, 2, 2, nil},
		9: {entries([]int{8, 40, api.MaxKey}), []int{9, 5, 8}, 2, 3, nil},
		2: {entries([]int{2, 11, 12, 29}), []int{2}, 1, 1, nil},
		5: {nil, []int{5}, 1, 1, nil},
	} {
		holds(t, m, root, 5, plenty, want)
		agrees(t, m, root, 5)
	}
}

// P14.1, P14.2: a tree that needs more fuel than there is.
func TestFuel(t *testing.T) {
	m, all := tree(t)
	for fuel, x := range []struct {
		path    []int
		entries int
		deep    int
	}{
		{[]int{4}, 0, 0},
		{[]int{4, 7}, 0, 0},
		{[]int{4, 7, 6}, 0, 0},
		{[]int{4, 7, 3}, 2, 3},
		{[]int{4, 1}, 3, 3},
		{[]int{4, 1, 2}, 3, 3},
		{[]int{4, 9}, 6, 3},
		{[]int{4, 9, 5}, 6, 3},
		{[]int{4, 9, 8}, 6, 3},
	} {
		want := found{all.entries[:x.entries], all.blocks[:fuel], x.deep, fuel, []wrong{bad(api.ErrFuel, x.path...)}}
		holds(t, m, 4, 5, fuel, want)
		if fuel > 0 {
			continue
		}
		for _, less := range []int{-1, -2, -1 << 32, 1 - 1<<32, math.MinInt, math.MinInt + 1} {
			holds(t, m, 4, 5, less, want)
		}
	}
}

// P14.1: nodes with faults use fuel too.
func TestFuelFaults(t *testing.T) {
	m := nodes{1: inner(0, 1, 2, 3, 1, 9, 2, 3), 3: leaf(3)}.image(t, 4)
	faults := []wrong{bad(api.ErrLoop, 1, 1), bad(api.ErrEnd, 1, 9), bad(api.ErrSum, 1, 2)}
	for fuel := range 6 {
		w := found{looked: min(fuel, 5)}
		if fuel > 0 {
			w.blocks, w.faults = []int{1}, slices.Clone(faults[:min(fuel-1, 3)])
		}
		switch {
		case fuel == 0:
			w.faults = []wrong{bad(api.ErrFuel, 1)}
		case fuel < 5:
			w.faults = append(w.faults, bad(api.ErrFuel, 1, []int{0, 1, 9, 2, 3}[fuel]))
		default:
			w.blocks, w.entries, w.deep = []int{1, 3}, entries([]int{3, 3}), 2
		}
		holds(t, m, 1, 5, fuel, w)
	}
}

// P14.1, P14.2: each fault at the root, which is then all that is found.
func TestRoot(t *testing.T) {
	m := nodes{1: leaf(1), 3: of(leaf(1), api.Dev, 8), 4: inner(1, 1)}.image(t, 8)
	damage(t, m, 1, 77)
	moved, _ := m.Read(3)
	m.Write(5, moved)
	block.Write(m, 6, api.NodeKind, []byte{2})
	block.Write(m, 7, api.BitsKind, nil)
	for _, x := range []struct {
		root, tree int
		want       api.Errno
	}{
		{-1, 5, api.ErrEnd}, {8, 5, api.ErrEnd}, {8, 0, api.ErrEnd}, {14400, 5, api.ErrEnd}, {math.MaxInt, 5, api.ErrEnd}, {math.MinInt, 5, api.ErrEnd},
		{1<<32 + 4, 5, api.ErrEnd},
		{0, 5, api.ErrSum}, {1, 5, api.ErrSum}, {2, 5, api.ErrSum}, {7, 5, api.ErrSum},
		{5, 2, api.ErrNumber}, {5, 5, api.ErrNumber},
		{6, 5, api.ErrForm},
		{3, 5, api.ErrKind}, {3, 1, api.ErrKind}, {3, -1, api.ErrKind}, {3, 6, api.ErrKind}, {3, 258, api.ErrKind}, {4, 2, api.ErrKind}, {3, math.MinInt, api.ErrKind},
	} {
		holds(t, m, x.root, x.tree, plenty, found{looked: 1, faults: []wrong{bad(x.want, x.root)}})
		holds(t, m, x.root, x.tree, 1, found{looked: 1, faults: []wrong{bad(x.want, x.root)}})
		holds(t, m, x.root, x.tree, 0, found{faults: []wrong{bad(api.ErrFuel, x.root)}})
	}
}

// P14.1, P14.2: images that have no blocks.
func TestNoImage(t *testing.T) {
	none, _ := image.New(0)
	for _, x := range []struct {
		m    *image.Image
		want api.Errno
	}{{nil, api.ErrNone}, {new(image.Image), api.ErrEnd}, {none, api.ErrEnd}, {image.Of(nil), api.ErrEnd}} {
		for _, root := range []int{-1, 0, 1, math.MaxInt} {
			holds(t, x.m, root, 5, 3, found{looked: 1, faults: []wrong{bad(x.want, root)}})
			holds(t, x.m, root, 0, 1, found{looked: 1, faults: []wrong{bad(x.want, root)}})
			holds(t, x.m, root, 5, 0, found{faults: []wrong{bad(api.ErrFuel, root)}})
			agrees(t, x.m, root, 5)
		}
	}
}

// P14.1: the leaves of every tree, and nodes of several trees when any will do.
func TestTrees(t *testing.T) {
	for tree, width := range []int{0, 4, 8, 24, 16, 4} {
		if tree == 0 {
			continue
		}
		l := nodes{1: of(inner(1, 5, 2, 3), tree, 4), 2: of(leaf(1, 2), tree, width), 3: of(leaf(5, 9), tree, width)}
		m := l.image(t, 4)
		want := found{blocks: []int{1, 2, 3}, deep: 2, looked: 3}
		for _, no := range []int{2, 3} {
			for i, key := range l[no].Keys {
				want.entries = append(want.entries, api.Entry{Key: key, Val: l[no].Vals[i], At: no})
			}
		}
		holds(t, m, 1, tree, 3, want)
		holds(t, m, 1, 0, 3, want)
		for _, other := range []int{-1, 1, 2, 3, 4, 5, 6} {
			if other != tree {
				holds(t, m, 1, other, 3, found{looked: 1, faults: []wrong{bad(api.ErrKind, 1)}})
			}
		}
		put(t, m, 2, leaf(1, 2))
		want.entries = append(entries([]int{2, 1, 2}), want.entries[2:]...)
		holds(t, m, 1, 0, 3, want)
		if tree != 5 {
			holds(t, m, 1, tree, 3, found{want.entries[2:], []int{1, 3}, 2, 3, []wrong{bad(api.ErrKind, 1, 2)}})
		}
	}
}

// P14.1: a node below itself, at once or later, is a loop; one that is beside
// itself is none.
func TestLoop(t *testing.T) {
	m := nodes{1: inner(3, 1)}.image(t, 3)
	holds(t, m, 1, 5, plenty, found{blocks: []int{1}, looked: 2, faults: []wrong{bad(api.ErrLoop, 1, 1)}})
	m = nodes{
		1: inner(0, 10, 20, 2, 3, 2), 2: inner(0, 5), 3: inner(10, 12, 15, 4, 3, 1), 4: inner(10, 11, 5, 3), 5: leaf(),
	}.image(t, 6)
	holds(t, m, 1, 5, plenty, found{
		blocks: []int{1, 2, 5, 3, 4},
		deep:   3, looked: 10,
		faults: []wrong{bad(api.ErrDepth, 1, 3, 4, 5), bad(api.ErrLoop, 1, 3, 4, 3), bad(api.ErrLoop, 1, 3, 3), bad(api.ErrLoop, 1, 3, 1), bad(api.ErrKey, 1, 2)},
	})
	m = nodes{1: inner(0, 10, 20, 2, 2, 2), 2: leaf()}.image(t, 3)
	holds(t, m, 1, 5, plenty, found{blocks: []int{1, 2, 2, 2}, deep: 2, looked: 4})
}

// P14.1: a loop, a wrong kind and a damaged block that stand right behind the
// span's keys do not end the scan.
func TestGoesOn(t *testing.T) {
	m := nodes{
		1: inner(0, 10, 20, 30, 40, 50, 2, 3, 1, 4, 5, 9), 2: leaf(1, 9), 3: leaf(11), 4: of(leaf(31), 1, 4), 5: leaf(41, 49),
	}.image(t, 6)
	damage(t, m, 3, 100)
	holds(t, m, 1, 5, plenty, found{
		entries: entries([]int{2, 1, 9}, []int{5, 41, 49}),
		blocks:  []int{1, 2, 5}, deep: 2, looked: 7,
		faults: []wrong{bad(api.ErrSum, 1, 3), bad(api.ErrLoop, 1, 1), bad(api.ErrKind, 1, 4), bad(api.ErrEnd, 1, 9)},
	})
}

// P14.1: keys at the ends of spans, and outside of them.
func TestSpans(t *testing.T) {
	for _, x := range []struct {
		keys []int
		want api.Errno
	}{
		{nil, api.OK}, {[]int{10}, api.OK}, {[]int{19}, api.OK}, {[]int{10, 19}, api.OK}, {[]int{10, 11, 12, 18, 19}, api.OK},
		{[]int{9}, api.ErrKey}, {[]int{20}, api.ErrKey}, {[]int{9, 10}, api.ErrKey}, {[]int{10, 20}, api.ErrKey}, {[]int{12, 13, 25}, api.ErrKey},
		{[]int{0, 12}, api.ErrKey}, {[]int{0, 1}, api.ErrKey}, {[]int{20, 21}, api.ErrKey}, {[]int{5, 25}, api.ErrKey}, {[]int{api.MaxKey}, api.ErrKey},
	} {
		m := nodes{1: inner(5, 10, 20, 2, 3, 4), 2: leaf(5, 9), 3: leaf(x.keys...), 4: leaf(20, api.MaxKey)}.image(t, 5)
		want := found{blocks: []int{1, 2, 3, 4}, deep: 2, looked: 4}
		mid := append([]int{3}, x.keys...)
		if x.want != api.OK {
			mid, want.blocks, want.faults = []int{3}, []int{1, 2, 4}, []wrong{bad(x.want, 1, 3)}
		}
		want.entries = entries([]int{2, 5, 9}, mid, []int{4, 20, api.MaxKey})
		holds(t, m, 1, 5, plenty, want)
	}
}

// P14.1: a child's span ends where the next key of any node above begins, and an
// internal node's keys are held against its span too.
func TestInnerSpans(t *testing.T) {
	m := nodes{
		1: inner(0, 100, 2, 3), 2: inner(0, 50, 4, 5), 3: inner(99, 150, 6, 7),
		4: leaf(0, 49), 5: leaf(50, 99), 6: leaf(100), 7: leaf(150),
	}.image(t, 8)
	want := found{entries([]int{4, 0, 49}, []int{5, 50, 99}), []int{1, 2, 4, 5}, 3, 5, []wrong{bad(api.ErrKey, 1, 3)}}
	holds(t, m, 1, 5, plenty, want)
	put(t, m, 3, inner(100, 150, 6, 7))
	put(t, m, 5, leaf(50, 100))
	holds(t, m, 1, 5, plenty, found{
		entries([]int{4, 0, 49}, []int{6, 100}, []int{7, 150}), []int{1, 2, 4, 3, 6, 7}, 3, 7, []wrong{bad(api.ErrKey, 1, 2, 5)},
	})
	put(t, m, 2, inner(0, 50, 5, 4))
	put(t, m, 5, leaf(0))
	holds(t, m, 1, 5, plenty, found{
		entries([]int{5, 0}, []int{6, 100}, []int{7, 150}), []int{1, 2, 5, 3, 6, 7}, 3, 7, []wrong{bad(api.ErrKey, 1, 2, 4)},
	})
}

// P14.1: leaves must have the depth of the first leaf without a fault, not that
// of the first leaf.
func TestLeafDepth(t *testing.T) {
	m := nodes{
		1: inner(0, 10, 20, 30, 2, 3, 4, 5), 2: leaf(5), 3: inner(10, 6), 6: leaf(11), 4: leaf(25), 5: inner(30, 7), 7: inner(31, 8), 8: leaf(31),
	}.image(t, 9)
	holds(t, m, 1, 5, plenty, found{
		entries([]int{2, 5}, []int{4, 25}), []int{1, 2, 3, 4, 5, 7}, 2, 8, []wrong{bad(api.ErrDepth, 1, 3, 6), bad(api.ErrDepth, 1, 5, 7, 8)},
	})
	for name, spoil := range map[api.Errno]func(){
		api.ErrSum:  func() { damage(t, m, 2, 2000) },
		api.ErrKey:  func() { put(t, m, 2, leaf(5, 10)) },
		api.ErrKind: func() { put(t, m, 2, of(leaf(5), api.Top, 4)) },
	} {
		put(t, m, 2, leaf(5))
		spoil()
		holds(t, m, 1, 5, plenty, found{
			entries([]int{6, 11}), []int{1, 3, 6, 5, 7}, 3, 8, []wrong{bad(name, 1, 2), bad(api.ErrDepth, 1, 4), bad(api.ErrDepth, 1, 5, 7, 8)},
		})
	}
	put(t, m, 2, leaf())
	holds(t, m, 1, 5, plenty, found{
		entries([]int{4, 25}), []int{1, 2, 3, 4, 5, 7}, 2, 8, []wrong{bad(api.ErrDepth, 1, 3, 6), bad(api.ErrDepth, 1, 5, 7, 8)},
	})
}

// P14.1: Vals that are no roots are reported where their child would have been
// visited, at the node that has them, and use no fuel.
func TestVals(t *testing.T) {
	for _, n := range []int{0, 14400, 14401, 65536, 1<<31 - 1, 1 << 31, 1<<32 - 1} {
		m := nodes{
			1: inner(0, 10, 20, 30, n, 2, n, n), 2: inner(10, 12, 14, 3, n, 4), 3: leaf(11), 4: leaf(14, 15),
		}.image(t, 5)
		faults := []wrong{bad(api.ErrRange, 1), bad(api.ErrRange, 1, 2), bad(api.ErrRange, 1), bad(api.ErrRange, 1)}
		want := found{entries([]int{3, 11}, []int{4, 14, 15}), []int{1, 2, 3, 4}, 3, 4, faults}
		holds(t, m, 1, 5, 4, want)
		holds(t, m, 1, 5, 5, want)
		holds(t, m, 1, 5, 3, found{entries([]int{3, 11}), []int{1, 2, 3}, 3, 3, []wrong{faults[0], faults[1], bad(api.ErrFuel, 1, 2, 4)}})
		holds(t, m, 1, 5, 2, found{nil, []int{1, 2}, 0, 2, []wrong{faults[0], bad(api.ErrFuel, 1, 2, 3)}})
		holds(t, m, 1, 5, 1, found{nil, []int{1}, 0, 1, []wrong{faults[0], bad(api.ErrFuel, 1, 2)}})
		holds(t, m, 1, 5, 0, found{nil, nil, 0, 0, []wrong{bad(api.ErrFuel, 1)}})
	}
}

// P14.1: the first and the last block that a root can be.
func TestValEnds(t *testing.T) {
	m := nodes{7: inner(3, 5, 1, 14399), 1: leaf(3), 14399: leaf(5)}.image(t, 14400)
	want := found{entries([]int{1, 3}, []int{14399, 5}), []int{7, 1, 14399}, 2, 3, nil}
	holds(t, m, 7, 5, 3, want)
	holds(t, m, 14399, 5, 1, found{entries([]int{14399, 5}), []int{14399}, 1, 1, nil})
	m = nodes{7: inner(3, 5, 1, 14399), 1: leaf(3)}.image(t, 14399)
	holds(t, m, 7, 5, 3, found{entries([]int{1, 3}), []int{7, 1}, 2, 3, []wrong{bad(api.ErrEnd, 7, 14399)}})
	m = nodes{0: inner(3, 1), 1: leaf(3)}.image(t, 2)
	holds(t, m, 0, 5, 3, found{entries([]int{1, 3}), []int{0, 1}, 2, 2, nil})
}

// chain returns the blocks from 1 on of a tree of internal nodes with one child
// each, and, in block size, that node.
func chain(size int, last api.Node) nodes {
	l := nodes{size: last}
	for no := 1; no < size; no++ {
		l[no] = inner(0, no+1)
	}
	return l
}

// upTo returns the integers from 1 to n.
func upTo(n int) []int {
	var l []int
	for i := range n {
		l = append(l, i+1)
	}
	return l
}

// P14.1: as many nodes above one another as there may be, and more.
func TestDepth(t *testing.T) {
	for size := 1; size <= 20; size++ {
		m := chain(size, leaf(4)).image(t, 30)
		want := found{entries([]int{size, 4}), upTo(size), size, size, nil}
		if size > 16 {
			want = found{nil, upTo(16), 0, 17, []wrong{bad(api.ErrDepth, upTo(17)...)}}
		}
		holds(t, m, 1, 5, plenty, want)
	}
	m := chain(16, inner(0, 5, 17, 0)).image(t, 30)
	holds(t, m, 1, 5, plenty, found{nil, upTo(16), 0, 17, []wrong{bad(api.ErrDepth, upTo(17)...), bad(api.ErrRange, upTo(16)...)}})
}

// P14.1: which fault is reported where several apply.
func TestFirst(t *testing.T) {
	below := func(size, last int) nodes { return chain(size, inner(0, last)) }
	for _, x := range []struct {
		name   string
		l      nodes
		fuel   int
		looked int
		want   wrong
	}{
		{"no fuel for a loop", below(3, 3), 3, 3, bad(api.ErrFuel, 1, 2, 3, 3)},
		{"no fuel for a node that is too deep", below(16, 17), 16, 16, bad(api.ErrFuel, upTo(17)...)},
		{"no fuel for a block that is none", below(2, 99), 2, 2, bad(api.ErrFuel, 1, 2, 99)},
		{"a loop that is too deep", below(16, 4), 17, 17, bad(api.ErrLoop, append(upTo(16), 4)...)},
		{"a loop that is too deep, at once", below(16, 16), 17, 17, bad(api.ErrLoop, append(upTo(16), 16)...)},
		{"a loop of keys outside", nodes{1: inner(0, 5, 2, 2), 2: inner(5, 1)}, 2, 2, bad(api.ErrKey, 1, 2)},
		{"a loop back to keys outside", nodes{1: inner(3, 2), 2: inner(4, 1)}, 3, 3, bad(api.ErrLoop, 1, 2, 1)},
		{"a block that is none, too deep", below(16, 99), 17, 17, bad(api.ErrDepth, append(upTo(16), 99)...)},
		{"a block of zeros, too deep", below(16, 20), 17, 17, bad(api.ErrDepth, append(upTo(16), 20)...)},
		{"another tree, with keys outside", nodes{1: inner(10, 2), 2: of(leaf(9), api.Top, 4)}, 2, 2, bad(api.ErrKind, 1, 2)},
		{"keys outside, in a leaf too low", nodes{1: inner(10, 20, 2, 3), 2: leaf(10), 3: inner(20, 4), 4: leaf(19)}, 4, 4, bad(api.ErrKey, 1, 3, 4)},
		{"another tree, in a leaf too high", nodes{1: inner(0, 20, 2, 4), 2: inner(0, 3), 3: leaf(1), 4: of(leaf(25), api.Top, 4)}, 4, 4, bad(api.ErrKind, 1, 4)},
	} {
		m := x.l.image(t, 30)
		w := walk.Scan(m, 1, 5, x.fuel)
		if w.Looked != x.looked || len(w.Faults) == 0 {
			t.Fatalf("%s: %v", x.name, w)
		}
		alike(t, walk.Walked{Faults: w.Faults[:1]}, found{faults: []wrong{x.want}})
		holds(t, m, 1, 5, x.fuel, wanted(m, 1, 5, x.fuel))
	}
}

// grown adds the nodes of a tree of that depth to l, whose keys are from lo to
// hi-1, in blocks picked from free, and returns its root. Of the nodes above the
// leaves, some in a hundred are leaves themselves.
func grown(r *rand.Rand, l nodes, free *[]int, depth, lo, hi, some int) int {
	no := (*free)[0]
	*free = (*free)[1:]
	keys := rising(r, 1+r.IntN(4), lo, hi)
	if depth == 1 || r.IntN(100) < some {
		l[no] = leaf(keys[:r.IntN(len(keys)+1)]...)
		return no
	}
	var children []int
	for i, key := range keys {
		end := hi
		if i+1 < len(keys) {
			end = keys[i+1]
		}
		children = append(children, grown(r, l, free, depth-1, key, end, some))
	}
	l[no] = inner(append(keys, children...)...)
	return no
}

// rising returns up to that many keys that rise, at least one, from lo to hi-1.
func rising(r *rand.Rand, most, lo, hi int) []int {
	keys := []int{}
	for range most {
		keys = append(keys, lo+r.IntN(hi-lo))
	}
	slices.Sort(keys)
	return slices.Compact(keys)
}

// spoilt changes something about block no: a bit, its node's keys or children,
// its tree or its place.
func spoilt(t *testing.T, r *rand.Rand, m *image.Image, l nodes, no int) {
	t.Helper()
	n := l[no]
	n.Keys, n.Vals = slices.Clone(n.Keys), slices.Clone(n.Vals)
	switch what := r.IntN(7); {
	case what == 0:
		damage(t, m, no, r.IntN(2048))
	case what == 1:
		b, _ := m.Read(r.IntN(m.Blocks()))
		m.Write(no, b)
	case what == 2:
		put(t, m, no, of(n, 1, 4))
	case what == 3 && len(n.Keys) > 0:
		i := r.IntN(len(n.Keys))
		n.Vals[i] = ref([]int{0, 1, no, 14399, 14400, 1<<32 - 1, r.IntN(m.Blocks())}[r.IntN(7)])
		put(t, m, no, n)
	case what == 4 && len(n.Keys) > 0:
		n.Keys[0] = r.IntN(n.Keys[0] + 1)
		put(t, m, no, n)
	case what == 5 && len(n.Keys) > 0:
		n.Keys[len(n.Keys)-1] += r.IntN(100)
		put(t, m, no, n)
	default:
		put(t, m, no, leaf(n.Keys...))
	}
}

// occurred fails unless each of the errors was found at least that often.
func occurred(t *testing.T, seen map[api.Errno]int, least int, l ...api.Errno) {
	t.Helper()
	for _, e := range l {
		if seen[e] < least {
			t.Errorf("%v occurred %d times", e, seen[e])
		}
	}
}

// P14.1 to P14.3: trees of all depths up to four, without faults, and with more
// and more of them.
func TestSpoilt(t *testing.T) {
	r := source(1)
	seen := map[api.Errno]int{}
	for range 500 {
		l, free := nodes{}, r.Perm(100)
		root := grown(r, l, &free, 1+r.IntN(4), 0, 1+r.IntN(3000), 0)
		m := l.image(t, 100)
		// Block 0 is the only one that no Val can name.
		for _, x := range agrees(t, m, root, 5).faults {
			if _, used := l[0]; !used || x.e != api.ErrRange {
				t.Fatalf("%v in a tree without damage", x)
			}
		}
		blocks := slices.Sorted(maps.Keys(l))
		for range 4 {
			spoilt(t, r, m, l, blocks[r.IntN(len(blocks))])
			for _, x := range agrees(t, m, root, 5).faults {
				seen[x.e]++
			}
		}
	}
	occurred(t, seen, 5, api.ErrRange, api.ErrEnd, api.ErrSum, api.ErrNumber, api.ErrKind, api.ErrKey, api.ErrDepth, api.ErrLoop)
}

// P14.1 to P14.3: trees whose leaves have several depths.
func TestRagged(t *testing.T) {
	r := source(3)
	seen := map[api.Errno]int{}
	for range 500 {
		l, free := nodes{}, r.Perm(600)
		root := grown(r, l, &free, 2+r.IntN(4), 0, 1+r.IntN(3000), 10+r.IntN(40))
		m := l.image(t, 600)
		for _, x := range agrees(t, m, root, 5).faults {
			seen[x.e]++
		}
	}
	occurred(t, seen, 500, api.ErrDepth)
}

// wild returns a node with a few small keys, whose children, if it has any, are
// among the first blocks.
func wild(r *rand.Rand, blocks int) api.Node {
	n := leaf(rising(r, 2, 0, 9)[r.IntN(2):]...)
	if r.IntN(3) > 0 {
		keys := rising(r, 1+r.IntN(3), r.IntN(3), 9)
		for range keys[:len(keys):len(keys)] {
			keys = append(keys, r.IntN(blocks))
		}
		n = inner(keys...)
	}
	if r.IntN(20) == 0 {
		n = of(n, 1, 4)
	}
	return n
}

// P14.1 to P14.3: images of a few nodes that refer to one another at random.
func TestWild(t *testing.T) {
	r := source(2)
	seen, deep := map[api.Errno]int{}, [17]int{}
	for range 6000 {
		blocks, l := 2+r.IntN(9), nodes{}
		for no := range blocks {
			l[no] = wild(r, blocks+1)
		}
		m := l.image(t, blocks)
		for _, tree := range []int{5, 0} {
			w := agrees(t, m, r.IntN(blocks), tree)
			deep[w.deep]++
			for _, x := range w.faults {
				seen[x.e]++
			}
		}
	}
	occurred(t, seen, 100, api.ErrRange, api.ErrEnd, api.ErrKind, api.ErrKey, api.ErrLoop)
	if deep[0] < 1000 || deep[1] < 1000 || deep[2] < 500 || deep[3] < 50 {
		t.Errorf("scans of the depths from 0 on: %v", deep)
	}
}

// P14.1: all pairs of nodes of a small kind, each below the other.
func TestPairs(t *testing.T) {
	var all []api.Node
	for _, keys := range [][]int{{}, {0}, {1}, {2}, {0, 1}, {0, 2}, {1, 2}} {
		all = append(all, leaf(keys...))
		for children := range 16 {
			if len(keys) == 1 && children < 4 {
				all = append(all, inner(keys[0], children))
			}
			if len(keys) == 2 {
				all = append(all, inner(keys[0], keys[1], children/4, children%4))
			}
		}
	}
	m, _ := image.New(3)
	for _, one := range all {
		put(t, m, 1, one)
		for _, two := range all {
			put(t, m, 2, two)
			want := wanted(m, 1, 5, plenty)
			got := walk.Scan(m, 1, 5, plenty)
			alike(t, got, want)
			bounds(t, got, plenty)
		}
	}
}

// P14.3: a scan ends without much fuel being used, even where every node refers
// to the next one as often as it can.
func TestManyChildren(t *testing.T) {
	l := nodes{}
	step := 1 << 47
	for no := 1; no <= 16; no++ {
		var keys []int
		for i := range 18 {
			keys = append(keys, i*step/18)
		}
		step = keys[1]
		if step < 18 {
			l[no] = leaf(0)
			break
		}
		l[no] = inner(append(keys, slices.Repeat([]int{no + 1}, 18)...)...)
	}
	m := l.image(t, 20)
	w := agrees(t, m, 1, 5)
	if w.looked != 1+18*(len(l)-1) || len(w.blocks) != len(l) || len(w.faults) != 17*(len(l)-1) {
		t.Errorf("%d examined, %d blocks, %d faults", w.looked, len(w.blocks), len(w.faults))
	}
	l = nodes{1: inner(0, 10, 20, 2, 2, 2), 2: leaf()}
	for no := 3; no < 14; no++ {
		l[no] = inner(0, no-1)
	}
	m = l.image(t, 20)
	for no := 2; no < 14; no++ {
		agrees(t, m, no, 5)
	}
}

// P14.3: a tree that fills an image, and fuel that ends at any of its nodes.
func TestLarge(t *testing.T) {
	l, next := nodes{}, 1
	var level []int
	for i := range 700 {
		var keys []int
		for k := range 18 {
			keys = append(keys, i*18+k)
		}
		l[next] = leaf(keys...)
		level, next = append(level, next), next+1
	}
	for len(level) > 1 {
		var up []int
		for part := range slices.Chunk(level, 18) {
			var keys []int
			for _, no := range part {
				keys = append(keys, l[no].Keys[0])
			}
			l[next] = inner(append(keys, part...)...)
			up, next = append(up, next), next+1
		}
		level = up
	}
	m := l.image(t, next)
	want := wanted(m, level[0], 5, plenty)
	if len(want.entries) != 700*18 || want.looked != next-1 || want.deep != 4 || len(want.faults) != 0 {
		t.Fatalf("%d entries, %d examined, faults %v", len(want.entries), want.looked, want.faults)
	}
	holds(t, m, level[0], 5, next-1, want)
	for fuel := 0; fuel < next; fuel += 37 {
		holds(t, m, level[0], 5, fuel, wanted(m, level[0], 5, fuel))
	}
}

// P14.1, P14.2: what is returned is the caller's own: a change of it, or of the
// image, does not reach another result, nor one fault another.
func TestOwn(t *testing.T) {
	m := nodes{
		1: inner(0, 10, 20, 2, 3, 0), 2: inner(0, 5, 4, 5), 3: inner(10, 11, 12, 6, 1, 7), 4: leaf(0, 1), 5: leaf(6), 6: leaf(10),
	}.image(t, 7)
	want := found{
		entries([]int{4, 0, 1}, []int{5, 6}, []int{6, 10}), []int{1, 2, 4, 5, 3, 6}, 3, 8,
		[]wrong{bad(api.ErrLoop, 1, 3, 1), bad(api.ErrEnd, 1, 3, 7), bad(api.ErrRange, 1)},
	}
	holds(t, m, 1, 5, plenty, want)
	first, other := walk.Scan(m, 1, 5, plenty), walk.Scan(m, 1, 5, plenty)
	part, err := walk.Whole(m, 2, 5, plenty)
	if err != nil {
		t.Fatal(err)
	}
	seen := map[*api.Fault]bool{}
	for _, w := range []walk.Walked{first, other} {
		for _, err := range w.Faults {
			for f, ok := err.(*api.Fault); ok; f, ok = f.Err.(*api.Fault) {
				if seen[f] {
					t.Fatalf("%v is part of two faults", f)
				}
				seen[f] = true
			}
		}
	}
	for _, w := range []walk.Walked{first, part} {
		for i := range w.Entries[:cap(w.Entries)] {
			w.Entries[:cap(w.Entries)][i] = api.Entry{Key: -1}
		}
		for i := range w.Blocks[:cap(w.Blocks)] {
			w.Blocks[:cap(w.Blocks)][i] = -1
		}
		for i := range w.Faults[:cap(w.Faults)] {
			if f, ok := w.Faults[:cap(w.Faults)][i].(*api.Fault); ok {
				f.Block, f.Err = -1, nil
			}
			w.Faults[:cap(w.Faults)][i] = nil
		}
	}
	alike(t, other, want)
	holds(t, m, 1, 5, plenty, want)
	for no := range m.Blocks() {
		m.Write(no, make([]byte, 256))
	}
	alike(t, other, want)
}
