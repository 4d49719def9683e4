package tall_test

import (
	"math"
	"slices"
	"testing"

	"scantling/tall"
)

const (
	greatest = 32768 // entries of a tree
	fan      = 18    // keys of an internal node
)

// leaves are the keys of a leaf of each tree; there is no tree 0.
var leaves = []int{0, 18, 12, 6, 9, 18}

// noTrees are numbers of trees that do not exist, such that the lowest 8, 16 or
// 32 bits of some of them are a tree.
var noTrees = []int{0, -1, -2, -5, 6, 7, 8, 9, 12, 18, 255, 256, 257, 258, 261, 1<<16 + 2, 1<<32 + 1, 1<<32 + 5, -1<<32 + 3, math.MaxInt - 1, math.MaxInt, math.MinInt, math.MinInt + 1, math.MinInt + 2}

// noCounts are numbers of entries that no tree has, such that the lowest 8, 16
// or 32 bits of some of them are such a number.
var noCounts = []int{-1, -2, -18, -256, -greatest, -1 << 16, -1<<16 + 5, -1 << 32, 5 - 1<<32, greatest + 1, greatest + 2, 2 * greatest, 2*greatest + 1, 1<<31 - 1, 1 << 31, 1 << 32, 1<<32 + 13, math.MaxInt - 17, math.MaxInt - 1, math.MaxInt, math.MinInt, math.MinInt + 1}

// packed is a level to which keys are added one by one: the number of keys of
// each of its nodes.
type packed []int

// add puts one more key into the last node, or into a new one if that is full.
// It reports whether there is a new one.
func (p *packed) add(most int) bool {
	last := len(*p) - 1
	if (*p)[last] < most {
		(*p)[last]++
		return false
	}
	*p = append(*p, 1)
	return true
}

// tree is a packed tree to which entries are added one by one: its levels, from
// the leaves to the root.
type tree struct {
	leaf   int
	levels []packed
}

// empty returns a tree without entries.
func empty(leaf int) *tree {
	return &tree{leaf: leaf, levels: []packed{{0}}}
}

// add adds one entry: a new node is one more key of the level above it, and a
// second one of the highest level gets a root above both.
func (x *tree) add() {
	most := x.leaf
	for i := range x.levels {
		if !x.levels[i].add(most) {
			return
		}
		most = fan
	}
	x.levels = append(x.levels, packed{2})
}

// widths returns the number of nodes of each level.
func (x *tree) widths() []int {
	var l []int
	for _, level := range x.levels {
		l = append(l, len(level))
	}
	return l
}

// sum adds up a list.
func sum(l []int) int {
	n := 0
	for _, k := range l {
		n += k
	}
	return n
}

// shape checks the levels of a tree, and their sum.
func shape(t *testing.T, no, n int, want ...int) {
	t.Helper()
	if l := tall.Levels(no, n); !slices.Equal(l, want) {
		t.Fatalf("Levels(%d, %d): %v, not %v", no, n, l, want)
	}
	if k := tall.Nodes(no, n); k != sum(want) {
		t.Fatalf("Nodes(%d, %d): %d, not %d", no, n, k, sum(want))
	}
}

// spread checks the sizes of a level's nodes.
func spread(t *testing.T, n, most int, want ...int) {
	t.Helper()
	l := tall.Sizes(n, most)
	if !slices.Equal(l, want) {
		t.Fatalf("Sizes(%d, %d): %v, not %v", n, most, l, want)
	}
}

// alike returns n nodes of that many keys and one of the rest.
func alike(n, most, rest int) []int {
	return append(slices.Repeat([]int{most}, n), rest)
}

// The chapter's examples, and that of the document.
func TestExamples(t *testing.T) {
	shape(t, 2, 200, 17, 1)
	spread(t, 5, 2, 2, 2, 1)
	shape(t, 2, 30, 3, 1)
}

// P15.1, P15.2: shapes by hand, around each number of entries at which a tree
// has to have one more level, and up to the greatest one.
func TestShapes(t *testing.T) {
	for _, no := range []int{1, 5} {
		shape(t, no, 18, 1)
		shape(t, no, 19, 2, 1)
		shape(t, no, 324, 18, 1)
		shape(t, no, 325, 19, 2, 1)
		shape(t, no, 5832, 324, 18, 1)
		shape(t, no, 5833, 325, 19, 2, 1)
		shape(t, no, 32767, 1821, 102, 6, 1)
		shape(t, no, 32768, 1821, 102, 6, 1)
	}
	shape(t, 2, 12, 1)
	shape(t, 2, 13, 2, 1)
	shape(t, 2, 216, 18, 1)
	shape(t, 2, 217, 19, 2, 1)
	shape(t, 2, 3888, 324, 18, 1)
	shape(t, 2, 3889, 325, 19, 2, 1)
	shape(t, 2, 32768, 2731, 152, 9, 1)
	shape(t, 3, 6, 1)
	shape(t, 3, 7, 2, 1)
	shape(t, 3, 108, 18, 1)
	shape(t, 3, 109, 19, 2, 1)
	shape(t, 3, 1944, 324, 18, 1)
	shape(t, 3, 1945, 325, 19, 2, 1)
	shape(t, 3, 32768, 5462, 304, 17, 1)
	shape(t, 4, 9, 1)
	shape(t, 4, 10, 2, 1)
	shape(t, 4, 162, 18, 1)
	shape(t, 4, 163, 19, 2, 1)
	shape(t, 4, 2916, 324, 18, 1)
	shape(t, 4, 2917, 325, 19, 2, 1)
	shape(t, 4, 32768, 3641, 203, 12, 1)
}

// P15.1, P15.2: a tree with no entries, and with one, is a leaf.
func TestSmallest(t *testing.T) {
	for no := 1; no <= 5; no++ {
		shape(t, no, 0, 1)
		shape(t, no, 1, 1)
	}
}

// P15.1, P15.2: every tree with every number of entries, as it grows entry by
// entry.
func TestEveryShape(t *testing.T) {
	for no := 1; no <= 5; no++ {
		x := empty(leaves[no])
		for n := range greatest + 1 {
			shape(t, no, n, x.widths()...)
			x.add()
		}
	}
}

// P15.1, P15.2: trees that do not exist, and numbers of entries out of range.
func TestNoShape(t *testing.T) {
	for _, no := range noTrees {
		for _, n := range append([]int{0, 1, 13, 200, greatest - 1, greatest}, noCounts...) {
			shape(t, no, n)
		}
	}
	for no := 1; no <= 5; no++ {
		for _, n := range noCounts {
			shape(t, no, n)
		}
	}
}

// P15.3: sizes by hand, at the bounds of what a level may have.
func TestSizes(t *testing.T) {
	spread(t, 1, 1, 1)
	spread(t, 2, 1, 1, 1)
	spread(t, 2, 2, 2)
	spread(t, 3, 2, 2, 1)
	spread(t, 4, 2, 2, 2)
	spread(t, 7, 3, 3, 3, 1)
	spread(t, 8, 3, 3, 3, 2)
	spread(t, 9, 3, 3, 3, 3)
	spread(t, 13, 12, 12, 1)
	spread(t, 36, 18, 18, 18)
	spread(t, greatest, 1, slices.Repeat([]int{1}, greatest)...)
	spread(t, greatest, 12, alike(2730, 12, 8)...)
	spread(t, greatest, greatest-1, greatest-1, 1)
	spread(t, greatest-1, greatest, greatest-1)
	spread(t, greatest, greatest, greatest)
	spread(t, greatest, greatest+1, greatest)
}

// P15.3: no keys are a single 0, and fewer keys than a node may have are one
// node, however many that may be.
func TestSizesOne(t *testing.T) {
	for _, most := range []int{1, 2, 6, 18, 255, 256, greatest - 1, greatest, greatest + 1, 1 << 16, 1<<31 - 1, 1 << 31, 1 << 32, 1<<32 + 1, 1 << 62, math.MaxInt - 1, math.MaxInt} {
		spread(t, 0, most, 0)
		spread(t, 1, most, 1)
		for _, n := range []int{2, 17, 18, 255, 256, greatest - 1, greatest} {
			if n <= most {
				spread(t, n, most, n)
			}
		}
	}
}

// P15.3: numbers of keys out of range, and nodes that may have none.
func TestNoSizes(t *testing.T) {
	wrong := []int{0, -1, -2, -18, -greatest, -1 << 32, 1 - 1<<32, math.MinInt, math.MinInt + 1}
	for _, n := range noCounts {
		for _, most := range append([]int{1, 2, 18, greatest, greatest + 1, 1 << 32, math.MaxInt}, wrong...) {
			spread(t, n, most)
		}
	}
	for _, n := range []int{0, 1, 2, 18, greatest - 1, greatest} {
		for _, most := range wrong {
			spread(t, n, most)
		}
	}
}

// P15.3: levels that grow key by key, with nodes of each of the first sizes.
func TestEverySize(t *testing.T) {
	for most := 1; most <= 40; most++ {
		level := packed{0}
		for n := range 400 {
			spread(t, n, most, level...)
			level.add(most)
		}
	}
}

// P15.4: the sizes add up, all but the last one are the greatest possible, and
// the last one is not 0 unless there are no keys.
func TestSums(t *testing.T) {
	for _, most := range []int{1, 2, 3, 6, 9, 12, 18, 100, 255, 256, 257, 4096, greatest - 1, greatest, greatest + 1, math.MaxInt} {
		for n := 0; n <= greatest; n += 61 {
			l := tall.Sizes(n, most)
			if len(l) == 0 || sum(l) != n {
				t.Fatalf("Sizes(%d, %d): %d nodes with %d keys", n, most, len(l), sum(l))
			}
			last := len(l) - 1
			if slices.ContainsFunc(l[:last], func(k int) bool { return k != most }) {
				t.Fatalf("Sizes(%d, %d): not all but the last one are full", n, most)
			}
			if l[last] > most || l[last] < min(n, 1) {
				t.Fatalf("Sizes(%d, %d): the last one has %d", n, most, l[last])
			}
		}
	}
}

// P15.1, P15.3: the nodes of each level have as many keys as the level below it
// has nodes.
func TestLevelsAndSizes(t *testing.T) {
	for no := 1; no <= 5; no++ {
		for n := 0; n <= greatest; n += 29 {
			keys, most := n, leaves[no]
			for i, level := range tall.Levels(no, n) {
				if k := len(tall.Sizes(keys, most)); k != level {
					t.Fatalf("tree %d with %d entries: %d nodes at %d, not %d", no, n, level, i, k)
				}
				keys, most = level, fan
			}
			if keys != 1 {
				t.Fatalf("tree %d with %d entries: %d roots", no, n, keys)
			}
		}
	}
}

// P15.4: one entry more does not make fewer nodes, in any level.
func TestMonotone(t *testing.T) {
	for no := 1; no <= 5; no++ {
		before := tall.Levels(no, 0)
		for n := 1; n <= greatest; n++ {
			l := tall.Levels(no, n)
			if len(l) < len(before) || tall.Nodes(no, n) < tall.Nodes(no, n-1) {
				t.Fatalf("tree %d: %v with %d entries, %v with one more", no, before, n-1, l)
			}
			for i, k := range before {
				if l[i] < k {
					t.Fatalf("tree %d: %v with %d entries, %v with one more", no, before, n-1, l)
				}
			}
			before = l
		}
	}
}

// P15.4: a tree with one level less does not have room for all entries, were all
// of its nodes full; and the tree itself has.
func TestMinimal(t *testing.T) {
	for no := 1; no <= 5; no++ {
		for n := range greatest + 1 {
			room, less := leaves[no], 0
			for range len(tall.Levels(no, n)) - 1 {
				room, less = room*fan, room
			}
			if n > room || n <= less && n > 0 {
				t.Fatalf("tree %d with %d entries: room for %d, and for %d with one level less", no, n, room, less)
			}
		}
	}
}

// Results are new in each call: a change of one changes no other.
func TestOwn(t *testing.T) {
	l, k := tall.Levels(3, 109), tall.Sizes(5, 2)
	for _, s := range [][]int{l, k} {
		s = s[:cap(s)]
		for i := range s {
			s[i] = -1
		}
	}
	shape(t, 3, 109, 19, 2, 1)
	spread(t, 5, 2, 2, 2, 1)
}
