package node_test

import (
	"bytes"
	"encoding/binary"
	"encoding/hex"
	"math"
	"slices"
	"strings"
	"testing"

	"scantling/api"
	"scantling/node"
)

// shape is a kind of node, with its value width and its capacity.
type shape struct {
	tree        int
	leaf        bool
	width, most int
}

// shapes are all kinds of nodes that there are.
var shapes = []shape{
	{1, false, 4, 18}, {2, false, 4, 18}, {3, false, 4, 18}, {4, false, 4, 18}, {5, false, 4, 18},
	{1, true, 4, 18}, {2, true, 8, 12}, {3, true, 24, 6}, {4, true, 16, 9}, {5, true, 4, 18},
}

// noTrees are numbers of trees that do not exist.
var noTrees = []int{0, 6, 7, 8, -1, -2, -5, 16, 24, 255, 256, 257, 258, 1<<16 + 1, 1<<32 + 1, 1<<32 + 5, -1<<32 + 2, math.MaxInt, math.MinInt, math.MinInt + 1, math.MinInt + 2}

// least is the least number of keys of a node of the kind.
func (s shape) least() int {
	if s.leaf {
		return 0
	}
	return 1
}

// val returns a Val of that many bytes, none of which is 0.
func val(width, seed int) string {
	b := make([]byte, width)
	for i := range b {
		b[i] = byte(1 + (seed*37+i*11)%255)
	}
	return string(b)
}

// of returns a node of the kind with those keys.
func (s shape) of(keys ...int) api.Node {
	n := api.Node{Tree: s.tree, Leaf: s.leaf}
	for i, key := range keys {
		n.Keys = append(n.Keys, key)
		n.Vals = append(n.Vals, val(s.width, i+s.tree))
	}
	return n
}

// with returns a node of the kind with that many keys.
func (s shape) with(count int) api.Node {
	var keys []int
	for i := range count {
		keys = append(keys, 3+i*i*0x10203040)
	}
	return s.of(keys...)
}

// clone returns a node that shares no memory with n.
func clone(n api.Node) api.Node {
	n.Keys, n.Vals = slices.Clone(n.Keys), slices.Clone(n.Vals)
	return n
}

// alike reports whether a and b are equal.
func alike(a, b api.Node) bool {
	if a.Tree != b.Tree || a.Leaf != b.Leaf || len(a.Keys) != len(b.Keys) || len(a.Vals) != len(b.Vals) {
		return false
	}
	for i, key := range a.Keys {
		if key != b.Keys[i] {
			return false
		}
	}
	for i, v := range a.Vals {
		if v != b.Vals[i] {
			return false
		}
	}
	return true
}

// none reports whether n is the zero value.
func none(n api.Node) bool {
	return n.Tree == 0 && !n.Leaf && len(n.Keys) == 0 && len(n.Vals) == 0
}

// spelled returns what an encoding consists of, whether its node is valid or
// not, as long as what it has fits.
func (s shape) spelled(n api.Node) []byte {
	b := []byte{0, byte(n.Tree)}
	if n.Leaf {
		b[0] = 1
	}
	b = binary.LittleEndian.AppendUint16(b, uint16(len(n.Keys)))
	b = binary.LittleEndian.AppendUint16(b, uint16(s.width))
	b = binary.LittleEndian.AppendUint16(b, uint16(s.most))
	b = append(b, 0, 0, 0, 0)
	for i := range s.most {
		key := 0
		if i < len(n.Keys) {
			key = n.Keys[i]
		}
		b = binary.LittleEndian.AppendUint64(b, uint64(key))
	}
	b = append(b, strings.Join(n.Vals, "")...)
	return append(b, make([]byte, 244-len(b))...)
}

// random returns a source of integers from 0 to below some n.
func random() func(n int) int {
	r := uint64(88172645463325252)
	return func(n int) int {
		r ^= r << 13
		r ^= r >> 7
		r ^= r << 17
		return int(r % uint64(n))
	}
}

// valid returns valid nodes of the kind: with each number of keys, with keys at
// the ends of their range, and with arbitrary keys and Vals.
func (s shape) valid() []api.Node {
	l := []api.Node{s.of(0), s.of(api.MaxKey), s.of(0, api.MaxKey), s.of(1, 2), s.of(api.MaxKey-1, api.MaxKey), s.of(1<<31-1, 1<<31, 1<<32-1, 1<<32)}
	for count := s.least(); count <= s.most; count++ {
		l = append(l, s.with(count))
		var low, high []int
		for i := range count {
			low, high = append(low, i), append(high, api.MaxKey-count+1+i)
		}
		l = append(l, s.of(low...), s.of(high...))
	}
	next := random()
	for range 60 {
		var keys []int
		for range s.least() + next(s.most-s.least()+1) {
			keys = append(keys, next(1<<(1+next(48))))
		}
		slices.Sort(keys)
		n := s.of(slices.Compact(keys)...)
		for i := range n.Vals {
			b := make([]byte, s.width)
			for j := range b {
				b[j] = byte(next(256) * next(2))
			}
			n.Vals[i] = string(b)
		}
		l = append(l, n)
	}
	return l
}

// takes checks that n is valid, that b is its encoding, and that Read returns
// it.
func takes(t *testing.T, n api.Node, b []byte) {
	t.Helper()
	if !node.Right(n) {
		t.Fatalf("%#v is not valid", n)
	}
	if out, e := node.Put(n); e != api.OK || !bytes.Equal(out, b) {
		t.Fatalf("%#v: %x, %v, not %x", n, out, e, b)
	}
	if out, e := node.Read(b); e != api.OK || !alike(out, n) {
		t.Fatalf("%x: %#v, %v, not %#v", b, out, e, n)
	}
}

// denies checks that n is not valid and has no encoding.
func denies(t *testing.T, what string, n api.Node) {
	t.Helper()
	if node.Right(n) {
		t.Fatalf("%s: %#v is valid", what, n)
	}
	if out, e := node.Put(n); e != api.ErrArg || len(out) != 0 {
		t.Fatalf("%s: %#v: %x, %v", what, n, out, e)
	}
}

// refuses checks that b is no encoding, and with which error.
func refuses(t *testing.T, what string, b []byte, want api.Errno) {
	t.Helper()
	if out, e := node.Read(b); e != want || !none(out) {
		t.Fatalf("%s: %x: %#v, %v, not %v", what, b, out, e, want)
	}
}

// The chapter's example.
func TestExample(t *testing.T) {
	b, e := node.Put(api.Node{Tree: 5, Leaf: true, Keys: []int{9}, Vals: []string{"abcd"}})
	want, _ := hex.DecodeString("01050100040012000000000009")
	if e != api.OK || len(b) != 244 || !bytes.HasPrefix(b, want) {
		t.Errorf("%x, %v", b, e)
	}
}

// P7.1: every kind of node.
func TestShapes(t *testing.T) {
	for _, s := range shapes {
		if w, m := node.Width(s.tree, s.leaf), node.Max(s.tree, s.leaf); w != s.width || m != s.most {
			t.Errorf("%#v: %d, %d", s, w, m)
		}
	}
}

// P7.1: trees that do not exist.
func TestNoTree(t *testing.T) {
	for _, tree := range noTrees {
		for _, leaf := range []bool{false, true} {
			if w, m := node.Width(tree, leaf), node.Max(tree, leaf); w != 0 || m != 0 {
				t.Errorf("%d, %v: %d, %d", tree, leaf, w, m)
			}
		}
	}
}

// P7.2: every byte of encodings, written out.
func TestEncoding(t *testing.T) {
	for _, x := range []struct {
		n    api.Node
		want []string
	}{
		{api.Node{Tree: 2, Leaf: true, Keys: []int{0x010203040506, 0xffffffffffff}, Vals: []string{"abcdefgh", "\x00\xff\x01\xfe\x02\xfd\x03\xfc"}},
			[]string{"01", "02", "0200", "0800", "0c00", "00000000", "0605040302010000", "ffffffffffff0000", strings.Repeat("00", 80), "6162636465666768", "00ff01fe02fd03fc", strings.Repeat("00", 120)}},
		{api.Node{Tree: 3, Keys: []int{0, 7}, Vals: []string{"root", "leaf"}},
			[]string{"00", "03", "0200", "0400", "1200", "00000000", "0000000000000000", "0700000000000000", strings.Repeat("00", 128), "726f6f74", "6c656166", strings.Repeat("00", 80)}},
		{api.Node{Tree: 3, Leaf: true, Keys: []int{258}, Vals: []string{"0123456789abcdefghijklmn"}},
			[]string{"01", "03", "0100", "1800", "0600", "00000000", "0201000000000000", strings.Repeat("00", 40), "303132333435363738396162636465666768696a6b6c6d6e", strings.Repeat("00", 160)}},
		{api.Node{Tree: 4, Leaf: true, Keys: []int{14}, Vals: []string{"0123456789abcdef"}},
			[]string{"01", "04", "0100", "1000", "0900", "00000000", "0e00000000000000", strings.Repeat("00", 64), "30313233343536373839616263646566", strings.Repeat("00", 144)}},
		{api.Node{Tree: 1, Leaf: true},
			[]string{"01", "01", "0000", "0400", "1200", "00000000", strings.Repeat("00", 232)}},
	} {
		b, err := hex.DecodeString(strings.Join(x.want, ""))
		if err != nil || len(b) != 244 {
			t.Fatal(len(b), err)
		}
		takes(t, x.n, b)
	}
}

// P7.2 to P7.4: valid nodes of every kind.
func TestValid(t *testing.T) {
	for _, s := range shapes {
		for _, n := range s.valid() {
			takes(t, n, s.spelled(n))
		}
	}
}

// P7.2: trees that do not exist, with what would suit each kind of node.
func TestRightTree(t *testing.T) {
	for _, tree := range noTrees {
		for _, s := range shapes {
			for count := range s.most + 1 {
				n := s.with(count)
				n.Tree = tree
				denies(t, "tree", n)
			}
		}
		denies(t, "an empty leaf", api.Node{Tree: tree, Leaf: true})
		denies(t, "Vals without a byte", api.Node{Tree: tree, Leaf: true, Keys: []int{1}, Vals: []string{""}})
	}
	denies(t, "zero", api.Node{})
}

// P7.2: as many keys as the capacity and more; internal nodes without a key.
func TestRightCount(t *testing.T) {
	for _, s := range shapes {
		for count := range 40 {
			if n := s.with(count); count < s.least() || count > s.most {
				denies(t, "count", n)
			} else if !node.Right(n) {
				t.Fatalf("%#v is not valid", n)
			}
		}
		for _, count := range []int{255, 256, 1<<16 - 1, 1 << 16, 1<<16 + 1, 1<<16 + s.most} {
			var keys []int
			for key := range count {
				keys = append(keys, key)
			}
			denies(t, "count", s.of(keys...))
		}
	}
}

// P7.2: not as many Vals as Keys.
func TestRightVals(t *testing.T) {
	for _, s := range shapes {
		for count := range s.most + 1 {
			n := s.with(count)
			for vals := range s.most + 3 {
				if vals == count {
					continue
				}
				x := clone(n)
				x.Vals = s.with(vals).Vals
				denies(t, "Vals", x)
			}
			n.Vals = append(n.Vals, "")
			denies(t, "an empty Val too many", n)
		}
	}
}

// P7.2: each Val with another number of bytes, those of the other kinds and of
// its neighbours' missing bytes among them.
func TestRightWidth(t *testing.T) {
	for _, s := range shapes {
		for count := 1; count <= s.most; count++ {
			for i := range count {
				for width := range 34 {
					if width != s.width {
						n := s.with(count)
						n.Vals[i] = val(width, i)
						denies(t, "width", n)
					}
				}
				n := s.with(count)
				n.Vals[i] = strings.Repeat("x", s.width+256)
				denies(t, "width", n)
				if i > 0 {
					n.Vals[i-1], n.Vals[i] = val(s.width+1, i), val(s.width-1, i)
					denies(t, "widths with the right sum", n)
				}
			}
		}
	}
}

// P7.2: each key beyond its range, or not greater than the previous one.
func TestRightKeys(t *testing.T) {
	beyond := []int{-1, -2, api.MaxKey + 1, api.MaxKey + 2, 1<<48 + 3, 1<<62 + 5, -1 << 48, -1<<48 + 2, math.MaxInt, math.MinInt, math.MinInt + 1}
	for _, s := range shapes {
		for count := 1; count <= s.most; count++ {
			for i := range count {
				for _, key := range beyond {
					n := s.with(count)
					n.Keys[i] = key
					denies(t, "beyond", n)
				}
				if i == 0 {
					continue
				}
				for _, key := range []int{s.with(count).Keys[i-1], s.with(count).Keys[i-1] - 1, 0} {
					n := s.with(count)
					n.Keys[i] = key
					denies(t, "order", n)
				}
				n := s.with(count)
				n.Keys[i-1], n.Keys[i] = n.Keys[i], n.Keys[i-1]
				denies(t, "swapped", n)
			}
		}
		denies(t, "twice the greatest", s.of(api.MaxKey, api.MaxKey))
		denies(t, "twice the least", s.of(0, 0))
		denies(t, "wraps", s.of(1<<48-1, 1<<48))
		denies(t, "only the ends rise", s.of(1, 5, 4, 9))
	}
}

// variants returns nodes that differ from n, each in one place.
func variants(n api.Node) []api.Node {
	l := []api.Node{n, n, n, n, n}
	l[0].Tree++
	l[1].Tree += 1 << 32
	l[2].Leaf = !n.Leaf
	l[3].Keys = append(slices.Clone(n.Keys), 1<<40)
	l[4].Vals = append(slices.Clone(n.Vals), "")
	for i := range n.Keys {
		x, y := clone(n), clone(n)
		x.Keys[i]++
		y.Keys[i] += 1 << 32
		z := clone(n)
		z.Keys = slices.Delete(z.Keys, i, i+1)
		l = append(l, x, y, z)
	}
	for i, v := range n.Vals {
		x, y, z := clone(n), clone(n), clone(n)
		x.Vals[i] = v[:len(v)-1] + string([]byte{v[len(v)-1] + 1})
		y.Vals[i] = v + "\x00"
		z.Vals = slices.Delete(z.Vals, i, i+1)
		l = append(l, x, y, z)
		if i > 0 { // the same bytes, distributed otherwise
			w := clone(n)
			w.Vals[i-1], w.Vals[i] = w.Vals[i-1]+v[:1], v[1:]
			l = append(l, w)
		}
	}
	return l
}

// P7.2: Same, for nodes of every kind and for those that are not valid.
func TestSame(t *testing.T) {
	for _, s := range shapes {
		for count := range s.most + 2 {
			n := s.with(count)
			if !node.Same(n, n) || !node.Same(n, clone(n)) || !node.Same(clone(n), n) {
				t.Fatalf("%#v is not itself", n)
			}
			for _, x := range variants(n) {
				if node.Same(n, x) || node.Same(x, n) || !node.Same(x, clone(x)) {
					t.Fatalf("%#v and %#v", n, x)
				}
			}
		}
	}
	for _, n := range []api.Node{{}, {Tree: -1}, {Leaf: true}, {Tree: 2}} {
		empty := n
		empty.Keys, empty.Vals = []int{}, make([]string, 0, 4)
		if !node.Same(n, empty) || !node.Same(empty, n) || !node.Same(n, n) {
			t.Errorf("%#v: nil and empty differ", n)
		}
		for _, x := range variants(n) {
			if node.Same(n, x) || node.Same(x, n) {
				t.Errorf("%#v and %#v", n, x)
			}
		}
	}
	a, b := api.Node{Keys: []int{1, 2}}, api.Node{Keys: []int{2, 1}}
	if node.Same(a, b) {
		t.Error("the order of the keys does not count")
	}
}

// P7.3: bytes that are not as many as an encoding has.
func TestReadLength(t *testing.T) {
	refuses(t, "nothing", nil, api.ErrForm)
	for _, s := range shapes {
		for _, count := range []int{s.least(), s.most} {
			b := s.spelled(s.with(count))
			for n := range 244 {
				refuses(t, "too short", b[:n], api.ErrForm)
				refuses(t, "too short", b[244-n:], api.ErrForm)
			}
			for _, n := range []int{1, 4, 8, 12, 244, 1 << 16} {
				refuses(t, "too long", append(bytes.Clone(b), make([]byte, n)...), api.ErrForm)
				refuses(t, "too long", append(make([]byte, n), b...), api.ErrForm)
			}
		}
	}
}

// P7.3: the bytes that tell the kind changed to every other one: another kind
// is read only if its Vals are as wide, and if it may have as many keys.
func TestReadKind(t *testing.T) {
	for _, s := range shapes {
		for count := s.least(); count <= s.most; count++ {
			n := s.with(count)
			b := s.spelled(n)
			for _, kind := range []int{0, 1, 2, 3, 4, 5, 8, 16, 32, 64, 128, 129, 254, 255} {
				for tree := range 256 {
					b[0], b[1] = byte(kind), byte(tree)
					i := slices.IndexFunc(shapes, func(o shape) bool {
						return kind < 2 && o.leaf == (kind == 1) && o.tree == tree && o.width == s.width && o.least() <= count
					})
					if i < 0 {
						refuses(t, "kind", b, api.ErrForm)
						continue
					}
					n.Tree, n.Leaf = tree, kind == 1
					takes(t, n, b)
				}
			}
		}
	}
}

// P7.3: every other width and capacity, and other bytes behind them.
func TestReadHead(t *testing.T) {
	for _, s := range shapes {
		for _, count := range []int{s.least(), s.most} {
			b := s.spelled(s.with(count))
			for _, at := range []int{4, 6} {
				old := binary.LittleEndian.Uint16(b[at:])
				for x := range 1 << 16 {
					if uint16(x) != old {
						binary.LittleEndian.PutUint16(b[at:], uint16(x))
						refuses(t, "width or capacity", b, api.ErrForm)
					}
				}
				binary.LittleEndian.PutUint16(b[at:], old)
			}
			for bit := range 32 {
				binary.LittleEndian.PutUint32(b[8:], 1<<bit)
				refuses(t, "the four bytes", b, api.ErrForm)
				binary.LittleEndian.PutUint32(b[8:], 1<<32-1-1<<bit)
				refuses(t, "the four bytes", b, api.ErrForm)
			}
		}
	}
}

// P7.3: every other number of keys: with fewer, there are bytes that must be 0
// and are not; with more, there are keys that are 0.
func TestReadNumber(t *testing.T) {
	for _, s := range shapes {
		for count := range s.most + 1 {
			b := s.spelled(s.with(count))
			for x := range 1 << 16 {
				if x > 300 && x%256 > s.most { // no lowest byte that would do alone
					continue
				}
				binary.LittleEndian.PutUint16(b[2:], uint16(x))
				switch {
				case x < s.least() || x < count || x > s.most:
					refuses(t, "number", b, api.ErrForm)
				case x == count:
					takes(t, s.with(count), b)
				case x == 1:
					takes(t, api.Node{Tree: s.tree, Leaf: s.leaf, Keys: []int{0}, Vals: []string{strings.Repeat("\x00", s.width)}}, b)
				default:
					refuses(t, "number", b, api.ErrOrder)
				}
			}
		}
	}
}

// P7.3: the width and the capacity of every other kind, together.
func TestReadOtherShape(t *testing.T) {
	for _, s := range shapes {
		for _, o := range shapes {
			n := s.with(1)
			b := o.spelled(o.with(1))
			copy(b, s.spelled(n)[:2])
			if s.width == o.width {
				n.Vals = o.with(1).Vals
				takes(t, n, b)
			} else {
				refuses(t, "the shape of another kind", b, api.ErrForm)
			}
		}
		b := s.spelled(s.with(1))
		copy(b[4:], []byte{0, 0, 0, 0})
		refuses(t, "no width", b, api.ErrForm)
	}
	for _, tree := range []int{0, 6, 255} { // where there are no width and no capacity
		for kind := range 3 {
			b := make([]byte, 244)
			b[0], b[1] = byte(kind), byte(tree)
			refuses(t, "no tree", b, api.ErrForm)
			b[2] = 1
			refuses(t, "no tree", b, api.ErrForm)
		}
	}
}

// P7.3: more keys than the capacity, with bytes for all of them where that is
// possible; and none in an internal node.
func TestReadCount(t *testing.T) {
	for _, s := range shapes {
		for count := s.most + 1; count <= 30; count++ {
			b := s.spelled(s.with(s.most))
			b[2] = byte(count)
			refuses(t, "too many", b, api.ErrForm)
		}
		b := s.spelled(s.with(0))
		if s.leaf {
			takes(t, s.with(0), b)
		} else {
			refuses(t, "no keys", b, api.ErrForm)
		}
	}
}

// P7.3: each byte behind the keys, and behind the Vals, that must be 0, with
// every other value; every byte within them may have any.
func TestReadZeros(t *testing.T) {
	for _, s := range shapes {
		for count := s.least(); count <= s.most; count++ {
			b := s.spelled(s.with(count))
			vals := 12 + 8*s.most
			for at := 12 + 8*count; at < 244; at++ {
				old := b[at]
				if at >= vals && at < vals+s.width*count {
					b[at] = ^old
					if out, e := node.Read(b); e != api.OK || out.Vals[(at-vals)/s.width][(at-vals)%s.width] != ^old {
						t.Fatalf("%x: %#v, %v", b, out, e)
					}
				} else {
					for _, c := range []byte{1, 2, 4, 8, 16, 32, 64, 128, 255} {
						b[at] = c
						refuses(t, "zeros", b, api.ErrForm)
					}
				}
				b[at] = old
			}
		}
	}
}

// P7.3: keys that are beyond their range, or do not rise.
func TestReadKeys(t *testing.T) {
	for _, s := range shapes {
		for count := 1; count <= s.most; count++ {
			for i := range count {
				b := s.spelled(s.with(count))
				at := b[12+8*i:]
				old := binary.LittleEndian.Uint64(at)
				for _, key := range []uint64{1 << 48, 1<<48 + 1, 1 << 49, 1 << 62, 1<<63 - 1, 1 << 63, 1<<63 + 1, 1<<64 - 1, old + 1<<48, old + 1<<63} {
					binary.LittleEndian.PutUint64(at, key)
					refuses(t, "beyond", b, api.ErrRange)
				}
				if i == 0 {
					continue
				}
				before := binary.LittleEndian.Uint64(b[12+8*(i-1):])
				for _, key := range []uint64{before, before - 1, 0} {
					binary.LittleEndian.PutUint64(at, key)
					refuses(t, "order", b, api.ErrOrder)
				}
			}
		}
		n := s.of(api.MaxKey)
		takes(t, n, s.spelled(n))
		n = s.of(api.MaxKey, api.MaxKey)
		refuses(t, "twice the greatest", s.spelled(n), api.ErrOrder)
		n = s.of(api.MaxKey, 1<<48)
		refuses(t, "beyond the greatest", s.spelled(n), api.ErrRange)
		n = s.of(0, 0)
		refuses(t, "twice the least", s.spelled(n), api.ErrOrder)
	}
}

// P7.3: of several errors the first: what is not formed before the keys, and
// the keys in order, whatever their errors are.
func TestReadFirst(t *testing.T) {
	for _, s := range shapes {
		for _, x := range []struct {
			keys []int
			want api.Errno
		}{
			{[]int{5, 4, 1 << 48}, api.ErrOrder},
			{[]int{5, 1 << 48, 4}, api.ErrRange},
			{[]int{5, 5, -1}, api.ErrOrder},
			{[]int{5, -1, 4}, api.ErrRange},
			{[]int{-1, 5, 4}, api.ErrRange},
			{[]int{1 << 48, 1 << 48}, api.ErrRange},
			{[]int{1, 2, 2, 1 << 48, 0}, api.ErrOrder},
			{[]int{1, 2, math.MaxInt, 0, 0}, api.ErrRange},
		} {
			n := s.of(x.keys...)
			b := s.spelled(n)
			refuses(t, "keys", b, x.want)
			for _, at := range []int{0, 1, 3, 5, 7, 8, 9, 10, 11, 12 + 8*len(x.keys), 11 + 8*s.most, 12 + 8*s.most + s.width*len(x.keys), 243} {
				old := b[at]
				b[at] ^= 0x40
				refuses(t, "not formed, and keys", b, api.ErrForm)
				b[at] = old
			}
			b[2] = byte(s.most + 1)
			refuses(t, "too many, and keys", b, api.ErrForm)
			if !s.leaf {
				b[2] = 0
				refuses(t, "none, and keys", b, api.ErrForm)
			}
			b[2] = byte(len(x.keys) - 1)
			refuses(t, "one less, and keys", b, api.ErrForm)
		}
	}
}

// P7.4: arbitrary bytes: what Read takes is what Put encodes.
func TestArbitrary(t *testing.T) {
	var all [][]byte
	for _, s := range shapes {
		for _, n := range s.valid() {
			all = append(all, s.spelled(n))
		}
	}
	next := random()
	taken := 0
	for range 20000 {
		b := bytes.Clone(all[next(len(all))])
		for range next(4) {
			b[next(len(b))] = byte(next(256))
		}
		n, e := node.Read(b)
		if e != api.OK {
			if !none(n) || e != api.ErrForm && e != api.ErrRange && e != api.ErrOrder {
				t.Fatalf("%x: %#v, %v", b, n, e)
			}
			continue
		}
		taken++
		if out, e := node.Put(n); e != api.OK || !bytes.Equal(out, b) {
			t.Fatalf("%x became %#v, and that %x, %v", b, n, out, e)
		}
	}
	if taken < 1000 {
		t.Errorf("only %d were encodings", taken)
	}
}

// P7.4: two nodes have the same encoding only if they are the same.
func TestOneEncodingEach(t *testing.T) {
	seen := map[string]api.Node{}
	for _, s := range shapes {
		for _, n := range s.valid() {
			b, e := node.Put(n)
			if e != api.OK {
				t.Fatalf("%#v: %v", n, e)
			}
			if other, ok := seen[string(b)]; ok && !alike(other, n) {
				t.Errorf("%#v and %#v: %x", n, other, b)
			}
			seen[string(b)] = n
		}
	}
}

// P7.2: what Put returns is new, and its argument stays, with what lies behind
// it.
func TestPutIsNew(t *testing.T) {
	for _, s := range shapes {
		whole := s.with(s.most)
		n := whole
		n.Keys, n.Vals = whole.Keys[:1], whole.Vals[:1]
		want := s.spelled(s.with(1))
		b, _ := node.Put(n)
		c, _ := node.Put(n)
		for i := range b[:cap(b)] {
			b[:cap(b)][i] = 0xee
		}
		d, _ := node.Put(n)
		if !bytes.Equal(c, want) || !bytes.Equal(d, want) {
			t.Errorf("another encoding changed: %x, %x", c, d)
		}
		if !node.Right(n) || !node.Same(n, s.with(1)) || !alike(whole, s.with(s.most)) {
			t.Errorf("the argument changed: %#v", whole)
		}
		n.Tree = 0
		if denies(t, "tree", n); !alike(whole, s.with(s.most)) {
			t.Errorf("the argument changed: %#v", whole)
		}
	}
}

// P7.3: what Read returns is new, and its argument stays, with the bytes behind
// it.
func TestReadIsNew(t *testing.T) {
	for _, s := range shapes {
		n := s.with(s.most)
		whole := append(s.spelled(n), bytes.Repeat([]byte{0x5a}, 60)...)
		before := bytes.Clone(whole)
		a, _ := node.Read(whole[:244])
		b, _ := node.Read(whole[:244])
		refuses(t, "the bytes behind it too", whole, api.ErrForm)
		refuses(t, "a part", whole[:100], api.ErrForm)
		if !bytes.Equal(whole, before) {
			t.Errorf("the bytes changed: %x", whole)
		}
		for i := range a.Keys[:cap(a.Keys)] {
			a.Keys[:cap(a.Keys)][i] = -7
		}
		for i := range a.Vals[:cap(a.Vals)] {
			a.Vals[:cap(a.Vals)][i] = "x"
		}
		for i := range whole {
			whole[i] = 0xee
		}
		if !alike(b, n) {
			t.Errorf("another node changed: %#v", b)
		}
		if c, e := node.Read(before[:244]); e != api.OK || !alike(c, n) {
			t.Errorf("%#v, %v", c, e)
		}
	}
}
