package size_test

import (
	"math"
	"math/rand/v2"
	"reflect"
	"slices"
	"testing"

	"scantling/api"
	"scantling/size"
)

const (
	maxBlocks = 14400
	maxData   = 65536
	maxDevs   = 4096
	maxMaps   = 16384
	maxTx     = 1<<31 - 1
	maxTime   = 1<<24 - 1
	maxUnit   = 65536
	maxDev    = 1<<24 - 1
	maxKey    = 1<<48 - 1
	per       = 960 // counts of a bitmap
	fan       = 18  // keys of an internal node
)

// The keys of a leaf of each tree.
const (
	top     = 18
	dev     = 12
	details = 6
	slots   = 9
	over    = 18
)

// source returns a random source that is the same in each run.
func source(n uint64) *rand.Rand {
	return rand.New(rand.NewPCG(20, n))
}

// parts returns how many parts of at most that many things there are.
func parts(n, most int) int {
	whole := n / most
	if n%most > 0 {
		whole++
	}
	return whole
}

// nodes returns the number of nodes of a packed tree: each level is as wide as
// the one below it has parts, up to the level that is a single node.
func nodes(n, leaf int) int {
	level := max(parts(n, leaf), 1)
	all := level
	for level != 1 {
		level = parts(level, fan)
		all += level
	}
	return all
}

// based returns the Base of a valid pool.
func based(p api.Pool) int {
	counts := map[int]int{}
	n := 1 + parts(p.Data, per)
	for _, d := range p.Devs {
		n += nodes(len(d.Maps), dev)
		for _, m := range d.Maps {
			counts[m.B]++
		}
	}
	entries := 0
	for _, count := range counts {
		if count > 2 {
			entries++
		}
	}
	n += nodes(len(p.Devs), details) + nodes(len(p.Devs), top)
	return n + nodes(parts(p.Data, per), slots) + nodes(entries, over)
}

// needed returns the least n that P20.3 names, looking at all of them.
func needed(base int) int {
	n := 0
	for n < base+2+parts(n, per) {
		n++
	}
	return n
}

// spare returns a list behind which more elements follow in the same memory.
func spare[T any](l []T, more ...T) []T {
	return append(slices.Clone(l), more...)[:len(l)]
}

// keep returns a function that fails if a pool, or the memory behind its slices,
// is no longer what it is now.
func keep(t *testing.T, p api.Pool) func() {
	t.Helper()
	whole := p.Devs[:cap(p.Devs)]
	before := slices.Clone(whole)
	var lists [][]api.Map
	for _, d := range whole {
		lists = append(lists, slices.Clone(d.Maps[:cap(d.Maps)]))
	}
	return func() {
		t.Helper()
		if !reflect.DeepEqual(whole, before) {
			t.Fatalf("devices have changed from %v to %v", before, whole)
		}
		for i, d := range whole {
			if !slices.Equal(d.Maps[:cap(d.Maps)], lists[i]) {
				t.Fatalf("mappings have changed from %v to %v", lists[i], d.Maps[:cap(d.Maps)])
			}
		}
	}
}

// fits checks what Fits returns for a number of blocks.
func fits(t *testing.T, what string, p api.Pool, n int, want bool) {
	t.Helper()
	if ok := size.Fits(p, n); ok != want {
		t.Fatalf("%s: Fits(%d): %v", what, n, ok)
	}
}

// takes checks the Base and the Need of a valid pool, and in how many blocks it
// has room.
func takes(t *testing.T, what string, p api.Pool, base, need int) {
	t.Helper()
	same := keep(t, p)
	if n := size.Base(p); n != base {
		t.Fatalf("%s: Base %d, not %d", what, n, base)
	}
	if n := size.Need(p); n != need {
		t.Fatalf("%s: Need %d, not %d", what, n, need)
	}
	for _, n := range []int{math.MinInt, math.MinInt + 1, -need, -1, 0, 1, base, need - 2, need - 1, maxBlocks + 1, maxBlocks + 2, maxBlocks + 1<<16, need + 1<<32, math.MaxInt - 1, math.MaxInt} {
		fits(t, what, p, n, false)
	}
	for _, n := range []int{need, need + 1, (need + maxBlocks) / 2, maxBlocks - 1, maxBlocks} {
		fits(t, what, p, n, true)
	}
	same()
}

// refuses checks that a pool is not valid for any of the functions.
func refuses(t *testing.T, what string, p api.Pool) {
	t.Helper()
	same := keep(t, p)
	if b, n := size.Base(p), size.Need(p); b != 0 || n != 0 {
		t.Fatalf("%s: Base %d, Need %d", what, b, n)
	}
	for _, n := range []int{math.MinInt, -1, 0, 1, 7, 8, 9, 960, maxBlocks - 1, maxBlocks, maxBlocks + 1, math.MaxInt} {
		fits(t, what, p, n, false)
	}
	same()
}

// devices returns n devices without mappings.
func devices(n int) []api.Device {
	var l []api.Device
	for i := range n {
		l = append(l, api.Device{Id: i})
	}
	return l
}

// many returns n mappings of the virtual blocks from 0 on, to data block b.
func many(n, b int) []api.Map {
	var l []api.Map
	for i := range n {
		l = append(l, api.Map{V: i, B: b})
	}
	return l
}

// single returns a pool with one device, which maps the virtual blocks from 0 on
// to these data blocks.
func single(data int, blocks ...int) api.Pool {
	var l []api.Map
	for i, b := range blocks {
		l = append(l, api.Map{V: i, B: b})
	}
	return api.Pool{Unit: 1, Data: data, Devs: []api.Device{{Maps: l}}}
}

// each returns each of n data blocks so many times.
func each(n, times int) []int {
	var l []int
	for b := range n {
		l = append(l, slices.Repeat([]int{b}, times)...)
	}
	return l
}

// The chapter's example, and the document's: all numbers but Unit are 0.
func TestExample(t *testing.T) {
	takes(t, "empty", api.Pool{Unit: 1}, 5, 8)
	takes(t, "empty", api.Pool{Unit: 1, Devs: []api.Device{}}, 5, 8)
}

// P20.1: the bitmaps, one count more at a time.
func TestBitmaps(t *testing.T) {
	full, room := 0, 0 // bitmaps, and the counts for which the last one has room
	for n := 1; n < 70000; n++ {
		if room == 0 {
			full++
			room = per
		}
		room--
		if k := size.Bitmaps(n); k != full {
			t.Fatalf("Bitmaps(%d): %d, not %d", n, k, full)
		}
	}
}

// P20.1: few and no counts, and more counts than any pool has.
func TestBitmapsEdges(t *testing.T) {
	for _, n := range []int{math.MinInt, math.MinInt + 1, -1 << 40, -1 << 32, 1 - 1<<32, -1 << 31, -65536, -961, -960, -959, -2, -1, 0} {
		if k := size.Bitmaps(n); k != 0 {
			t.Errorf("Bitmaps(%d): %d", n, k)
		}
	}
	for n, want := range map[int]int{1: 1, 2: 1, 959: 1, 960: 1, 961: 2, 1920: 2, 1921: 3, maxBlocks: 15, maxBlocks + 1: 16, maxData: 69, 65535: 69,
		1<<31 - 1: 2236963, 1 << 31: 2236963, 1 << 32: 4473925, 1<<32 + 1: 4473925, 1<<40 - 1: 1145324613, 1 << 40: 1145324613} {
		if k := size.Bitmaps(n); k != want {
			t.Errorf("Bitmaps(%d): %d, not %d", n, k, want)
		}
	}
}

// P20.1: multiples of Per up to 2^40, and their neighbours.
func TestBitmapsRandom(t *testing.T) {
	r := source(1)
	for range 100000 {
		k := 1 + r.IntN(1<<r.IntN(31))
		if k > 1<<40/per-1 {
			continue
		}
		n := k * per
		if a, b, c, d := size.Bitmaps(n-1), size.Bitmaps(n), size.Bitmaps(n+1), size.Bitmaps(n+1+r.IntN(per-1)); a != k || b != k || c != k+1 || d != k+1 {
			t.Fatalf("around %d: %d, %d, %d, %d", n, a, b, c, d)
		}
	}
}

// P20.2, P20.3: each of the trees and the bitmaps alone, by hand.
func TestTerms(t *testing.T) {
	takes(t, "a bitmap", api.Pool{Unit: 1, Data: 1}, 6, 9)
	takes(t, "a full bitmap", api.Pool{Unit: 1, Data: 960}, 6, 9)
	takes(t, "two bitmaps", api.Pool{Unit: 1, Data: 961}, 7, 10)
	takes(t, "a full leaf of slots", api.Pool{Unit: 1, Data: 9 * 960}, 14, 17)
	takes(t, "a second leaf of slots, and a root", api.Pool{Unit: 1, Data: 9*960 + 1}, 17, 20)
	takes(t, "most data blocks", api.Pool{Unit: 1, Data: maxData}, 5+69+8, 85)
	takes(t, "a device", api.Pool{Unit: 1, Devs: devices(1)}, 6, 9)
	takes(t, "a full leaf of details", api.Pool{Unit: 1, Devs: devices(6)}, 11, 14)
	takes(t, "a second leaf of details, and a root", api.Pool{Unit: 1, Devs: devices(7)}, 14, 17)
	takes(t, "a full leaf of roots", api.Pool{Unit: 1, Devs: devices(18)}, 5+18+3, 29)
	takes(t, "a second leaf of roots, and a root", api.Pool{Unit: 1, Devs: devices(19)}, 5+19+4+2, 33)
	takes(t, "most devices", api.Pool{Unit: 1, Devs: devices(maxDevs)}, 5+4096+(683+38+3)+(228+13+0), 5074)
	takes(t, "a mapping", single(1, 0), 7, 10)
	takes(t, "a full leaf of mappings", single(6, each(6, 2)...), 7, 10)
	takes(t, "a second leaf of mappings, and a root", single(7, each(7, 2)[:13]...), 9, 12)
	takes(t, "the document's 30 mappings", single(15, each(15, 2)...), 10, 13)
	takes(t, "an entry", single(1, 0, 0, 0), 7, 10)
	takes(t, "a full leaf of entries", single(18, each(18, 3)...), 7+5, 15)
	takes(t, "a second leaf of entries, and a root", single(19, each(19, 3)...), 7+5+2, 17)
}

// P20.2: the numbers of bitmaps, devices, mappings and entries at which any tree
// has one more node, up to the greatest ones.
func TestShapes(t *testing.T) {
	for bitmaps := range 69 {
		for _, data := range []int{bitmaps*per - 1, bitmaps * per, bitmaps*per + 1} {
			p := api.Pool{Unit: 1, Data: max(data, 0)}
			takes(t, "data", p, based(p), needed(based(p)))
		}
	}
	all := spare(devices(maxDevs))
	for n := range maxDevs + 1 {
		p := api.Pool{Unit: 1, Data: 7, Devs: all[:n]}
		if b, want := size.Base(p), based(p); b != want {
			t.Fatalf("%d devices: %d, not %d", n, b, want)
		}
	}
	for _, n := range []int{11, 12, 13, 24, 25, 215, 216, 217, 228, 229, 432, 433, 3887, 3888, 3889, 3900, 3901, maxMaps - 1, maxMaps} {
		p := single(maxData, each(n, 1)...)
		takes(t, "mappings", p, based(p), needed(based(p)))
	}
	for _, n := range []int{1, 17, 18, 19, 35, 36, 37, 323, 324, 325, 342, 343, 648, 649, maxMaps / 3} {
		p := single(maxData, each(n, 3)...)
		takes(t, "entries", p, based(p), needed(based(p)))
	}
}

// P20.2: the least number of mappings for which a data block has an entry, be
// they of one device or of several ones.
func TestEntries(t *testing.T) {
	for count := range 9 {
		want := 7
		if count >= 3 {
			want += 2 // 18 of them fill a leaf, and these are 19
		}
		takes(t, "of one device", single(19, each(19, count)...), want+max(nodes(19*count, dev)-1, 0), want+max(nodes(19*count, dev)-1, 0)+3)
		p := api.Pool{Unit: 1, Data: 19}
		for i := range count {
			p.Devs = append(p.Devs, api.Device{Id: 5 * i, Maps: single(19, each(19, 1)...).Devs[0].Maps})
		}
		takes(t, "of several devices", p, based(p), needed(based(p)))
		n := 6 + nodes(count, details) - 1 + 3*count + nodes(0, over) - 1
		if count >= 3 {
			n += 2
		}
		takes(t, "of several devices", p, n, n+3)
	}
}

// P20.2: each device has a tree of its own, with as many entries as it has
// mappings, even if it maps the same blocks as another one.
func TestAlike(t *testing.T) {
	for n := range 40 {
		p := api.Pool{Unit: 1, Data: 1}
		for range 5 {
			p.Devs = append(p.Devs, api.Device{Id: len(p.Devs), Maps: many(n, 0)})
		}
		base := 6 + 5*nodes(n, dev)
		takes(t, "alike", p, base, base+3)
	}
}

// P20.2: only the numbers of entries count, not their keys and values.
func TestNumbers(t *testing.T) {
	l := []api.Map{{V: 0, B: 0, T: 0}, {V: 9, B: maxData - 1, T: maxTime}, {V: maxKey, B: 7, T: 5}}
	p := api.Pool{Tx: maxTx, Time: maxTime, Unit: maxUnit, Data: maxData, Devs: spare([]api.Device{
		{Id: 5, Tx: 1, Made: 2, Snapped: 3, Maps: spare(l, api.Map{V: 1, B: 7}, api.Map{V: 2, B: 7})},
		{Id: maxDev, Tx: maxTx, Made: maxTime, Snapped: maxTime},
	}, api.Device{Id: -3, Maps: many(50, 2)})}
	takes(t, "greatest", p, 5+69+8+2, 87)
	p.Tx, p.Time, p.Unit = 0, 0, 1
	takes(t, "smallest", p, 5+69+8+2, 87)
}

// P20.3: the smallest n for each Base that a number of devices leads to, among
// which are those around the numbers at which one more bitmap is needed.
func TestNeed(t *testing.T) {
	all := devices(maxDevs)
	bases := map[int]bool{}
	for n := range maxDevs + 1 {
		for _, data := range []int{0, 1, 961, 5000} {
			p := api.Pool{Unit: 1, Data: data, Devs: all[:n]}
			base := based(p)
			if bases[base] {
				continue
			}
			bases[base] = true
			if k := size.Need(p); k != needed(base) {
				t.Fatalf("Base %d: Need %d, not %d", base, k, needed(base))
			}
		}
	}
	for base := 5; base < 5000; base++ {
		near := (base+2)%959 < 3 || (base+2)%959 > 956
		if near && !bases[base] {
			t.Errorf("no pool with Base %d", base)
		}
	}
}

// P20.3: numbers around a whole number of bitmaps, by hand. A second bitmap is
// itself the block that the first one has no count for.
func TestNeedEdges(t *testing.T) {
	for _, x := range []struct{ devices, data, base, need int }{
		{768, 0, 955, 958},
		{768, 1, 956, 959},
		{768, 961, 957, 960},
		{768, 1921, 958, 962},
		{768, 2881, 959, 963},
	} {
		p := api.Pool{Unit: 1, Data: x.data, Devs: devices(x.devices)}
		takes(t, "two bitmaps", p, x.base, x.need)
	}
}

// P20.3: a pool that is as large as may be has room.
func TestLargest(t *testing.T) {
	p := api.Pool{Unit: 1, Data: maxData, Devs: devices(maxDevs)}
	left := maxMaps
	for i := range p.Devs {
		n := min(left, 13)
		for v := range n {
			p.Devs[i].Maps = append(p.Devs[i].Maps, api.Map{V: v, B: left / 3})
			left--
		}
	}
	takes(t, "largest", p, based(p), needed(based(p)))
	if size.Need(p) < 7000 {
		t.Errorf("Need %d", size.Need(p))
	}
}

// flaws are changes by which a pool with two devices and a mapping is no longer
// valid.
func flaws() map[string]func(p *api.Pool) {
	return map[string]func(p *api.Pool){
		"Tx":             func(p *api.Pool) { p.Tx = -1 },
		"greatest Tx":    func(p *api.Pool) { p.Tx = maxTx + 1 },
		"Time":           func(p *api.Pool) { p.Time = maxTime + 1 },
		"Unit":           func(p *api.Pool) { p.Unit = 0 },
		"greatest Unit":  func(p *api.Pool) { p.Unit = maxUnit + 1 },
		"negative Data":  func(p *api.Pool) { p.Data, p.Devs = -1, nil },
		"greatest Data":  func(p *api.Pool) { p.Data = maxData + 1 },
		"no data blocks": func(p *api.Pool) { p.Data = 0 },
		"devices":        func(p *api.Pool) { p.Devs = devices(maxDevs + 1) },
		"mappings":       func(p *api.Pool) { p.Devs[0].Maps = many(maxMaps+1, 0) },
		"Id":             func(p *api.Pool) { p.Devs[1].Id = maxDev + 1 },
		"order of Ids":   func(p *api.Pool) { p.Devs[1].Id = p.Devs[0].Id },
		"Made":           func(p *api.Pool) { p.Devs[0].Made = -1 },
		"Snapped":        func(p *api.Pool) { p.Devs[0].Snapped = maxTime + 1 },
		"V":              func(p *api.Pool) { p.Devs[0].Maps[0].V = maxKey + 1 },
		"B":              func(p *api.Pool) { p.Devs[0].Maps[0].B = p.Data },
		"T":              func(p *api.Pool) { p.Devs[0].Maps[0].T = -1 },
		"order of Vs":    func(p *api.Pool) { p.Devs[0].Maps = append(p.Devs[0].Maps, p.Devs[0].Maps[0]) },
		"everything":     func(p *api.Pool) { *p = api.Pool{} },
	}
}

// P20.2, P20.3: pools that are not valid.
func TestInvalid(t *testing.T) {
	sample := func() api.Pool {
		return api.Pool{Unit: 1, Data: 4, Devs: []api.Device{{Id: 3, Maps: []api.Map{{V: 1, B: 2, T: 3}}}, {Id: 4}}}
	}
	takes(t, "valid", sample(), 8, 11)
	for what, change := range flaws() {
		p := sample()
		change(&p)
		refuses(t, what, p)
	}
}

// random returns a valid pool.
func random(r *rand.Rand) api.Pool {
	p := api.Pool{Unit: 1, Data: 1 + r.IntN(1<<(1+r.IntN(16)))}
	blocks := 1 + r.IntN(min(p.Data, 1<<r.IntN(17)))
	left := maxMaps
	for i := range r.IntN(1 << r.IntN(12)) {
		d := api.Device{Id: 10*i + r.IntN(10)}
		v := r.IntN(5)
		for range min(left, r.IntN(1<<r.IntN(8))) {
			d.Maps = append(d.Maps, api.Map{V: v, B: r.IntN(blocks), T: r.IntN(9)})
			v += 1 + r.IntN(3)
			left--
		}
		p.Devs = append(p.Devs, d)
	}
	return p
}

// P20.2, P20.3: random pools, some of them so large that the blocks themselves
// need two bitmaps or more.
func TestRandom(t *testing.T) {
	r := source(2)
	small, large := 0, 0
	for range 1000 {
		p := random(r)
		base := based(p)
		takes(t, "random", p, base, needed(base))
		if len(p.Devs) > 0 && base < 50 {
			small++
		}
		if base > 960 {
			large++
		}
	}
	if small < 50 || large < 50 {
		t.Errorf("%d small and %d large pools", small, large)
	}
}

// P20.4: a mapping of a virtual block greater than all others, of any device and
// to any data block.
func TestMore(t *testing.T) {
	r := source(3)
	grown, equal := 0, 0
	for range 40 {
		p := api.Pool{Unit: 1, Data: 1 + r.IntN(2000), Devs: devices(1 + r.IntN(9))}
		need := size.Need(p)
		blocks := 1 + r.IntN(min(p.Data, 50))
		for range 400 {
			d := &p.Devs[r.IntN(len(p.Devs))]
			v := r.IntN(3)
			if n := len(d.Maps); n > 0 {
				v += d.Maps[n-1].V + 1
			}
			d.Maps = append(d.Maps, api.Map{V: v, B: r.IntN(blocks), T: r.IntN(3)})
			now := size.Need(p)
			switch {
			case now < need || now == 0:
				t.Fatalf("Need decreases from %d to %d", need, now)
			case now > need:
				grown++
			default:
				equal++
			}
			need = now
		}
	}
	if grown < 500 || equal < 500 {
		t.Errorf("%d times more, %d times the same", grown, equal)
	}
}
