package refs_test

import (
	"math"
	"math/rand/v2"
	"slices"
	"testing"

	"scantling/api"
	"scantling/refs"
)

// source returns a random source that is the same in each run.
func source() *rand.Rand {
	return rand.New(rand.NewPCG(12, 65536))
}

// made returns New's counter for n items.
func made(t *testing.T, n int) *refs.Refs {
	t.Helper()
	x, e := refs.New(n)
	if x == nil || e != api.OK {
		t.Fatalf("New(%d): %v, %v", n, x, e)
	}
	return x
}

// add counts items that the counter has.
func add(t *testing.T, x *refs.Refs, items ...int) {
	t.Helper()
	for _, k := range items {
		if _, e := x.Add(k); e != api.OK {
			t.Fatalf("Add(%d): %v", k, e)
		}
	}
}

// outside returns numbers that are none of n items; the lowest 8, 16 or 32 bits
// of some of them are one.
func outside(n int) []int {
	return []int{-1, -2, -256, -1 << 16, -1 << 32, n, n + 1, n + 256, n + 1<<16, 1 << 20, 1 << 32, 1<<32 + 1, math.MaxInt, math.MinInt, math.MinInt + 1}
}

// atLeast returns the indices of the counts that are at least least.
func atLeast(counts []int, least int) []int {
	var l []int
	for k := 0; k < len(counts); k++ {
		if counts[k] >= least {
			l = append(l, k)
		}
	}
	return l
}

// holds checks that a counter has the counts in want, as each of its methods
// that read tells.
func holds(t *testing.T, what string, x *refs.Refs, want []int) {
	t.Helper()
	if n := x.Len(); n != len(want) {
		t.Fatalf("%s: %d items, not %d", what, n, len(want))
	}
	if l := x.List(); !slices.Equal(l, want) {
		t.Fatalf("%s: counts %v, not %v", what, l, want)
	}
	sum, most := 0, 0
	for k, n := range want {
		sum, most = sum+n, max(most, n)
		if got := x.Count(k); got != n {
			t.Fatalf("%s: item %d is counted %d times, not %d", what, k, got, n)
		}
	}
	for _, k := range outside(len(want)) {
		if got := x.Count(k); got != 0 {
			t.Fatalf("%s: %d is counted %d times without being an item", what, k, got)
		}
	}
	if got := x.Total(); got != sum {
		t.Fatalf("%s: %d in all, not %d", what, got, sum)
	}
	for _, least := range []int{math.MinInt, -1 << 32, -1, 0, 1, 2, 3, most - 1, most, most + 1, 1 << 32, math.MaxInt} {
		if l := x.From(least); !slices.Equal(l, atLeast(want, least)) {
			t.Fatalf("%s: from %d: %v, not %v", what, least, l, atLeast(want, least))
		}
	}
}

// refuses checks that a counter returns an error, and no count, for what is not
// an item.
func refuses(t *testing.T, what string, x *refs.Refs, items []int, want api.Errno) {
	t.Helper()
	for _, k := range items {
		if n, e := x.Add(k); n != 0 || e != want {
			t.Fatalf("%s: Add(%d): %d, %v, not 0, %v", what, k, n, e, want)
		}
	}
}

// The chapter's example.
func TestExample(t *testing.T) {
	x := made(t, 3)
	for want := 1; want <= 2; want++ {
		if n, e := x.Add(1); n != want || e != api.OK {
			t.Errorf("Add(1): %d, %v", n, e)
		}
	}
	holds(t, "example", x, []int{0, 2, 0})
}

// P12.1: counters for as many items as there may be.
func TestNew(t *testing.T) {
	for _, n := range []int{0, 1, 2, 3, 255, 256, 257, 14400, 65535, 65536} {
		x := made(t, n)
		holds(t, "new", x, make([]int, n))
	}
}

// P12.1: numbers of items that no counter may have.
func TestNewRange(t *testing.T) {
	for _, n := range []int{-1, -2, -65536, -1 << 32, 65537, 65538, 1 << 17, 1 << 31, 1 << 32, 1<<32 + 1, math.MaxInt, math.MinInt, math.MinInt + 1} {
		if x, e := refs.New(n); x != nil || e != api.ErrRange {
			t.Errorf("New(%d): %v, %v", n, x, e)
		}
	}
}

// P12.1: counters do not know of each other.
func TestNewApart(t *testing.T) {
	x, y := made(t, 4), made(t, 4)
	add(t, x, 0, 3, 3)
	holds(t, "x", x, []int{1, 0, 0, 2})
	holds(t, "y", y, make([]int, 4))
	add(t, y, 1, 3)
	holds(t, "x", x, []int{1, 0, 0, 2})
	holds(t, "y", y, []int{0, 1, 0, 1})
	holds(t, "z", made(t, 4), make([]int, 4))
}

// P12.2: Add counts one item, from the first to the last, and returns its count.
func TestAdd(t *testing.T) {
	r := source()
	for _, size := range []int{1, 2, 3, 9, 200} {
		x, want := made(t, size), make([]int, size)
		for range 8 * size {
			k := r.IntN(size)
			want[k]++
			if n, e := x.Add(k); n != want[k] || e != api.OK {
				t.Fatalf("Add(%d) of %d: %d, %v, not %d", k, size, n, e, want[k])
			}
			holds(t, "after Add", x, want)
		}
	}
}

// P12.2: a count grows beyond what fewer bytes hold.
func TestAddOften(t *testing.T) {
	x := made(t, 3)
	for want := 1; want <= 1<<17; want++ {
		if n, e := x.Add(1); n != want || e != api.OK {
			t.Fatalf("Add(1): %d, %v, not %d", n, e, want)
		}
	}
	add(t, x, 2)
	holds(t, "often", x, []int{0, 1 << 17, 1})
}

// P12.2: the items of the largest counter.
func TestAddLast(t *testing.T) {
	x, want := made(t, 65536), make([]int, 65536)
	for _, k := range []int{0, 255, 256, 65534, 65535, 65535} {
		want[k]++
		add(t, x, k)
	}
	holds(t, "largest", x, want)
	if l := x.From(1); !slices.Equal(l, []int{0, 255, 256, 65534, 65535}) {
		t.Errorf("from 1: %v", l)
	}
	refuses(t, "largest", x, outside(65536), api.ErrEnd)
	holds(t, "largest", x, want)
}

// P12.2: what is not an item is not counted, and changes nothing.
func TestAddNoItem(t *testing.T) {
	for _, size := range []int{0, 1, 2, 9, 65536} {
		x, want := made(t, size), make([]int, size)
		refuses(t, "new", x, outside(size), api.ErrEnd)
		holds(t, "new", x, want)
		for k := range min(size, 9) {
			add(t, x, k, size-1)
			want[k]++
			want[size-1]++
			refuses(t, "counted", x, outside(size), api.ErrEnd)
		}
		holds(t, "counted", x, want)
	}
}

// P12.3: the items whose count is at least least, for every least.
func TestFrom(t *testing.T) {
	want := []int{3, 0, 1, 2, 0, 5, 1, 1, 2, 5}
	x := made(t, len(want))
	for k, n := range want {
		for range n {
			add(t, x, k)
		}
	}
	for least, l := range map[int][]int{
		math.MinInt: {0, 1, 2, 3, 4, 5, 6, 7, 8, 9},
		-1:          {0, 1, 2, 3, 4, 5, 6, 7, 8, 9},
		0:           {0, 1, 2, 3, 4, 5, 6, 7, 8, 9},
		1:           {0, 2, 3, 5, 6, 7, 8, 9},
		2:           {0, 3, 5, 8, 9},
		3:           {0, 5, 9},
		4:           {5, 9},
		5:           {5, 9},
		6:           {},
		1 << 32:     {},
		math.MaxInt: {},
	} {
		if got := x.From(least); !slices.Equal(got, l) {
			t.Errorf("from %d: %v, not %v", least, got, l)
		}
	}
	holds(t, "from", x, want)
	if n := x.Total(); n != 20 {
		t.Errorf("%d in all", n)
	}
}

// P12.3: what the methods return is the caller's own.
func TestOwn(t *testing.T) {
	x := made(t, 4)
	add(t, x, 0, 2, 2, 3)
	want := []int{1, 0, 2, 1}
	spoil := func(l []int) {
		for i := range l[:cap(l)] {
			l[:cap(l)][i] = -7
		}
	}
	list, from := x.List(), x.From(1)
	spoil(x.List())
	spoil(x.From(0))
	spoil(x.From(1))
	holds(t, "spoilt", x, want)
	add(t, x, 0, 1)
	if !slices.Equal(list, want) || !slices.Equal(from, []int{0, 2, 3}) {
		t.Errorf("what was returned before: %v, %v", list, from)
	}
	holds(t, "later", x, []int{2, 1, 2, 1})
}

// wanted returns the indices that Differ is to return, by one index after the
// other up to the longer length.
func wanted(a, b []int) []int {
	var l []int
	for i := 0; i < len(a) || i < len(b); i++ {
		if i < len(a) && i < len(b) && a[i] == b[i] {
			continue
		}
		l = append(l, i)
	}
	return l
}

// lists returns all lists of up to that many of the values.
func lists(most int, values ...int) [][]int {
	all := [][]int{nil}
	last := all
	for range most {
		var next [][]int
		for _, l := range last {
			for _, n := range values {
				next = append(next, append(slices.Clone(l), n))
			}
		}
		all, last = append(all, next...), next
	}
	return all
}

// P12.4: all pairs of short lists.
func TestDiffer(t *testing.T) {
	all := append(lists(4, 0, 1), lists(2, -1, 0, math.MinInt, math.MaxInt, 1<<32)...)
	for _, a := range all {
		for _, b := range all {
			if l := refs.Differ(a, b); !slices.Equal(l, wanted(a, b)) {
				t.Fatalf("%v and %v: %v, not %v", a, b, l, wanted(a, b))
			}
		}
	}
}

// P12.4: lists by hand, of the same length and of others.
func TestDifferLength(t *testing.T) {
	for _, x := range []struct{ a, b, want []int }{
		{nil, nil, nil},
		{nil, []int{}, nil},
		{[]int{}, []int{}, nil},
		{nil, []int{0}, []int{0}},
		{[]int{0, 0, 0}, nil, []int{0, 1, 2}},
		{[]int{5, 6}, []int{5, 6}, nil},
		{[]int{5, 6}, []int{6, 5}, []int{0, 1}},
		{[]int{5, 6, 7}, []int{5, 8, 7}, []int{1}},
		{[]int{5, 6, 7}, []int{5, 6}, []int{2}},
		{[]int{5, 6}, []int{5, 6, 0, 0}, []int{2, 3}},
		{[]int{4, 6}, []int{5, 6, 7}, []int{0, 2}},
		{[]int{1, 2, 3, 4, 5}, []int{1, 0, 3, 0}, []int{1, 3, 4}},
	} {
		if l := refs.Differ(x.a, x.b); !slices.Equal(l, x.want) {
			t.Errorf("%v and %v: %v, not %v", x.a, x.b, l, x.want)
		}
		if l := refs.Differ(x.b, x.a); !slices.Equal(l, x.want) {
			t.Errorf("%v and %v: %v, not %v", x.b, x.a, l, x.want)
		}
	}
}

// P12.4: long lists with a few differences, and longer than a counter may be.
func TestDifferLong(t *testing.T) {
	r := source()
	for _, size := range []int{1000, 65536, 70000} {
		a := make([]int, size)
		for i := range a {
			a[i] = r.IntN(5)
		}
		b, want := slices.Clone(a[:size-3]), []int{}
		for i := range b {
			if r.IntN(100) == 0 {
				b[i]++
				want = append(want, i)
			}
		}
		want = append(want, size-3, size-2, size-1)
		if l := refs.Differ(a, b); !slices.Equal(l, want) {
			t.Errorf("%d: %d differences, not %d", size, len(l), len(want))
		}
		if l := refs.Differ(b, a); !slices.Equal(l, want) {
			t.Errorf("%d: %d differences, not %d", size, len(l), len(want))
		}
	}
}

// P12.4: Differ neither changes its arguments nor looks behind their ends, and
// its result is the caller's own.
func TestDifferOwn(t *testing.T) {
	all := []int{1, 2, 3, 4, 5, 6, 7, 8}
	kept := slices.Clone(all)
	for from := range all {
		for to := from; to <= len(all); to++ {
			a, b := all[:to], all[from:to]
			for _, l := range [][]int{refs.Differ(a, b), refs.Differ(b, a)} {
				if !slices.Equal(l, wanted(a, b)) {
					t.Fatalf("%v and %v: %v, not %v", a, b, l, wanted(a, b))
				}
				for i := range l[:cap(l)] {
					l[:cap(l)][i] = -7
				}
			}
			if !slices.Equal(all, kept) {
				t.Fatalf("%v and %v: changed to %v", a, b, all)
			}
		}
	}
}

// P12.5: a nil counter.
func TestNil(t *testing.T) {
	var x *refs.Refs
	refuses(t, "nil", x, append(outside(1), 0, 1), api.ErrNone)
	holds(t, "nil", x, nil)
}

// P12.5: a counter that New did not return has no items; one that is assigned
// from New's has none either, and leaves New's as it is.
func TestNotNew(t *testing.T) {
	x := made(t, 3)
	add(t, x, 0, 2, 2)
	same, empty := *x, made(t, 0)
	over := made(t, 3)
	*over = *x
	for what, y := range map[string]*refs.Refs{
		"new":      new(refs.Refs),
		"literal":  {},
		"assigned": &same,
		"over":     over,
		"no items": empty,
	} {
		for range 2 {
			refuses(t, what, y, append(outside(0), 1, 2, 3), api.ErrEnd)
			holds(t, what, y, nil)
		}
	}
	holds(t, "New's", x, []int{1, 0, 2})
	add(t, x, 1)
	holds(t, "New's", x, []int{1, 1, 2})
	holds(t, "assigned", &same, nil)
	*x = refs.Refs{}
	refuses(t, "emptied", x, append(outside(0), 1, 2, 3), api.ErrEnd)
	holds(t, "emptied", x, nil)
}
