package span_test

import (
	"math"
	"math/rand/v2"
	"slices"
	"testing"

	"scantling/api"
	"scantling/span"
)

// end is the number behind the greatest key, 2^48.
const end = 281474976710656

// source returns a random source that is the same in each run.
func source() *rand.Rand {
	return rand.New(rand.NewPCG(13, end))
}

// edges returns integers at the bounds of keys and of integers, and such that
// the lowest 16, 32 or 48 bits of some of them are a key.
func edges() []int {
	return []int{
		math.MinInt, math.MinInt + 1, -end - 1, -end, 1 - end, -1 << 32, -2, -1,
		0, 1, 2, 255, 256, 1 << 16, 1 << 31, 1 << 32, end/2 - 1, end / 2,
		end - 2, end - 1, end, end + 1, end + 2, 2*end - 1, 2 * end, 1 << 62, math.MaxInt - 1, math.MaxInt,
	}
}

// among reports whether n is one of the integers from lo to hi-1.
func among(lo, n, hi int) bool {
	if n < lo {
		return false
	}
	return hi > n
}

// allowed reports whether a span is valid, bound by bound.
func allowed(s api.Span) bool {
	switch {
	case s.Lo < 0, s.Hi < 0, s.Lo > end, s.Hi > end:
		return false
	}
	return s.Hi >= s.Lo
}

// wanted returns what is wrong with a span and keys, in any pair of the keys.
func wanted(s api.Span, keys []int) api.Errno {
	if !allowed(s) {
		return api.ErrArg
	}
	for j := range keys {
		for i := range j {
			if keys[j] <= keys[i] {
				return api.ErrOrder
			}
		}
	}
	if slices.ContainsFunc(keys, func(key int) bool { return !among(s.Lo, key, s.Hi) }) {
		return api.ErrKey
	}
	return api.OK
}

// parts returns the spans of keys that fit, from the last one to the first.
func parts(s api.Span, keys []int) []api.Span {
	l := make([]api.Span, len(keys))
	hi := s.Hi
	for i := len(keys) - 1; i >= 0; i-- {
		l[i] = api.Span{Lo: keys[i], Hi: hi}
		hi = keys[i]
	}
	return l
}

// holds checks what Fits, Child and Split return for a span and keys.
func holds(t *testing.T, s api.Span, keys []int, want api.Errno) {
	t.Helper()
	kept := slices.Clone(keys)
	if e := span.Fits(s, keys); e != want {
		t.Fatalf("Fits(%v, %v): %v, not %v", s, keys, e, want)
	}
	var l []api.Span
	if want == api.OK {
		l = parts(s, keys)
	}
	if got := span.Split(s, keys); !slices.Equal(got, l) {
		t.Fatalf("Split(%v, %v): %v, not %v", s, keys, got, l)
	}
	for i := range l {
		if c, e := span.Child(s, keys, i); c != l[i] || e != api.OK {
			t.Fatalf("Child(%v, %v, %d): %v, %v, not %v", s, keys, i, c, e, l[i])
		}
	}
	refuses(t, s, keys, want)
	if !slices.Equal(keys, kept) {
		t.Fatalf("%v, %v: changed to %v", s, kept, keys)
	}
}

// refuses checks that Child returns an error, and no span, for what is not an
// index, and for all indices of keys that do not fit.
func refuses(t *testing.T, s api.Span, keys []int, fits api.Errno) {
	t.Helper()
	n := len(keys)
	want, indices := api.ErrEnd, []int{-1, -2, -n, -n - 1, -256, -1 << 32, n, n + 1, n + 256, 1 << 32, 1<<32 + n - 1, math.MaxInt, math.MinInt, math.MinInt + 1}
	if fits != api.OK {
		want, indices = fits, append(indices, 0, 1, n-1, n/2)
	}
	for _, i := range indices {
		if c, e := span.Child(s, keys, i); c != (api.Span{}) || e != want {
			t.Fatalf("Child(%v, %v, %d): %v, %v, not %v", s, keys, i, c, e, want)
		}
	}
}

// partition checks that the spans that Split returns for keys that fit are
// adjacent, from the first key to the end, and have their own key each and no
// other.
func partition(t *testing.T, s api.Span, keys []int) {
	t.Helper()
	l := span.Split(s, keys)
	if len(l) != len(keys) {
		t.Fatalf("Split(%v, %v): %d spans", s, keys, len(l))
	}
	for i, c := range l {
		lo, hi := keys[i], s.Hi
		if i > 0 {
			lo = l[i-1].Hi
		}
		if i < len(l)-1 {
			hi = l[i+1].Lo
		}
		if c.Lo != keys[i] || c.Lo != lo || c.Hi != hi || !span.Right(c) {
			t.Fatalf("Split(%v, %v): %v at %d is not adjacent", s, keys, c, i)
		}
		for j, key := range keys {
			if span.Has(c, key) != (i == j) {
				t.Fatalf("Split(%v, %v): %v at %d and key %d", s, keys, c, i, key)
			}
		}
	}
}

// The chapter's example.
func TestExample(t *testing.T) {
	s, keys := api.Span{Lo: 0, Hi: 10}, []int{2, 5}
	want := []api.Span{{Lo: 2, Hi: 5}, {Lo: 5, Hi: 10}}
	if l := span.Split(s, keys); !slices.Equal(l, want) {
		t.Errorf("%v, not %v", l, want)
	}
	for i := range want {
		if c, e := span.Child(s, keys, i); c != want[i] || e != api.OK {
			t.Errorf("child %d: %v, %v, not %v", i, c, e, want[i])
		}
	}
}

// P13.1: the span of all keys.
func TestAll(t *testing.T) {
	s := span.All()
	if s.Lo != 0 || s.Hi != end {
		t.Fatalf("%v", s)
	}
	if !span.Right(s) {
		t.Error("not valid")
	}
	for _, key := range edges() {
		if has := span.Has(s, key); has != (key >= 0 && key <= end-1) {
			t.Errorf("key %d: %v", key, has)
		}
	}
}

// P13.1: spans by hand, valid ones and others.
func TestRight(t *testing.T) {
	for s, want := range map[api.Span]bool{
		{}:                                   true,
		{Lo: 0, Hi: 1}:                       true,
		{Lo: 5, Hi: 5}:                       true,
		{Lo: 5, Hi: 6}:                       true,
		{Lo: 6, Hi: 5}:                       false,
		{Lo: -1, Hi: 5}:                      false,
		{Lo: -1, Hi: -1}:                     false,
		{Lo: 0, Hi: -1}:                      false,
		{Lo: 0, Hi: end - 1}:                 true,
		{Lo: 0, Hi: end}:                     true,
		{Lo: 0, Hi: end + 1}:                 false,
		{Lo: end - 1, Hi: end}:               true,
		{Lo: end, Hi: end}:                   true,
		{Lo: end, Hi: end - 1}:               false,
		{Lo: end, Hi: end + 1}:               false,
		{Lo: end + 1, Hi: end + 1}:           false,
		{Lo: 0, Hi: math.MaxInt}:             false,
		{Lo: math.MinInt, Hi: end}:           false,
		{Lo: math.MinInt, Hi: math.MinInt}:   false,
		{Lo: math.MaxInt, Hi: math.MaxInt}:   false,
		{Lo: math.MaxInt, Hi: math.MinInt}:   false,
		{Lo: math.MinInt, Hi: math.MaxInt}:   false,
		{Lo: 1 << 32, Hi: 1}:                 false,
		{Lo: 1, Hi: 1 << 32}:                 true,
		{Lo: math.MaxInt, Hi: 0}:             false,
		{Lo: math.MinInt + 1, Hi: 1 - end*2}: false,
	} {
		if got := span.Right(s); got != want {
			t.Errorf("%v: %v", s, got)
		}
	}
}

// P13.1: all pairs of edges.
func TestRightEdges(t *testing.T) {
	for _, lo := range edges() {
		for _, hi := range edges() {
			s := api.Span{Lo: lo, Hi: hi}
			if got := span.Right(s); got != allowed(s) {
				t.Fatalf("%v: %v", s, got)
			}
		}
	}
}

// P13.1: keys by hand, in valid spans and in others.
func TestHas(t *testing.T) {
	for _, x := range []struct {
		s    api.Span
		key  int
		want bool
	}{
		{api.Span{}, 0, false},
		{api.Span{Lo: 2, Hi: 5}, 1, false},
		{api.Span{Lo: 2, Hi: 5}, 2, true},
		{api.Span{Lo: 2, Hi: 5}, 3, true},
		{api.Span{Lo: 2, Hi: 5}, 4, true},
		{api.Span{Lo: 2, Hi: 5}, 5, false},
		{api.Span{Lo: 2, Hi: 5}, 6, false},
		{api.Span{Lo: 2, Hi: 5}, -3, false},
		{api.Span{Lo: 2, Hi: 5}, 1<<32 + 3, false},
		{api.Span{Lo: 3, Hi: 3}, 3, false},
		{api.Span{Lo: 5, Hi: 2}, 3, false},
		{api.Span{Lo: end - 1, Hi: end}, end - 1, true},
		{api.Span{Lo: end - 1, Hi: end}, end, false},
		{api.Span{Lo: end, Hi: end}, end, false},
		{api.Span{Lo: -3, Hi: 3}, -3, true},
		{api.Span{Lo: -3, Hi: 3}, -4, false},
		{api.Span{Lo: end, Hi: end + 2}, end + 1, true},
		{api.Span{Lo: math.MinInt, Hi: math.MaxInt}, math.MinInt, true},
		{api.Span{Lo: math.MinInt, Hi: math.MaxInt}, math.MaxInt - 1, true},
		{api.Span{Lo: math.MinInt, Hi: math.MaxInt}, math.MaxInt, false},
	} {
		if got := span.Has(x.s, x.key); got != x.want {
			t.Errorf("%v, key %d: %v", x.s, x.key, got)
		}
	}
}

// P13.1: all keys and spans at edges.
func TestHasEdges(t *testing.T) {
	for _, lo := range edges() {
		for _, hi := range edges() {
			for _, key := range edges() {
				if got := span.Has(api.Span{Lo: lo, Hi: hi}, key); got != among(lo, key, hi) {
					t.Fatalf("%d to %d, key %d: %v", lo, hi, key, got)
				}
			}
		}
	}
}

// P13.2: what comes first if several things are wrong.
func TestFitsFirst(t *testing.T) {
	some, wrong := api.Span{Lo: 10, Hi: 20}, api.Span{Lo: 20, Hi: 10}
	for _, x := range []struct {
		s    api.Span
		keys []int
		want api.Errno
	}{
		{some, nil, api.OK},
		{some, []int{10}, api.OK},
		{some, []int{19}, api.OK},
		{some, []int{10, 11, 19}, api.OK},
		{some, []int{9}, api.ErrKey},
		{some, []int{20}, api.ErrKey},
		{some, []int{9, 12}, api.ErrKey},
		{some, []int{12, 20}, api.ErrKey},
		{some, []int{9, 12, 20}, api.ErrKey},
		{some, []int{-1, 10}, api.ErrKey},
		{some, []int{12, 12}, api.ErrOrder},
		{some, []int{13, 12}, api.ErrOrder},
		{some, []int{11, 13, 13, 15}, api.ErrOrder},
		{some, []int{11, 12, 13, 10}, api.ErrOrder},
		{some, []int{9, 9}, api.ErrOrder},
		{some, []int{20, 12}, api.ErrOrder},
		{some, []int{9, 12, 11}, api.ErrOrder},
		{some, []int{12, 11, 20}, api.ErrOrder},
		{some, []int{12, 20, 19}, api.ErrOrder},
		{wrong, nil, api.ErrArg},
		{wrong, []int{15}, api.ErrArg},
		{wrong, []int{16, 15}, api.ErrArg},
		{api.Span{Lo: -1, Hi: 20}, []int{5, 9}, api.ErrArg},
		{api.Span{Lo: 0, Hi: end + 1}, []int{5, 9}, api.ErrArg},
		{api.Span{Lo: 0, Hi: end + 1}, []int{9, 5}, api.ErrArg},
		{api.Span{Lo: -1, Hi: -1}, nil, api.ErrArg},
		{api.Span{Lo: 12, Hi: 12}, nil, api.OK},
		{api.Span{Lo: 12, Hi: 12}, []int{12}, api.ErrKey},
		{api.Span{}, []int{0}, api.ErrKey},
		{api.Span{}, nil, api.OK},
		{api.Span{Lo: end, Hi: end}, nil, api.OK},
		{api.Span{Lo: end, Hi: end}, []int{end}, api.ErrKey},
		{span.All(), []int{0, end - 1}, api.OK},
		{span.All(), []int{0, end}, api.ErrKey},
		{span.All(), []int{-1, 0}, api.ErrKey},
		{span.All(), []int{math.MinInt, math.MaxInt}, api.ErrKey},
		{span.All(), []int{math.MaxInt, math.MinInt}, api.ErrOrder},
		{span.All(), []int{1 << 32, 1}, api.ErrOrder},
	} {
		if got := wanted(x.s, x.keys); got != x.want {
			t.Errorf("%v, %v: %v by pairs, not %v", x.s, x.keys, got, x.want)
		}
		holds(t, x.s, x.keys, x.want)
	}
}

// lists returns all lists of up to that many of the values.
func lists(most int, values ...int) [][]int {
	all := [][]int{nil}
	if most == 0 {
		return all
	}
	for _, l := range lists(most-1, values...) {
		for _, n := range values {
			all = append(all, append(slices.Clone(l), n))
		}
	}
	return all
}

// each calls check with all short lists of small keys in all small spans, and
// with those of the greatest keys in spans that end there.
func each(check func(s api.Span, keys []int)) {
	for _, first := range []int{-1, end - 4} {
		var values []int
		for n := range 6 {
			values = append(values, first+n)
		}
		all := lists(4, values...)
		for _, lo := range values {
			for _, hi := range values {
				for _, keys := range all {
					check(api.Span{Lo: lo, Hi: hi}, keys)
				}
			}
		}
	}
}

// P13.2, P13.3: all short lists of keys.
func TestShort(t *testing.T) {
	each(func(s api.Span, keys []int) { holds(t, s, keys, wanted(s, keys)) })
}

// P13.2, P13.3: keys at edges, in spans between them.
func TestEdges(t *testing.T) {
	all := lists(2, edges()...)
	for _, lo := range edges() {
		for _, hi := range edges() {
			s := api.Span{Lo: lo, Hi: hi}
			for _, keys := range all {
				if want := wanted(s, keys); want != api.ErrArg || len(keys) < 2 {
					holds(t, s, keys, want)
				}
			}
		}
	}
}

// P13.3: children by hand.
func TestChild(t *testing.T) {
	s, keys := api.Span{Lo: 3, Hi: 1 << 40}, []int{3, 4, 1 << 20, 1<<40 - 1}
	want := []api.Span{{Lo: 3, Hi: 4}, {Lo: 4, Hi: 1 << 20}, {Lo: 1 << 20, Hi: 1<<40 - 1}, {Lo: 1<<40 - 1, Hi: 1 << 40}}
	if l := span.Split(s, keys); !slices.Equal(l, want) {
		t.Errorf("%v, not %v", l, want)
	}
	for i := -4; i < 9; i++ {
		c, e := span.Child(s, keys, i)
		switch {
		case i < 0 || i > 3:
			if c != (api.Span{}) || e != api.ErrEnd {
				t.Errorf("child %d: %v, %v", i, c, e)
			}
		case c != want[i] || e != api.OK:
			t.Errorf("child %d: %v, %v, not %v", i, c, e, want[i])
		}
	}
}

// P13.3: without keys there is no child, in any span.
func TestChildNoKeys(t *testing.T) {
	for _, keys := range [][]int{nil, {}} {
		for _, s := range []api.Span{{}, {Lo: 4, Hi: 4}, {Lo: 4, Hi: 9}, {Lo: end, Hi: end}, span.All()} {
			if c, e := span.Child(s, keys, 0); c != (api.Span{}) || e != api.ErrEnd {
				t.Errorf("%v: %v, %v", s, c, e)
			}
			holds(t, s, keys, api.OK)
		}
	}
}

// P13.3: what is wrong with the span and the keys counts before the index.
func TestChildFirst(t *testing.T) {
	for want, x := range map[api.Errno]struct {
		s    api.Span
		keys []int
	}{
		api.ErrArg:   {api.Span{Lo: 9, Hi: 8}, []int{5, 4}},
		api.ErrOrder: {api.Span{Lo: 3, Hi: 5}, []int{5, 4}},
		api.ErrKey:   {api.Span{Lo: 3, Hi: 5}, []int{4, 5}},
		api.ErrEnd:   {api.Span{Lo: 3, Hi: 6}, []int{4, 5}},
	} {
		for _, i := range []int{-1, 2, 3, 1 << 32, math.MaxInt, math.MinInt} {
			if c, e := span.Child(x.s, x.keys, i); c != (api.Span{}) || e != want {
				t.Errorf("Child(%v, %v, %d): %v, %v, not %v", x.s, x.keys, i, c, e, want)
			}
		}
	}
}

// P13.4: all short lists of keys that fit.
func TestPartition(t *testing.T) {
	fit := 0
	each(func(s api.Span, keys []int) {
		if wanted(s, keys) == api.OK {
			partition(t, s, keys)
			fit++
		}
	})
	if fit < 100 {
		t.Errorf("%d lists fit", fit)
	}
}

// ascending returns that many keys that rise, from lo on, by up to step each.
func ascending(r *rand.Rand, size, lo, step int) []int {
	keys := make([]int, size)
	for i := range keys {
		keys[i] = lo
		lo += 1 + r.IntN(step)
	}
	return keys
}

// P13.2 to P13.4: as many keys as a node has, and more, in spans that are as
// narrow as they may be, and in wider ones.
func TestMany(t *testing.T) {
	r := source()
	for _, size := range []int{1, 2, 13, 18, 100, 300} {
		for _, step := range []int{1, 2, 1 << 20, 1 << 38} {
			lo := r.IntN(1 << 40)
			keys := ascending(r, size, lo, step)
			hi := keys[size-1] + 1
			for _, s := range []api.Span{{Lo: lo, Hi: hi}, {Lo: lo, Hi: hi + 1}, {Lo: lo - 1, Hi: end}, span.All()} {
				holds(t, s, keys, api.OK)
				partition(t, s, keys)
			}
			holds(t, api.Span{Lo: lo + 1, Hi: hi}, keys, wanted(api.Span{Lo: lo + 1, Hi: hi}, keys))
			holds(t, api.Span{Lo: lo + 1, Hi: end}, keys, api.ErrKey)
			holds(t, api.Span{Lo: 0, Hi: hi - 1}, keys, wanted(api.Span{Lo: 0, Hi: hi - 1}, keys))
		}
	}
}

// P13.2: one key that stands wrong among many, wherever it stands.
func TestManyWrong(t *testing.T) {
	r := source()
	keys, s := ascending(r, 60, 1000, 9), api.Span{Lo: 1000, Hi: 2000}
	holds(t, s, keys, api.OK)
	for i := range keys {
		wrong := slices.Clone(keys)
		if i > 0 {
			wrong[i] = wrong[i-1]
			holds(t, s, wrong, api.ErrOrder)
			wrong[i] = 0
			holds(t, s, wrong, api.ErrOrder)
		}
		if i < len(wrong)-1 {
			wrong[i] = wrong[i+1]
			holds(t, s, wrong, api.ErrOrder)
			wrong[i] = 5000
			holds(t, s, wrong, api.ErrOrder)
		}
		holds(t, api.Span{Lo: keys[i] + 1, Hi: 2000}, keys, api.ErrKey)
		holds(t, api.Span{Lo: 1000, Hi: keys[i]}, keys, api.ErrKey)
	}
}

// P13.3: many more keys than a node has are split in one pass.
func TestLong(t *testing.T) {
	keys := ascending(source(), 1<<20, 0, 1<<27)
	want := parts(span.All(), keys)
	if l := span.Split(span.All(), keys); !slices.Equal(l, want) {
		t.Errorf("%d spans", len(l))
	}
	for _, i := range []int{0, 1, 65535, 65536, 1<<20 - 1} {
		if c, e := span.Child(span.All(), keys, i); c != want[i] || e != api.OK {
			t.Errorf("child %d: %v, %v", i, c, e)
		}
	}
	refuses(t, span.All(), keys, api.OK)
}

// P13.2, P13.3: the keys are neither changed nor looked at behind their end, and
// what Split returns is the caller's own.
func TestOwn(t *testing.T) {
	all := []int{1, 3, 4, 7, 8, 20, 21, 22}
	kept := slices.Clone(all)
	for from := range all {
		for to := from; to <= len(all); to++ {
			s, keys := api.Span{Lo: all[from], Hi: 30}, all[from:to]
			l, other := span.Split(s, keys), span.Split(s, keys)
			for i := range l[:cap(l)] {
				l[:cap(l)][i] = api.Span{Lo: -7, Hi: -7}
			}
			if !slices.Equal(other, parts(s, keys)) {
				t.Fatalf("%v, %v: %v", s, keys, other)
			}
			holds(t, s, keys, api.OK)
			if !slices.Equal(all, kept) {
				t.Fatalf("%v, %v: changed to %v", s, keys, all)
			}
		}
	}
}
