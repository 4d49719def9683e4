package runs_test

import (
	"math"
	"math/big"
	"math/rand/v2"
	"slices"
	"testing"

	"scantling/api"
	"scantling/pool"
	"scantling/runs"
)

const (
	maxKey  = 281474976710655
	maxData = 65536
	maxTime = 16777215
	maxMaps = 16384
)

// source returns a random source that is the same in each run.
func source(n uint64) *rand.Rand {
	return rand.New(rand.NewPCG(19, n))
}

// maps returns mappings of virtual blocks, data blocks and times.
func maps(numbers ...int) []api.Map {
	var l []api.Map
	for ; len(numbers) > 0; numbers = numbers[3:] {
		l = append(l, api.Map{V: numbers[0], B: numbers[1], T: numbers[2]})
	}
	return l
}

// list returns runs of virtual blocks, data blocks, lengths and times.
func list(numbers ...int) []api.Run {
	var l []api.Run
	for ; len(numbers) > 0; numbers = numbers[4:] {
		l = append(l, api.Run{V: numbers[0], B: numbers[1], N: numbers[2], T: numbers[3]})
	}
	return l
}

// row returns n mappings, each of which continues the one before it.
func row(v, b, n, time int) []api.Map {
	l := make([]api.Map, n)
	for i := range l {
		l[i] = api.Map{V: v + i, B: b + i, T: time}
	}
	return l
}

// spread returns the mappings of all runs.
func spread(l []api.Run) []api.Map {
	var all []api.Map
	for _, r := range l {
		all = append(all, row(r.V, r.B, r.N, r.T)...)
	}
	return all
}

// follows reports whether the mapping or run that begins with m continues what
// ends with the mapping before it.
func follows(before, m api.Map) bool {
	return m.V-before.V == 1 && m.B-before.B == 1 && m.T == before.T
}

// spare returns an equal list, whose spare capacity holds more elements.
func spare[T any](l []T, more ...T) []T {
	return append(append(make([]T, 0, len(l)+len(more)), l...), more...)[:len(l)]
}

// keep returns a function that fails if a list, or the memory behind it, is no
// longer what it is now.
func keep[T comparable](t *testing.T, l []T) func() {
	t.Helper()
	before := slices.Clone(l[:cap(l)])
	return func() {
		t.Helper()
		if !slices.Equal(l[:cap(l)], before) {
			t.Fatalf("changed from %v to %v", before, l[:cap(l)])
		}
	}
}

// wipe overwrites all that a list reaches.
func wipe[T any](l []T) {
	clear(l[:cap(l)])
}

// joined checks that no run could be joined with the one before it, and that the
// runs have exactly these mappings: only one list of runs is like that.
func joined(t *testing.T, l []api.Run, all []api.Map) {
	t.Helper()
	at := 0
	for i, r := range l {
		if r.N < 1 || r.N > len(all)-at || !slices.Equal(row(r.V, r.B, r.N, r.T), all[at:at+r.N]) {
			t.Fatalf("%v: run %d is not the next part of %v", l, i, all)
		}
		if i > 0 && follows(all[at-1], all[at]) {
			t.Fatalf("%v: run %d could be joined with the previous one", l, i)
		}
		at += r.N
	}
	if at != len(all) {
		t.Fatalf("%v: %d mappings, not %d", l, at, len(all))
	}
}

// forms checks the runs of mappings, first as they are and then with spare
// capacity that would continue them.
func forms(t *testing.T, what string, all []api.Map, want []api.Run) {
	t.Helper()
	for _, l := range [][]api.Map{all, spare(all, row(1, 1, 3, 1)...)} {
		same := keep(t, l)
		got := runs.Of(l)
		if !slices.Equal(got, want) {
			t.Fatalf("%s: %v, not %v", what, got, want)
		}
		joined(t, got, l)
		wipe(got)
		same()
	}
	if got := runs.Of(all); !slices.Equal(got, want) {
		t.Fatalf("%s: a second call: %v, not %v", what, got, want)
	}
}

// The chapter's example.
func TestExample(t *testing.T) {
	forms(t, "example", maps(5, 9, 1, 6, 10, 1, 8, 12, 1), list(5, 9, 2, 1, 8, 12, 1, 1))
}

// P19.1: lists without mappings, with one, and with one run.
func TestOfOne(t *testing.T) {
	forms(t, "nil", nil, nil)
	forms(t, "empty", []api.Map{}, nil)
	forms(t, "zero", maps(0, 0, 0), list(0, 0, 1, 0))
	forms(t, "one", maps(7, 3, 5), list(7, 3, 1, 5))
	forms(t, "two", maps(7, 3, 5, 8, 4, 5), list(7, 3, 2, 5))
	for _, n := range []int{3, 255, 256, 257, maxMaps - 1, maxMaps, maxMaps + 1, maxData, maxData + 1, 1 << 18} {
		forms(t, "long", row(7, 3, n, 5), list(7, 3, n, 5))
		forms(t, "from 0 on", row(0, 0, n, 0), list(0, 0, n, 0))
	}
}

// P19.1: a mapping that differs in anything from the one that would continue the
// previous one begins a run, which the next mapping may continue.
func TestOfParts(t *testing.T) {
	for _, x := range []struct {
		what    string
		v, b, t int
	}{
		{"a later virtual block", 10, 4, 5}, {"the same virtual block", 8, 4, 5}, {"an earlier virtual block", 7, 4, 5},
		{"the first virtual block", 0, 4, 5}, {"the last virtual block", maxKey - 2, 4, 5},
		{"a later data block", 9, 5, 5}, {"the same data block", 9, 3, 5}, {"an earlier data block", 9, 2, 5},
		{"the first data block", 9, 0, 5}, {"another data block", 9, 70000, 5},
		{"a later time", 9, 4, 6}, {"an earlier time", 9, 4, 4}, {"no time", 9, 4, 0}, {"the opposite time", 9, 4, -5},
		{"both blocks later", 10, 5, 5}, {"both blocks the same", 8, 3, 5}, {"the same mapping as before", 7, 2, 5},
	} {
		m := api.Map{V: x.v, B: x.b, T: x.t}
		forms(t, x.what, append(row(8, 3, 1, 5), m), list(8, 3, 1, 5, x.v, x.b, 1, x.t))
		forms(t, x.what, append(row(6, 1, 3, 5), m), list(6, 1, 3, 5, x.v, x.b, 1, x.t))
		forms(t, x.what, append(row(6, 1, 3, 5), row(x.v, x.b, 3, x.t)...), list(6, 1, 3, 5, x.v, x.b, 3, x.t))
	}
}

// P19.1: only the previous mapping counts, not an earlier one, nor the first one
// of a run, and mappings may be in any order.
func TestOfPrevious(t *testing.T) {
	forms(t, "continues an earlier run", maps(1, 1, 0, 2, 2, 0, 9, 9, 0, 3, 3, 0, 10, 10, 0), list(1, 1, 2, 0, 9, 9, 1, 0, 3, 3, 1, 0, 10, 10, 1, 0))
	forms(t, "continues the first one of a run", maps(1, 1, 0, 2, 2, 0, 3, 3, 0, 2, 2, 0, 3, 3, 0), list(1, 1, 3, 0, 2, 2, 2, 0))
	forms(t, "twice the same", maps(4, 4, 0, 5, 5, 0, 5, 5, 0), list(4, 4, 2, 0, 5, 5, 1, 0))
	forms(t, "precedes the run", maps(4, 4, 0, 5, 5, 0, 3, 3, 0), list(4, 4, 2, 0, 3, 3, 1, 0))
	forms(t, "downwards", maps(4, 4, 0, 3, 3, 0, 2, 2, 0), list(4, 4, 1, 0, 3, 3, 1, 0, 2, 2, 1, 0))
	forms(t, "data blocks downwards", maps(2, 4, 0, 3, 3, 0, 4, 2, 0), list(2, 4, 1, 0, 3, 3, 1, 0, 4, 2, 1, 0))
	forms(t, "virtual blocks downwards", maps(4, 2, 0, 3, 3, 0, 2, 4, 0), list(4, 2, 1, 0, 3, 3, 1, 0, 2, 4, 1, 0))
	forms(t, "times in turn", maps(1, 1, 0, 2, 2, 1, 3, 3, 0, 4, 4, 1), list(1, 1, 1, 0, 2, 2, 1, 1, 3, 3, 1, 0, 4, 4, 1, 1))
	forms(t, "lengths", slices.Concat(row(1, 1, 3, 0), row(9, 2, 1, 0), row(20, 8, 2, 0), row(40, 1, 4, 0)), list(1, 1, 3, 0, 9, 2, 1, 0, 20, 8, 2, 0, 40, 1, 4, 0))
}

// P19.1: V and B may be anything from 0 to MaxKey, and T any integer at all.
func TestOfEdges(t *testing.T) {
	forms(t, "last virtual block", maps(maxKey-1, 5, 2, maxKey, 6, 2), list(maxKey-1, 5, 2, 2))
	forms(t, "last data block", maps(5, maxKey-1, 2, 6, maxKey, 2), list(5, maxKey-1, 2, 2))
	forms(t, "both last", row(maxKey-9, maxKey-9, 10, 2), list(maxKey-9, maxKey-9, 10, 2))
	forms(t, "both twice", maps(maxKey, maxKey, 2, maxKey, maxKey, 2), list(maxKey, maxKey, 1, 2, maxKey, maxKey, 1, 2))
	forms(t, "from the last to the first", maps(maxKey, maxKey, 2, 0, 0, 2), list(maxKey, maxKey, 1, 2, 0, 0, 1, 2))
	for _, n := range []int{1 << 8, 1 << 16, maxData, 1 << 24, 1 << 31, 1 << 32, 1 << 47} {
		forms(t, "across V", maps(n-1, 5, 2, n, 6, 2), list(n-1, 5, 2, 2))
		forms(t, "across B", maps(5, n-1, 2, 6, n, 2), list(5, n-1, 2, 2))
		forms(t, "V around", maps(n-1, 5, 2, 0, 6, 2), list(n-1, 5, 1, 2, 0, 6, 1, 2))
		forms(t, "B around", maps(5, n-1, 2, 6, 0, 2), list(5, n-1, 1, 2, 6, 0, 1, 2))
	}
	for _, n := range []int{math.MinInt, -maxTime, -1, 0, 1, maxTime, maxTime + 1, 1 << 32, math.MaxInt} {
		forms(t, "time", row(3, 8, 4, n), list(3, 8, 4, n))
		forms(t, "wrong time", append(row(3, 8, 4, n), row(7, 12, 2, ^n)...), list(3, 8, 4, n, 7, 12, 2, ^n))
	}
}

// P19.1: each bit counts of the mapping that continues another one.
func TestOfBits(t *testing.T) {
	for bit := range 64 {
		forms(t, "T", maps(4, 8, 6, 5, 9, 6^1<<bit), list(4, 8, 1, 6, 5, 9, 1, 6^1<<bit))
		if bit < 48 {
			forms(t, "V", maps(4, 8, 6, 5^1<<bit, 9, 6), list(4, 8, 1, 6, 5^1<<bit, 9, 1, 6))
			forms(t, "B", maps(4, 8, 6, 5, 9^1<<bit, 6), list(4, 8, 1, 6, 5, 9^1<<bit, 1, 6))
		}
	}
}

// somewhere returns mappings that continue one another now and then, in any
// order.
func somewhere(r *rand.Rand, n int) []api.Map {
	var l []api.Map
	m := api.Map{V: r.IntN(9), B: r.IntN(9)}
	for range n {
		m = api.Map{V: m.V + 1, B: m.B + 1, T: m.T}
		switch r.IntN(12) {
		case 0:
			m.V = r.IntN(9)
		case 1:
			m.B = r.IntN(9)
		case 2:
			m.T = r.IntN(3) - 1
		case 3:
			m = api.Map{V: r.IntN(9), B: r.IntN(9), T: r.IntN(3) - 1}
		}
		l = append(l, m)
	}
	return l
}

// P19.1: random mappings.
func TestOfRandom(t *testing.T) {
	r := source(1)
	long, short := 0, 0
	for range 20000 {
		l := somewhere(r, r.IntN(20))
		same := keep(t, l)
		got := runs.Of(l)
		same()
		joined(t, got, l)
		for _, x := range got {
			if x.N > 1 {
				long++
			} else {
				short++
			}
		}
	}
	if long < 10000 || short < 10000 {
		t.Errorf("%d long and %d short runs", long, short)
	}
}

// P19.1 promises nothing of other numbers, but that the call ends.
func TestOfBeyond(t *testing.T) {
	l := []int{math.MinInt, math.MinInt + 1, -2, -1, 0, maxKey, maxKey + 1, math.MaxInt - 1, math.MaxInt}
	for _, v := range l {
		for _, b := range l {
			same := maps(v, b, 1, v+1, b+1, 1, v+2, b+2, 1, b, v, 1)
			unchanged := keep(t, same)
			runs.Of(same)
			unchanged()
		}
	}
}

// rejects checks that runs have an error, and neither mappings nor merged runs.
func rejects(t *testing.T, what string, l []api.Run, want api.Errno) {
	t.Helper()
	for _, l := range [][]api.Run{l, spare(l, list(1, 1, 1, 1, -1, -1, -1, -1)...)} {
		same := keep(t, l)
		if e := runs.Check(l); e != want {
			t.Fatalf("%s: %v: Check: %v, not %v", what, l, e, want)
		}
		if got, e := runs.Maps(l); e != want || len(got) != 0 {
			t.Fatalf("%s: %v: Maps: %d mappings, %v, not %v", what, l, len(got), e, want)
		}
		if got := runs.Merge(l); len(got) != 0 {
			t.Fatalf("%s: %v: Merge: %v", what, l, got)
		}
		same()
	}
}

// accepts checks that runs have no error, and that Maps and Merge return what
// they are to.
func accepts(t *testing.T, what string, l []api.Run) {
	t.Helper()
	for _, l := range [][]api.Run{l, spare(l, list(1, 1, 1, 1, -1, -1, -1, -1)...)} {
		same := keep(t, l)
		if e := runs.Check(l); e != api.OK {
			t.Fatalf("%s: %v: Check: %v", what, l, e)
		}
		all, e := runs.Maps(l)
		if e != api.OK || !slices.Equal(all, spread(l)) {
			t.Fatalf("%s: %v: Maps: %v, %v", what, l, all, e)
		}
		merged := runs.Merge(l)
		joined(t, merged, all)
		if of := runs.Of(all); !slices.Equal(of, merged) {
			t.Fatalf("%s: %v: Of: %v, not %v", what, l, of, merged)
		}
		wipe(all)
		wipe(merged)
		same()
	}
	if again := runs.Merge(l); !slices.Equal(spread(again), spread(l)) {
		t.Fatalf("%s: %v: a second call: %v", what, l, again)
	}
}

// P19.2: runs without an error.
func TestCheck(t *testing.T) {
	accepts(t, "nil", nil)
	accepts(t, "empty", []api.Run{})
	accepts(t, "smallest", list(0, 0, 1, 0))
	accepts(t, "one", list(7, 3, 5, 2))
	accepts(t, "several", list(7, 3, 5, 2, 12, 0, 1, 9, 40, 3, 5, 0))
	accepts(t, "the same data blocks", list(0, 7, 3, 2, 3, 7, 3, 2, 6, 7, 3, 2, 9, 8, 3, 2))
	accepts(t, "data blocks and times downwards", list(0, 900, 3, 20, 3, 90, 3, 2, 6, 0, 3, 0))
	accepts(t, "longest", list(0, 0, maxMaps, maxTime))
	accepts(t, "last", list(maxKey, maxData-1, 1, maxTime))
	accepts(t, "longest and last", list(maxKey+1-maxMaps, maxData-maxMaps, maxMaps, maxTime))
	accepts(t, "first and last", list(0, 0, 1, 0, maxKey, maxData-1, 1, maxTime))
}

// P19.2: each number of a run, alone and as the first, the middle or the last one
// of several; a length alone may be too great for V, B or all mappings.
func TestCheckRange(t *testing.T) {
	low := []int{-1, -2, -256, -maxKey, -1 << 32, -1 << 48, -1 << 63, math.MinInt + 1}
	for _, x := range []struct {
		what    string
		at      func(r *api.Run) *int
		in, out []int
	}{
		{"V", func(r *api.Run) *int { return &r.V }, []int{0, 1, maxKey - 8, maxKey - 7},
			[]int{maxKey - 6, maxKey - 5, maxKey, maxKey + 1, 1<<48 + 5, 1 << 50, 1<<56 + 5, math.MaxInt - 7, math.MaxInt - 6, math.MaxInt}},
		{"B", func(r *api.Run) *int { return &r.B }, []int{0, 1, maxData - 9, maxData - 8},
			[]int{maxData - 7, maxData - 6, maxData - 1, maxData, maxData + 1, 1 << 17, 1<<32 + 5, 1<<48 + 5, math.MaxInt - 8, math.MaxInt - 7, math.MaxInt}},
		{"N", func(r *api.Run) *int { return &r.N }, []int{1, 2, maxMaps - 1, maxMaps},
			[]int{0, maxMaps + 1, maxMaps + 2, maxData, 1 << 17, 1<<32 + 5, 1<<48 + 5, math.MaxInt - 6, math.MaxInt - 5, math.MaxInt - 4, math.MaxInt}},
		{"T", func(r *api.Run) *int { return &r.T }, []int{0, 1, maxTime - 1, maxTime},
			[]int{maxTime + 1, maxTime + 2, 1 << 25, 1<<32 + 5, 1<<48 + 5, math.MaxInt}},
	} {
		for _, n := range x.in {
			r := api.Run{V: 5, B: 6, N: 8, T: 7}
			*x.at(&r) = n
			accepts(t, x.what, []api.Run{r})
		}
		for _, n := range slices.Concat(low, x.out) {
			r := api.Run{V: 5, B: 6, N: 8, T: 7}
			*x.at(&r) = n
			rejects(t, x.what, []api.Run{r}, api.ErrRange)
			for i := range 3 {
				l := list(5, 6, 8, 7, 13, 6, 8, 7, 21, 6, 8, 7)
				*x.at(&l[i]) = n
				rejects(t, x.what, l, api.ErrRange)
			}
		}
	}
}

// P19.2: the last virtual block and the last data block of a run, for each
// length.
func TestCheckLast(t *testing.T) {
	for _, n := range []int{1, 2, 3, 255, 256, 257, 9999, maxMaps - 1, maxMaps} {
		accepts(t, "V", list(maxKey+1-n, 0, n, 0))
		rejects(t, "V", list(maxKey+2-n, 0, n, 0), api.ErrRange)
		accepts(t, "B", list(0, maxData-n, n, 0))
		rejects(t, "B", list(0, maxData-n+1, n, 0), api.ErrRange)
	}
	for _, n := range []int{maxMaps + 1, maxData - 1, maxData, maxData + 1, maxKey, maxKey + 1, math.MaxInt} {
		rejects(t, "N", list(0, 0, n, 0), api.ErrRange)
	}
}

// ones returns n runs of one mapping each, none of which continues another one.
func ones(n int) []api.Run {
	l := make([]api.Run, n)
	for i := range l {
		l[i] = api.Run{V: 2 * i, B: 9, N: 1}
	}
	return l
}

// P19.2: as many mappings as there may be, and more, in runs of any lengths.
func TestCheckTotal(t *testing.T) {
	for n, want := range map[int]api.Errno{maxMaps - 1: api.OK, maxMaps: api.OK, maxMaps + 1: api.ErrRange, maxMaps + 2: api.ErrRange, 1<<16 + 1: api.ErrRange} {
		holds := func(what string, l []api.Run) {
			t.Helper()
			if want == api.OK {
				accepts(t, what, l)
			} else {
				rejects(t, what, l, want)
			}
		}
		holds("ones", ones(n))
		holds("first one long", list(0, 0, n-1, 0, 90000, 0, 1, 0))
		holds("last one long", list(0, 0, 1, 0, 1, 1, n-1, 0))
		holds("halves", list(0, 0, n/2, 0, n/2, 0, n-n/2, 1))
		holds("thirds", list(0, 0, n/3, 0, 1<<40, 0, n/3, 0, 1<<41, 0, n-2*(n/3), 0))
	}
	rejects(t, "full before", list(0, 0, maxMaps, 0, 1<<40, 0, 1, 0), api.ErrRange)
	rejects(t, "twice", list(0, 0, maxMaps, 0, 1<<40, 0, maxMaps, 0), api.ErrRange)
	rejects(t, "great and full", list(0, 0, 1, 0, 1<<40, 0, math.MaxInt, 0), api.ErrRange)
}

// P19.2: a run must begin behind the last virtual block of the previous one.
func TestCheckOverlap(t *testing.T) {
	for _, n := range []int{1, 2, 3, 256, 9999} {
		for _, v := range []int{0, 1, 5, 1 << 32, maxKey - n - 9} {
			accepts(t, "behind", list(v, 3, n, 0, v+n, 0, 2, 0))
			accepts(t, "farther behind", list(v, 3, n, 0, v+n+7, 0, 2, 0))
			rejects(t, "at the last one", list(v, 3, n, 0, v+n-1, 0, 2, 0), api.ErrOverlap)
			rejects(t, "at the first one", list(v, 3, n, 0, v, 0, 2, 0), api.ErrOverlap)
			rejects(t, "before the first one", list(v+9, 3, n, 0, v, 0, 2, 0), api.ErrOverlap)
			rejects(t, "just before the first one", list(v+2, 3, n, 0, v, 0, 2, 0), api.ErrOverlap)
			rejects(t, "later", list(v, 3, n, 0, v+n, 0, 2, 0, v+n+1, 5, 2, 0), api.ErrOverlap)
		}
	}
	rejects(t, "behind the last one but one", list(0, 0, 2, 0, 20, 0, 2, 0, 10, 0, 2, 0), api.ErrOverlap)
	rejects(t, "at the end", list(maxKey, 0, 1, 0, maxKey, 0, 1, 0), api.ErrOverlap)
	rejects(t, "back to the start", list(maxKey, 0, 1, 0, 0, 0, 1, 0), api.ErrOverlap)
	rejects(t, "twice the same", list(4, 4, 4, 4, 4, 4, 4, 4), api.ErrOverlap)
}

// P19.2: of two errors, the one of the earlier run; of one run, ErrRange.
func TestCheckFirst(t *testing.T) {
	rejects(t, "order, then range", list(5, 0, 2, 0, 6, 0, 2, 0, -1, 0, 2, 0), api.ErrOverlap)
	rejects(t, "range, then order", list(5, 0, 2, 0, -1, 0, 2, 0, 5, 0, 2, 0), api.ErrRange)
	rejects(t, "order, then too many", list(5, 0, 2, 0, 6, 0, 2, 0, 9, 0, maxMaps, 0), api.ErrOverlap)
	rejects(t, "too many, then order", list(5, 0, 2, 0, 7, 0, maxMaps-1, 0, 9, 0, 1, 0), api.ErrRange)
	rejects(t, "order, then full", list(0, 0, maxMaps-1, 0, 9, 0, 1, 0, 1<<40, 0, 1, 0), api.ErrOverlap)
	rejects(t, "full and order", list(0, 0, maxMaps, 0, 9, 0, 1, 0), api.ErrRange)
	for _, wrong := range list(5, 0, 0, 0, 5, 0, -1, 0, -1, 0, 2, 0, 6, -1, 2, 0, 6, maxData-1, 2, 0, 6, 0, 2, -1, 6, 0, 2, maxTime+1, 6, 0, maxMaps-1, 0) {
		rejects(t, "both", append(list(5, 0, 2, 0), wrong), api.ErrRange)
		rejects(t, "one each", append(list(5, 0, 2, 0, 6, 0, 1, 0), wrong), api.ErrOverlap)
	}
}

// above reports whether the sum of integers is greater than most.
func above(most int, numbers ...int) bool {
	sum := new(big.Int)
	for _, n := range numbers {
		sum.Add(sum, big.NewInt(int64(n)))
	}
	return sum.Cmp(big.NewInt(int64(most))) > 0
}

// wanted returns what Check is to return.
func wanted(l []api.Run) api.Errno {
	var lengths []int
	for i, r := range l {
		lengths = append(lengths, r.N)
		switch {
		case r.N < 1, r.V < 0, above(maxKey, r.V, r.N, -1), r.B < 0, above(maxData, r.B, r.N),
			r.T < 0, r.T > maxTime, above(maxMaps, lengths...):
			return api.ErrRange
		case i > 0 && !above(l[i-1].V+l[i-1].N-1, r.V):
			return api.ErrOverlap
		}
	}
	return api.OK
}

// parts returns runs without an error, some of which continue others.
func parts(r *rand.Rand) []api.Run {
	var l []api.Run
	v, b, time := r.IntN(9), r.IntN(9), r.IntN(3)
	for range r.IntN(8) {
		switch r.IntN(9) {
		case 0:
			v += r.IntN(3)
		case 1:
			b = r.IntN(99)
		case 2:
			time = r.IntN(3)
		}
		x := api.Run{V: v, B: b, N: 1 + r.IntN(5), T: time}
		l = append(l, x)
		v, b = v+x.N, b+x.N
	}
	return l
}

// P19.2, P19.3, P19.4: random runs with several errors, or none.
func TestRandom(t *testing.T) {
	r := source(2)
	odd := []int{math.MinInt, -1, 0, 1, 2, 3, 9, 16000, maxMaps, maxMaps + 1, maxData - 1, maxData, maxTime, maxTime + 1, maxKey, maxKey + 1, math.MaxInt - 1, math.MaxInt}
	times := map[api.Errno]int{}
	for range 40000 {
		l := parts(r)
		for range min(r.IntN(4), 9*len(l)) {
			x := &l[r.IntN(len(l))]
			*[]*int{&x.V, &x.B, &x.N, &x.T}[r.IntN(4)] = odd[r.IntN(len(odd))]
		}
		want := wanted(l)
		times[want]++
		if want == api.OK {
			accepts(t, "random", l)
		} else {
			rejects(t, "random", l, want)
		}
	}
	if len(times) != 3 || min(times[api.OK], times[api.ErrRange], times[api.ErrOverlap]) < 3000 {
		t.Errorf("one result is rare: %v", times)
	}
}

// P19.2: the mappings of runs, in order.
func TestMaps(t *testing.T) {
	for _, x := range []struct {
		l    []api.Run
		want []api.Map
	}{
		{nil, nil},
		{list(0, 0, 1, 0), maps(0, 0, 0)},
		{list(5, 9, 3, 1), maps(5, 9, 1, 6, 10, 1, 7, 11, 1)},
		{list(5, 9, 2, 1, 8, 12, 1, 1), maps(5, 9, 1, 6, 10, 1, 8, 12, 1)},
		{list(5, 9, 2, 1, 7, 11, 2, 1), maps(5, 9, 1, 6, 10, 1, 7, 11, 1, 8, 12, 1)},
		{list(5, 9, 2, 1, 7, 9, 2, 0), maps(5, 9, 1, 6, 10, 1, 7, 9, 0, 8, 10, 0)},
		{list(maxKey-1, maxData-2, 2, maxTime), maps(maxKey-1, maxData-2, maxTime, maxKey, maxData-1, maxTime)},
	} {
		if got, e := runs.Maps(x.l); e != api.OK || !slices.Equal(got, x.want) {
			t.Errorf("%v: %v, %v, not %v", x.l, got, e, x.want)
		}
	}
	if got, e := runs.Maps(list(9, 3, maxMaps, 8)); e != api.OK || !slices.Equal(got, row(9, 3, maxMaps, 8)) {
		t.Errorf("longest: %d mappings, %v", len(got), e)
	}
	if got, e := runs.Maps(ones(maxMaps)); e != api.OK || len(got) != maxMaps || got[maxMaps-1] != (api.Map{V: 2*maxMaps - 2, B: 9}) {
		t.Errorf("most: %d mappings, %v", len(got), e)
	}
}

// P19.3: runs are joined if the later one continues the earlier one, be it
// itself one of several that have been joined.
func TestMerge(t *testing.T) {
	for _, x := range []struct {
		what    string
		l, want []api.Run
	}{
		{"nil", nil, nil},
		{"one", list(5, 9, 3, 1), list(5, 9, 3, 1)},
		{"two", list(5, 9, 3, 1, 8, 12, 4, 1), list(5, 9, 7, 1)},
		{"three", list(5, 9, 3, 1, 8, 12, 4, 1, 12, 16, 1, 1), list(5, 9, 8, 1)},
		{"first two", list(5, 9, 3, 1, 8, 12, 4, 1, 12, 16, 1, 2), list(5, 9, 7, 1, 12, 16, 1, 2)},
		{"last two", list(5, 9, 3, 0, 8, 12, 4, 1, 12, 16, 2, 1), list(5, 9, 3, 0, 8, 12, 6, 1)},
		{"two and two", list(1, 1, 1, 0, 2, 2, 1, 0, 3, 1, 1, 0, 4, 2, 1, 0), list(1, 1, 2, 0, 3, 1, 2, 0)},
		{"a gap", list(5, 9, 3, 1, 9, 12, 4, 1), list(5, 9, 3, 1, 9, 12, 4, 1)},
		{"another gap", list(5, 9, 3, 1, 9, 13, 4, 1), list(5, 9, 3, 1, 9, 13, 4, 1)},
		{"a later data block", list(5, 9, 3, 1, 8, 13, 4, 1), list(5, 9, 3, 1, 8, 13, 4, 1)},
		{"an earlier data block", list(5, 9, 3, 1, 8, 11, 4, 1), list(5, 9, 3, 1, 8, 11, 4, 1)},
		{"the same data block", list(5, 9, 3, 1, 8, 9, 4, 1), list(5, 9, 3, 1, 8, 9, 4, 1)},
		{"behind the first one's data block", list(5, 9, 3, 1, 8, 10, 4, 1), list(5, 9, 3, 1, 8, 10, 4, 1)},
		{"a later time", list(5, 9, 3, 1, 8, 12, 4, 2), list(5, 9, 3, 1, 8, 12, 4, 2)},
		{"an earlier time", list(5, 9, 3, 1, 8, 12, 4, 0), list(5, 9, 3, 1, 8, 12, 4, 0)},
		{"continues an earlier one", list(5, 9, 3, 1, 8, 20, 1, 1, 9, 12, 4, 1), list(5, 9, 3, 1, 8, 20, 1, 1, 9, 12, 4, 1)},
		{"to the end", list(maxKey-5, maxData-6, 3, 1, maxKey-2, maxData-3, 3, 1), list(maxKey-5, maxData-6, 6, 1)},
	} {
		accepts(t, x.what, x.l)
		if got := runs.Merge(x.l); !slices.Equal(got, x.want) {
			t.Errorf("%s: %v, not %v", x.what, got, x.want)
		}
		if got := runs.Merge(x.want); !slices.Equal(got, x.want) {
			t.Errorf("%s: %v, not %v", x.what, got, x.want)
		}
	}
	var l []api.Run
	for _, m := range row(9, 3, maxMaps, 8) {
		l = append(l, api.Run{V: m.V, B: m.B, N: 1, T: m.T})
	}
	if got := runs.Merge(l); !slices.Equal(got, list(9, 3, maxMaps, 8)) {
		t.Errorf("longest: %v", got)
	}
	if got := runs.Merge(ones(maxMaps)); !slices.Equal(got, ones(maxMaps)) {
		t.Errorf("most: %d runs", len(got))
	}
}

// returns checks that the mappings of a device are again those of their runs,
// none of which continues the previous one.
func returns(t *testing.T, d api.Device) {
	t.Helper()
	if e := pool.Check(api.Pool{Unit: 1, Data: maxData, Devs: []api.Device{d}}); e != api.OK {
		t.Fatalf("%v: not a valid pool: %v", d, e)
	}
	l := runs.Of(d.Maps)
	joined(t, l, d.Maps)
	accepts(t, "runs of mappings", l)
	if got, e := runs.Maps(l); e != api.OK || !slices.Equal(got, d.Maps) {
		t.Fatalf("%d mappings, %v, not %v", len(got), e, d.Maps)
	}
	if got := runs.Merge(l); !slices.Equal(got, l) {
		t.Fatalf("%v, not %v", got, l)
	}
}

// P19.4: the mappings of valid pools' devices.
func TestRoundTrip(t *testing.T) {
	returns(t, api.Device{})
	returns(t, api.Device{Maps: maps(0, 0, 0)})
	returns(t, api.Device{Maps: row(0, 0, maxMaps, 0)})
	returns(t, api.Device{Maps: row(maxKey+1-maxMaps, maxData-maxMaps, maxMaps, maxTime)})
	returns(t, api.Device{Maps: spread(ones(maxMaps))})
	returns(t, api.Device{Maps: maps(0, 0, 0, maxKey, maxData-1, maxTime)})
	r := source(3)
	for range 8000 {
		v, b, time := r.IntN(9), r.IntN(9), r.IntN(3)
		var d api.Device
		for range r.IntN(30) {
			d.Maps = append(d.Maps, api.Map{V: v, B: b, T: time})
			v, b = v+1, b+1
			switch r.IntN(9) {
			case 0:
				v += r.IntN(1 << 40)
			case 1:
				b = r.IntN(maxData - 40)
			case 2:
				time = r.IntN(maxTime + 1)
			}
		}
		returns(t, d)
	}
}

// P19.4: the runs of the mappings of runs are these runs, merged.
func TestRoundTripRuns(t *testing.T) {
	r := source(4)
	shorter := 0
	for range 8000 {
		l := parts(r)
		all, e := runs.Maps(l)
		if e != api.OK {
			t.Fatalf("%v: %v", l, e)
		}
		of, merged := runs.Of(all), runs.Merge(l)
		if !slices.Equal(of, merged) {
			t.Fatalf("%v: %v, not %v", l, of, merged)
		}
		if len(of) < len(l) {
			shorter++
		}
	}
	if shorter < 1000 {
		t.Errorf("%d lists had runs to be joined", shorter)
	}
}

// The results of calls are the caller's own: none shares memory with another one.
func TestOwn(t *testing.T) {
	l := list(5, 9, 3, 1, 8, 12, 4, 1, 20, 2, 1, 0)
	all, _ := runs.Maps(l)
	other, _ := runs.Maps(l)
	wipe(other)
	if !slices.Equal(all, spread(l)) {
		t.Errorf("mappings: %v", all)
	}
	merged, again := runs.Merge(l), runs.Merge(l)
	wipe(again)
	if !slices.Equal(merged, list(5, 9, 7, 1, 20, 2, 1, 0)) {
		t.Errorf("merged runs: %v", merged)
	}
	of, second := runs.Of(all), runs.Of(all)
	wipe(second)
	if !slices.Equal(of, merged) {
		t.Errorf("runs: %v", of)
	}
	wipe(l)
	wipe(all)
	if !slices.Equal(merged, list(5, 9, 7, 1, 20, 2, 1, 0)) || !slices.Equal(of, merged) {
		t.Errorf("%v and %v, after a change of what they are of", merged, of)
	}
}
