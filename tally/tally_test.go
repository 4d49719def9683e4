package tally_test

import (
	"encoding/binary"
	"math"
	"math/rand/v2"
	"slices"
	"strings"
	"testing"

	"scantling/api"
	"scantling/tally"
)

const (
	per      = 960
	maxData  = 65536
	maxCount = 2147483647
	form     = api.ErrForm
)

// source returns a random source that is the same in each run.
func source(n uint64) *rand.Rand {
	return rand.New(rand.NewPCG(21, n))
}

// spelled returns the four bytes of an integer.
func spelled(n int) string {
	return string(binary.LittleEndian.AppendUint32(nil, uint32(n)))
}

// entry returns the overflow entry of the count with index k, found in no block.
func entry(k, n int) api.Entry {
	return api.Entry{Key: k, Val: spelled(n)}
}

// entries returns the overflow entries of pairs of an index and a count.
func entries(pairs ...int) []api.Entry {
	var l []api.Entry
	for ; len(pairs) > 0; pairs = pairs[2:] {
		l = append(l, entry(pairs[0], pairs[1]))
	}
	return l
}

// lists returns the two-bit counts as lists: as long as there are more than one
// list holds, the next one is full.
func lists(bits ...int) [][]int {
	var l [][]int
	for len(bits) > per {
		l = append(l, slices.Clone(bits[:per]))
		bits = bits[per:]
	}
	if len(bits) > 0 {
		l = append(l, slices.Clone(bits))
	}
	return l
}

// parts returns the two parts of counts.
func parts(counts []int) ([][]int, []api.Entry) {
	var bits []int
	var over []api.Entry
	for k, n := range counts {
		if n < 3 {
			bits = append(bits, n)
			continue
		}
		bits = append(bits, 3)
		over = append(over, entry(k, n))
	}
	return lists(bits...), over
}

// located returns the entries as they would be read from the leaves of an image.
func located(over []api.Entry) []api.Entry {
	l := slices.Clone(over)
	for i := range l {
		l[i].At = 7 + i/18
	}
	return l
}

// spare returns an equal list, behind which more elements follow in the same memory.
func spare[T any](l []T, more ...T) []T {
	return append(slices.Clone(l), more...)[:len(l)]
}

// same reports whether two lists of lists are equal.
func same(a, b [][]int) bool {
	return slices.EqualFunc(a, b, slices.Equal[[]int])
}

// keep returns a function that fails if a list, or the memory behind it, is no
// longer what it is now.
func keep[T comparable](t *testing.T, l []T) func() {
	t.Helper()
	before := slices.Clone(l[:cap(l)])
	return func() {
		t.Helper()
		if !slices.Equal(l[:cap(l)], before) {
			t.Fatal("an argument has changed")
		}
	}
}

// keepAll does the same for a list of lists.
func keepAll(t *testing.T, l [][]int) func() {
	t.Helper()
	whole := l[:cap(l)]
	outer := slices.Clone(whole)
	var inner []func()
	for _, x := range whole {
		inner = append(inner, keep(t, x))
	}
	return func() {
		t.Helper()
		for i, x := range whole {
			if len(x) != len(outer[i]) || cap(x) != cap(outer[i]) || len(x) > 0 && &x[0] != &outer[i][0] {
				t.Fatal("a list of an argument has changed")
			}
			inner[i]()
		}
	}
}

// separate checks that no list shares memory with another one, its spare capacity
// included, and overwrites all of them.
func separate(t *testing.T, what string, l [][]int) {
	t.Helper()
	for i, x := range l {
		for k := range x[:cap(x)] {
			x[:cap(x)][k] = -1 - i
		}
	}
	for i, x := range l {
		for _, n := range x[:cap(x)] {
			if n != -1-i {
				t.Fatalf("%s: list %d shares memory with list %d", what, i, -1-n)
			}
		}
	}
}

// splits checks the two parts of counts, twice: first with more counts behind them.
func splits(t *testing.T, what string, counts []int, bits [][]int, over []api.Entry) {
	t.Helper()
	for _, l := range [][]int{spare(counts, 5, 5, 5, -1), counts} {
		check := keep(t, l)
		gotBits, gotOver, e := tally.Split(l)
		if e != api.OK {
			t.Fatalf("%s: error %d", what, e)
		}
		if !same(gotBits, bits) {
			t.Fatalf("%s: lists %v, not %v", what, gotBits, bits)
		}
		if !slices.Equal(gotOver, over) {
			t.Fatalf("%s: entries %v, not %v", what, gotOver, over)
		}
		separate(t, what, gotBits)
		clear(gotBits[:cap(gotBits)])
		clear(gotOver[:cap(gotOver)])
		check()
	}
}

// splitFails checks the error of counts that have no parts.
func splitFails(t *testing.T, what string, counts []int, want api.Errno) {
	t.Helper()
	check := keep(t, counts)
	bits, over, e := tally.Split(counts)
	if e != want || len(bits) != 0 || len(over) != 0 {
		t.Fatalf("%s: error %d, not %d, with %d lists and %d entries", what, e, want, len(bits), len(over))
	}
	check()
}

// joins checks the counts of two parts, twice: first with more lists and entries
// behind them.
func joins(t *testing.T, what string, bits [][]int, over []api.Entry, want []int) {
	t.Helper()
	for _, more := range []bool{true, false} {
		a, b := bits, over
		if more {
			a, b = spare(bits, []int{3, 0, 3}), spare(over, entry(maxCount, 5), entry(-1, 4))
			for i, l := range a {
				a[i] = spare(l, 3, 3, 9)
			}
		}
		checkBits, checkOver := keepAll(t, a), keep(t, b)
		got, e := tally.Join(a, b)
		if e != api.OK {
			t.Fatalf("%s: error %d", what, e)
		}
		if !slices.Equal(got, want) {
			t.Fatalf("%s: %v, not %v", what, got, want)
		}
		clear(got[:cap(got)])
		checkBits()
		checkOver()
	}
}

// joinFails checks the error of what are not two parts.
func joinFails(t *testing.T, what string, bits [][]int, over []api.Entry, want api.Errno) {
	t.Helper()
	checkBits, checkOver := keepAll(t, bits), keep(t, over)
	got, e := tally.Join(bits, over)
	if e != want || len(got) != 0 {
		t.Fatalf("%s: error %d, not %d, with %d counts", what, e, want, len(got))
	}
	checkBits()
	checkOver()
}

// The chapter's example.
func TestExample(t *testing.T) {
	over := []api.Entry{{Key: 1, Val: "\x05\x00\x00\x00"}}
	splits(t, "example", []int{0, 5, 2}, [][]int{{0, 3, 2}}, over)
	joins(t, "example", [][]int{{0, 3, 2}}, over, []int{0, 5, 2})
}

// P21.1, P21.2: no counts have no lists and no entries.
func TestEmpty(t *testing.T) {
	splits(t, "nil", nil, nil, nil)
	splits(t, "empty", []int{}, nil, nil)
	joins(t, "nil", nil, nil, nil)
	joins(t, "empty", [][]int{}, []api.Entry{}, nil)
}

// P21.1, P21.2: each count alone, around those that bits hold and at the limits.
func TestCounts(t *testing.T) {
	for _, x := range []struct {
		n, bits int
		val     string
	}{
		{0, 0, ""},
		{1, 1, ""},
		{2, 2, ""},
		{3, 3, "\x03\x00\x00\x00"},
		{4, 3, "\x04\x00\x00\x00"},
		{5, 3, "\x05\x00\x00\x00"},
		{255, 3, "\xff\x00\x00\x00"},
		{256, 3, "\x00\x01\x00\x00"},
		{16384, 3, "\x00\x40\x00\x00"},
		{0x01020304, 3, "\x04\x03\x02\x01"},
		{maxCount - 1, 3, "\xfe\xff\xff\x7f"},
		{maxCount, 3, "\xff\xff\xff\x7f"},
	} {
		for k, counts := range [][]int{{x.n}, {1, x.n}, {2, 0, x.n, 1}} {
			bits := slices.Clone(counts)
			bits[k] = x.bits
			var over []api.Entry
			if x.val != "" {
				over = []api.Entry{{Key: k, Val: x.val}}
			}
			splits(t, "count", counts, [][]int{bits}, over)
			joins(t, "count", [][]int{bits}, over, counts)
		}
	}
}

// P21.1, P21.2: numbers of counts at which another list begins, with entries for
// none of them, for the first and last of each list, and for all.
func TestLengths(t *testing.T) {
	for _, n := range []int{1, 2, 17, 18, 19, 958, 959, 960, 961, 962, 1919, 1920, 1921, 2880, 2881, 15 * per, 68 * per, 68*per + 1, maxData - 1, maxData} {
		none, some, all := make([]int, n), make([]int, n), make([]int, n)
		for k := range n {
			none[k], some[k], all[k] = k%3, k%2, 3+k
			if k%per == 0 || k%per == per-1 || k == n-1 {
				some[k] = 1000 + k
			}
		}
		for _, counts := range [][]int{none, some, all} {
			bits, over := parts(counts)
			if len(bits) != 1+(n-1)/per {
				t.Fatalf("%d counts: %d lists", n, len(bits))
			}
			splits(t, "lengths", counts, bits, over)
			joins(t, "lengths", bits, over, counts)
		}
	}
}

// P21.1: too many counts, whatever they are.
func TestSplitMany(t *testing.T) {
	for _, n := range []int{maxData + 1, maxData + 2, maxData + per, 69 * per, 2 * maxData, 1 << 20} {
		for _, counts := range [][]int{make([]int, n), slices.Repeat([]int{7}, n), slices.Repeat([]int{-1}, n), slices.Repeat([]int{maxCount + 1}, n)} {
			splitFails(t, "too many", counts, api.ErrArg)
		}
	}
	counts := make([]int, maxData)
	splitFails(t, "not too many", append(counts[:maxData-1], -1), api.ErrRange)
}

// P21.1: a count out of range, wherever it is.
func TestSplitRange(t *testing.T) {
	for _, bad := range []int{-1, -2, -3, -per, math.MinInt32, -1 << 32, 3 - 1<<32, math.MinInt, math.MinInt + 3, maxCount + 1, maxCount + 2, math.MaxUint32, 1 << 32, 1<<32 + 3, math.MaxInt - 1, math.MaxInt} {
		for _, n := range []int{1, 2, 5, per, per + 1, 2*per + 9, maxData} {
			for _, at := range []int{0, 1, n / 2, per - 1, per, n - 2, n - 1} {
				if at < 0 || at >= n {
					continue
				}
				counts := make([]int, n)
				for k := range counts {
					counts[k] = k % 7
				}
				counts[at] = bad
				splitFails(t, "range", counts, api.ErrRange)
			}
		}
	}
}

// P21.2: lists that no counts have, whatever the entries are.
func TestJoinForm(t *testing.T) {
	full := make([]int, per)
	short := make([]int, per-1)
	long := make([]int, per+1)
	for what, bits := range map[string][][]int{
		"an empty list":             {{}},
		"a nil list":                {nil},
		"two empty lists":           {{}, {}},
		"an empty list first":       {{}, {1}},
		"an empty list behind":      {full, {}},
		"an empty list between":     {full, {}, {1}},
		"two empty lists behind":    {full, nil, nil},
		"a short list first":        {short, full},
		"a list of one first":       {{1}, {1}},
		"a short list between":      {full, short, {1}},
		"a short list before last":  {full, full, short, full},
		"a long list":               {long},
		"a long list first":         {long, {1}},
		"a long list first, filled": {long, short},
		"a long list last":          {full, long},
		"a very long list":          {make([]int, 2*per)},
		"a longest list":            {full, make([]int, maxData)},
		"-1":                        {{-1}},
		"4":                         {{4}},
		"-1 behind":                 {{0, 1, 2, -1}},
		"4 behind":                  {{0, 1, 2, 4}},
		"5 and -5":                  {{5, -5}},
		"a least integer":           {{0, math.MinInt}},
		"a greatest integer":        {{math.MaxInt, 0}},
		"a wide integer":            {{1 << 32}, {}},
		"4 in the second list":      {full, {0, 4}},
		"-1 at the end of a list":   {append(slices.Clone(short), -1), {1}},
	} {
		joinFails(t, what, bits, nil, form)
		joinFails(t, what, bits, entries(0, 3), form)
		joinFails(t, what, bits, entries(-1, 3), form)
		joinFails(t, what, bits, []api.Entry{{Key: 0, Val: ""}}, form)
		joinFails(t, what, bits, []api.Entry{{Key: 5, Val: "abcde"}, {Key: 5}}, form)
	}
	// A 3 without an entry comes last.
	joinFails(t, "3 and 4", [][]int{{3, 4}}, nil, form)
	joinFails(t, "3 and an empty list", [][]int{append(slices.Clone(short), 3), {}}, nil, form)
}

// P21.2: what has the form, with the entries that it needs or without them.
func TestJoinFormRight(t *testing.T) {
	full := make([]int, per)
	joins(t, "full", [][]int{full}, nil, full)
	joins(t, "two full lists", [][]int{full, full}, nil, append(slices.Clone(full), full...))
	joins(t, "full and one", [][]int{full, {2}}, nil, append(slices.Clone(full), 2))
	joins(t, "0 to 2", [][]int{{0, 1, 2}}, nil, []int{0, 1, 2})
	joins(t, "3", [][]int{{3}}, entries(0, 3), []int{3})
	joinFails(t, "3 without an entry", [][]int{{3}}, nil, api.ErrCount)
}

// P21.2: each error of an entry, alone and with errors that come before or behind
// it in the order that the chapter names.
func TestJoinEntries(t *testing.T) {
	bits := [][]int{{3, 0, 3, 1, 3, 2}} // 3 at 0, 2 and 4
	for _, x := range []struct {
		what string
		over []api.Entry
		want api.Errno
	}{
		{"all", entries(0, 3, 2, 4, 4, 5), api.OK},
		{"none", nil, api.ErrCount},
		{"without the first", entries(2, 4, 4, 5), api.ErrCount},
		{"without the second", entries(0, 3, 4, 5), api.ErrCount},
		{"without the last", entries(0, 3, 2, 4), api.ErrCount},

		{"-1", entries(-1, 3), api.ErrOrder},
		{"-1 first", entries(-1, 3, 0, 3, 2, 4, 4, 5), api.ErrOrder},
		{"-1 last", entries(0, 3, 2, 4, 4, 5, -1, 3), api.ErrOrder},
		{"least key", entries(math.MinInt, 3, 0, 3, 2, 4, 4, 5), api.ErrOrder},
		{"the first twice", entries(0, 3, 0, 3, 2, 4, 4, 5), api.ErrOrder},
		{"the last twice", entries(0, 3, 2, 4, 4, 5, 4, 5), api.ErrOrder},
		{"swapped", entries(0, 3, 4, 5, 2, 4), api.ErrOrder},
		{"reversed", entries(4, 5, 2, 4, 0, 3), api.ErrOrder},
		{"back to a 0", entries(0, 3, 2, 4, 1, 3, 4, 5), api.ErrOrder},

		{"index of a 0", entries(0, 3, 1, 3, 2, 4, 4, 5), api.ErrCount},
		{"index of a 1", entries(0, 3, 2, 4, 3, 3, 4, 5), api.ErrCount},
		{"index of a 2", entries(0, 3, 2, 4, 4, 5, 5, 3), api.ErrCount},
		{"index of nothing", entries(0, 3, 2, 4, 4, 5, 6, 3), api.ErrCount},
		{"index far away", entries(0, 3, 2, 4, 4, 5, 1<<32, 3), api.ErrCount},
		{"greatest index", entries(0, 3, 2, 4, 4, 5, math.MaxInt, 3), api.ErrCount},
		{"the count of its bits", entries(0, 3, 1, 0, 2, 4, 4, 5), api.ErrCount},

		{"no Val", []api.Entry{{Key: 0}, entry(2, 4), entry(4, 5)}, form},
		{"a short Val", []api.Entry{entry(0, 3), {Key: 2, Val: "\x03\x00\x00"}, entry(4, 5)}, form},
		{"a long Val", []api.Entry{entry(0, 3), entry(2, 4), {Key: 4, Val: "\x03\x00\x00\x00\x00"}}, form},
		{"a Val of 0", entries(0, 0, 2, 4, 4, 5), api.ErrRange},
		{"a Val of 2", entries(0, 3, 2, 2, 4, 5), api.ErrRange},
		{"a Val of 2^31", entries(0, 3, 2, 4, 4, 1<<31), api.ErrRange},
		{"a greatest Val", entries(0, math.MaxUint32, 2, 4, 4, 5), api.ErrRange},

		{"order before index", entries(-1, 3), api.ErrOrder},
		{"order before Val", []api.Entry{entry(0, 3), {Key: 0, Val: "?"}}, api.ErrOrder},
		{"index before Val", []api.Entry{{Key: 1, Val: "?"}}, api.ErrCount},
		{"index before order", entries(1, 3, 0, 3), api.ErrCount},
		{"the same wrong index twice", entries(1, 3, 1, 3), api.ErrCount},
		{"Val before order", []api.Entry{{Key: 0, Val: "?"}, entry(0, 3)}, form},
		{"Val before order, range", entries(2, 1, 0, 3, 4, 5), api.ErrRange},
		{"Val before index", entries(0, 1, 1, 3), api.ErrRange},
		{"Val before Val", []api.Entry{entry(0, 1), {Key: 2, Val: "?"}, entry(4, 5)}, api.ErrRange},
		{"form before range", []api.Entry{{Key: 0, Val: "?"}, entry(2, 2), entry(4, 5)}, form},
		{"index before Val of the next", []api.Entry{entry(0, 3), entry(1, 3), {Key: 2, Val: "?"}, entry(4, 5)}, api.ErrCount},
		{"Val before a missing one", []api.Entry{entry(2, 4), {Key: 4, Val: "?"}}, form},
		{"order before a missing one", entries(4, 5, 2, 4), api.ErrOrder},
		{"right one behind a wrong one", []api.Entry{{Key: 0, Val: "?"}, entry(0, 3), entry(2, 4), entry(4, 5)}, form},
		{"wrong one behind a right one", []api.Entry{entry(0, 3), {Key: 0, Val: "?"}, entry(2, 4), entry(4, 5)}, api.ErrOrder},
	} {
		if x.want == api.OK {
			joins(t, x.what, bits, x.over, []int{3, 0, 4, 1, 5, 2})
			continue
		}
		joinFails(t, x.what, bits, x.over, x.want)
		joinFails(t, x.what, bits, located(x.over), x.want)
	}
}

// P21.2: entries without any list, and lists without any 3.
func TestJoinNothing(t *testing.T) {
	for _, bits := range [][][]int{nil, {}, {{0}}, {{0, 1, 2}}, {make([]int, per), {1}}} {
		joinFails(t, "0", bits, entries(0, 3), api.ErrCount)
		joinFails(t, "5000", bits, entries(5000, 3), api.ErrCount)
		joinFails(t, "-1", bits, entries(-1, 3), api.ErrOrder)
		joinFails(t, "no Val", bits, []api.Entry{{Key: 0}}, api.ErrCount)
	}
}

// P21.2: entries around the end of a list.
func TestJoinEnds(t *testing.T) {
	flat := make([]int, 2*per+5)
	for _, k := range []int{0, per - 1, per, 2*per - 1, 2 * per, 2*per + 4} {
		flat[k] = 3
	}
	right := entries(0, 9, per-1, 8, per, 7, 2*per-1, 6, 2*per, 5, 2*per+4, 4)
	counts := slices.Clone(flat)
	for i, x := range right {
		counts[x.Key] = 9 - i
	}
	joins(t, "right", lists(flat...), right, counts)
	for i := range right {
		for _, move := range []int{-1, 1} {
			over := slices.Clone(right)
			over[i].Key += move
			want := api.ErrCount
			if over[i].Key < 0 || i > 0 && over[i].Key == over[i-1].Key {
				want = api.ErrOrder
			}
			if i+1 < len(over) && over[i].Key == over[i+1].Key {
				want = api.ErrOrder // this one is right, but the next one is no longer greater
			}
			joinFails(t, "moved", lists(flat...), over, want)
		}
		joinFails(t, "without it", lists(flat...), slices.Delete(slices.Clone(right), i, i+1), api.ErrCount)
		over := slices.Clone(right)
		over[i].Val += "\x00"
		joinFails(t, "longer", lists(flat...), over, form)
	}
}

// P21.2: Join names no greatest number of counts, unlike Split.
func TestJoinMany(t *testing.T) {
	for _, n := range []int{maxData, maxData + 1, 69 * per, 69*per + 1, 1 << 18} {
		flat, counts := make([]int, n), make([]int, n)
		var over []api.Entry
		for k := range flat {
			flat[k] = k % 4
			counts[k] = k % 4
			if k%4 == 3 {
				counts[k] = k
				over = append(over, entry(k, k))
			}
		}
		joins(t, "many", lists(flat...), over, counts)
		joinFails(t, "many, without an entry", lists(flat...), over[1:], api.ErrCount)
	}
}

// expected returns the first error of what may be two parts, in the chapter's order.
func expected(bits [][]int, over []api.Entry) api.Errno {
	var flat []int
	for i, l := range bits {
		if i < len(bits)-1 && len(l) != per || len(l) > per || len(l) == 0 {
			return form
		}
		for _, n := range l {
			if !slices.Contains([]int{0, 1, 2, 3}, n) {
				return form
			}
		}
		flat = append(flat, l...)
	}
	named := map[int]bool{}
	for i, x := range over {
		switch {
		case x.Key < 0 || i > 0 && over[i-1].Key >= x.Key:
			return api.ErrOrder
		case x.Key >= len(flat) || flat[x.Key] != 3:
			return api.ErrCount
		case len(x.Val) != 4:
			return form
		}
		n := binary.LittleEndian.Uint32([]byte(x.Val))
		if n < 3 || n > maxCount {
			return api.ErrRange
		}
		named[x.Key] = true
	}
	for k, n := range flat {
		if n == 3 && !named[k] {
			return api.ErrCount
		}
	}
	return api.OK
}

// changed changes a list or an entry in one place, or leaves them as they are.
func changed(r *rand.Rand, bits [][]int, over []api.Entry) ([][]int, []api.Entry) {
	i, k, x := 0, 0, 0
	if len(bits) > 0 {
		i = r.IntN(len(bits))
		k = r.IntN(max(len(bits[i]), 1))
	}
	if len(over) > 0 {
		x = r.IntN(len(over))
	}
	what := r.IntN(15)
	if what < 4 && (len(bits) == 0 || len(bits[i]) == 0) || what >= 4 && what < 12 && len(over) == 0 {
		return bits, over
	}
	switch what {
	case 0:
		bits[i][k] = r.IntN(4)
	case 1:
		bits[i][k] = []int{-1, 4, math.MinInt, math.MaxInt}[r.IntN(4)]
	case 2:
		bits[i] = bits[i][:k]
	case 3:
		bits[i] = append(bits[i], r.IntN(4))
	case 4:
		over[x].Val = strings.Repeat("\x03", r.IntN(7))
	case 5:
		over[x].Val = spelled([]int{0, 1, 2, 3, 4, 1 << 31, maxCount, math.MaxUint32}[r.IntN(8)])
	case 6:
		over[x].Key += r.IntN(5) - 2
	case 7:
		over[x].Key = []int{-1, 0, per, math.MinInt, math.MaxInt, 1 << 32}[r.IntN(6)]
	case 8:
		over = slices.Delete(over, x, x+1)
	case 9:
		over = slices.Insert(over, x, over[r.IntN(len(over))])
	case 10:
		y := r.IntN(len(over))
		over[x], over[y] = over[y], over[x]
	case 11:
		over[x].At = r.IntN(100)
	case 12:
		over = append(over, entry(r.IntN(3*per), 3))
	case 13:
		bits = append(bits, []int{r.IntN(4)})
	case 14:
		bits = slices.Insert(bits, i, []int{})
	}
	return bits, over
}

// random returns counts, of which many or few are 3 or more.
func random(r *rand.Rand) []int {
	counts := make([]int, r.IntN(1<<r.IntN(13)))
	limit := 1 + r.IntN(8)
	for k := range counts {
		counts[k] = r.IntN(limit)
		if counts[k] > 4 {
			counts[k] = r.IntN(maxCount + 1)
		}
	}
	return counts
}

// P21.3: the counts of their parts, and the parts of their counts.
func TestRoundTrip(t *testing.T) {
	r := source(1)
	for range 2000 {
		counts := random(r)
		wantBits, wantOver := parts(counts)
		splits(t, "random", counts, wantBits, wantOver)
		bits, over, e := tally.Split(counts)
		if e != api.OK {
			t.Fatalf("error %d", e)
		}
		joins(t, "random", bits, over, counts)
		joins(t, "random, located", bits, located(over), counts)
		got, e := tally.Join(bits, over)
		if e != api.OK {
			t.Fatalf("error %d", e)
		}
		splits(t, "random, again", got, bits, over)
	}
}

// P21.2, P21.3: parts of which some are changed. Those that are still parts of
// counts are the parts of these.
func TestChanged(t *testing.T) {
	r := source(2)
	seen := map[api.Errno]int{}
	for range 20000 {
		bits, over := parts(random(r))
		for range 1 + r.IntN(3) {
			bits, over = changed(r, bits, over)
		}
		want := expected(bits, over)
		seen[want]++
		if want != api.OK {
			joinFails(t, "changed", bits, over, want)
			continue
		}
		counts, e := tally.Join(bits, over)
		if e != api.OK {
			t.Fatalf("error %d for %v and %v", e, bits, over)
		}
		for i := range over {
			over[i].At = 0 // where an entry was read is not part of the counts
		}
		splits(t, "changed", counts, bits, over)
	}
	for _, e := range []api.Errno{api.OK, form, api.ErrOrder, api.ErrCount, api.ErrRange} {
		if seen[e] < 200 {
			t.Errorf("error %d only %d times", e, seen[e])
		}
	}
}

// small returns all lists of up to n elements.
func small[T any](n int, elements ...T) [][]T {
	all := [][]T{nil}
	for at := 0; at < len(all) && len(all[at]) < n; at++ {
		for _, x := range elements {
			all = append(all, append(slices.Clone(all[at]), x))
		}
	}
	return all
}

// P21.2: all small lists with all small combinations of right and wrong entries.
func TestSmall(t *testing.T) {
	var some []api.Entry
	for _, k := range []int{-1, 0, 1, 2, 3} {
		for _, val := range []string{spelled(3), spelled(7), spelled(2), "\x03"} {
			some = append(some, api.Entry{Key: k, Val: val})
		}
	}
	over := small(3, some...)
	for _, l := range small(3, 0, 2, 3, 4) {
		bits := lists(l...)
		for _, x := range over {
			want := expected(bits, x)
			counts, e := tally.Join(bits, x)
			if e != want || e != api.OK && len(counts) != 0 {
				t.Fatalf("%v and %v: error %d, not %d, with %v", bits, x, e, want, counts)
			}
			if e != api.OK {
				continue
			}
			for _, y := range x {
				if counts[y.Key] != int(binary.LittleEndian.Uint32([]byte(y.Val))) {
					t.Fatalf("%v and %v: %v", bits, x, counts)
				}
			}
			if b, o := parts(counts); !same(b, bits) || !slices.Equal(o, x) {
				t.Fatalf("%v and %v: %v", bits, x, counts)
			}
		}
	}
}
