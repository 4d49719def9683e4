package value_test

import (
	"encoding/binary"
	"encoding/hex"
	"fmt"
	"math"
	"slices"
	"strings"
	"testing"

	"scantling/api"
	"scantling/value"
)

// field is an integer of a value with its limits, and where it stands in an
// encoding: it is the integer in width bytes at offset at, after that many bits.
type field struct {
	name      string
	lo, hi    int
	at, width int
	shift     int
}

// kind is a kind of values, with its functions for the integers in a list.
type kind struct {
	name   string
	size   int
	fields []field
	put    func(l []int) string
	read   func(s string) ([]int, api.Errno)
}

// kinds returns all kinds of values.
func kinds() []kind {
	return []kind{
		{"mapping", 8, []field{{"b", 0, 65535, 0, 8, 24}, {"t", 0, 16777215, 0, 8, 0}},
			func(l []int) string { return value.Map(l[0], l[1]) },
			func(s string) ([]int, api.Errno) {
				b, t, e := value.ReadMap(s)
				return []int{b, t}, e
			}},
		{"details", 24, []field{{"Mapped", 0, 16384, 0, 8, 0}, {"Tx", 0, 2147483647, 8, 8, 0}, {"Made", 0, 16777215, 16, 4, 0}, {"Snapped", 0, 16777215, 20, 4, 0}},
			func(l []int) string {
				return value.Detail(api.Detail{Mapped: l[0], Tx: l[1], Made: l[2], Snapped: l[3]})
			},
			func(s string) ([]int, api.Errno) {
				d, e := value.ReadDetail(s)
				return []int{d.Mapped, d.Tx, d.Made, d.Snapped}, e
			}},
		{"slot", 16, []field{{"Block", 1, 14399, 0, 8, 0}, {"Free", 0, 960, 8, 4, 0}, {"First", 0, 960, 12, 4, 0}},
			func(l []int) string { return value.Slot(api.Slot{Block: l[0], Free: l[1], First: l[2]}) },
			func(s string) ([]int, api.Errno) {
				x, e := value.ReadSlot(s)
				return []int{x.Block, x.Free, x.First}, e
			}},
		{"root", 4, []field{{"root", 1, 14399, 0, 4, 0}},
			func(l []int) string { return value.Root(l[0]) },
			func(s string) ([]int, api.Errno) {
				n, e := value.ReadRoot(s)
				return []int{n}, e
			}},
		{"count", 4, []field{{"count", 3, 2147483647, 0, 4, 0}},
			func(l []int) string { return value.Count(l[0]) },
			func(s string) ([]int, api.Errno) {
				n, e := value.ReadCount(s)
				return []int{n}, e
			}},
	}
}

// spelled returns what a value consists of, whether its integers are within
// their limits or not, as long as they fit.
func (k kind) spelled(l []int) string {
	b := make([]byte, k.size)
	for i, f := range k.fields {
		if f.width == 8 {
			binary.LittleEndian.PutUint64(b[f.at:], binary.LittleEndian.Uint64(b[f.at:])+uint64(l[i])<<f.shift)
		} else {
			binary.LittleEndian.PutUint32(b[f.at:], uint32(l[i]))
		}
	}
	return string(b)
}

// fits reports whether spelled can spell n as the field.
func (f field) fits(n int) bool {
	return n >= 0 && (f.shift == 0 || n < 1<<40) && (f.width == 8 || n < 1<<32)
}

// decoded returns the integers that the bytes of s consist of, and whether all
// of them are within their limits.
func (k kind) decoded(s string) ([]int, bool) {
	var l []int
	for _, f := range k.fields {
		var n uint64
		for i := range f.width {
			n += uint64(s[f.at+i]) << (8 * i)
		}
		n >>= f.shift
		if k.name == "mapping" && f.shift == 0 {
			n %= 1 << 24
		}
		if n < uint64(f.lo) || n > uint64(f.hi) {
			return nil, false
		}
		l = append(l, int(n))
	}
	return l, true
}

// all returns the integers that pick chooses for the fields.
func (k kind) all(pick func(f field) int) []int {
	var l []int
	for _, f := range k.fields {
		l = append(l, pick(f))
	}
	return l
}

// lists returns lists of integers within their limits: the least and the
// greatest ones, and others.
func (k kind) lists() [][]int {
	l := [][]int{
		k.all(func(f field) int { return f.lo }),
		k.all(func(f field) int { return f.hi }),
		k.all(func(f field) int { return (f.lo + f.hi) / 2 }),
		k.all(func(f field) int { return f.lo + (f.hi-f.lo)/3 }),
	}
	next := random()
	for range 300 {
		l = append(l, k.all(func(f field) int { return f.lo + next(f.hi-f.lo+1) }))
	}
	return l
}

// random returns a source of integers from 0 to below some n.
func random() func(n int) int {
	r := uint64(88172645463325252)
	return func(n int) int {
		r ^= r << 13
		r ^= r >> 7
		r ^= r << 17
		return int(r % uint64(n))
	}
}

// zero reports whether all integers are 0.
func zero(l []int) bool {
	return !slices.ContainsFunc(l, func(n int) bool { return n != 0 })
}

// takes checks that s is the encoding of l, and l what is decoded from it.
func (k kind) takes(t *testing.T, l []int, s string) {
	t.Helper()
	if got := k.put(l); got != s {
		t.Fatalf("%s %v: %x, not %x", k.name, l, got, s)
	}
	if got, e := k.read(s); e != api.OK || !slices.Equal(got, l) {
		t.Fatalf("%s %x: %v, %v, not %v", k.name, s, got, e, l)
	}
}

// denies checks that l has no encoding.
func (k kind) denies(t *testing.T, what string, l []int) {
	t.Helper()
	if got := k.put(l); got != "" {
		t.Fatalf("%s, %s %v: %x", k.name, what, l, got)
	}
}

// refuses checks that s is no encoding, for a reason.
func (k kind) refuses(t *testing.T, what, s string, want api.Errno) {
	t.Helper()
	if got, e := k.read(s); e != want || !zero(got) {
		t.Fatalf("%s, %s %x: %v, %v, not %v", k.name, what, s, got, e, want)
	}
}

// The chapter's example.
func TestExample(t *testing.T) {
	if s := value.Map(1, 2); s != "\x02\x00\x00\x01\x00\x00\x00\x00" {
		t.Errorf("%x", s)
	}
}

// P8.1, P8.2: every byte of an encoding, written out.
func TestEncoding(t *testing.T) {
	for i, x := range []struct {
		l []int
		s string
	}{
		{[]int{0xd4e1, 0xfa9b5c}, "5c9bfa" + "e1d4000000"},
		{[]int{0x3142, 0x7b3c2d1e, 0xfa9b5c, 0xe8d7c6}, "4231000000000000" + "1e2d3c7b00000000" + "5c9bfa00" + "c6d7e800"},
		{[]int{0x3041, 0x02b7, 0x03a6}, "4130000000000000" + "b7020000" + "a6030000"},
		{[]int{0x2f51}, "512f0000"},
		{[]int{0x7a6b5c4d}, "4d5c6b7a"},
	} {
		b, err := hex.DecodeString(x.s)
		if err != nil {
			t.Fatal(err)
		}
		kinds()[i].takes(t, x.l, string(b))
	}
}

// P8.1: the fields of the structs, by their names.
func TestFields(t *testing.T) {
	d := api.Detail{Mapped: 1, Tx: 2, Made: 3, Snapped: 4}
	s := "\x01\x00\x00\x00\x00\x00\x00\x00\x02\x00\x00\x00\x00\x00\x00\x00\x03\x00\x00\x00\x04\x00\x00\x00"
	if got := value.Detail(d); got != s {
		t.Errorf("%x", got)
	}
	if got, e := value.ReadDetail(s); e != api.OK || got != d {
		t.Errorf("%+v, %v", got, e)
	}
	x := api.Slot{Block: 1, Free: 2, First: 3}
	s = "\x01\x00\x00\x00\x00\x00\x00\x00\x02\x00\x00\x00\x03\x00\x00\x00"
	if got := value.Slot(x); got != s {
		t.Errorf("%x", got)
	}
	if got, e := value.ReadSlot(s); e != api.OK || got != x {
		t.Errorf("%+v, %v", got, e)
	}
}

// P8.1 to P8.3: integers within their limits.
func TestValid(t *testing.T) {
	for _, k := range kinds() {
		for _, l := range k.lists() {
			k.takes(t, l, k.spelled(l))
		}
	}
}

// P8.1 to P8.3: every integer of a field that has few, and others that tell the
// bytes apart, while the other fields stay.
func TestEachInteger(t *testing.T) {
	for _, k := range kinds() {
		for i, f := range k.fields {
			l := slices.Clone(k.lists()[3])
			for n := f.lo; n <= min(f.hi, 70000); n++ {
				l[i] = n
				k.takes(t, l, k.spelled(l))
			}
			for n := 1; n <= f.hi; n <<= 1 {
				for _, l[i] = range []int{n, n - 1, f.hi - n, f.hi - n + 1} {
					if l[i] >= f.lo && l[i] <= f.hi {
						k.takes(t, l, k.spelled(l))
					}
				}
			}
		}
	}
}

// beyond returns integers that are not within the limits of the field: just
// beyond them, and such that the lowest bytes alone would be within them.
func (f field) beyond(usual int) []int {
	l := []int{f.lo - 1, f.lo - 2, f.hi + 1, f.hi + 2, -1, -2, -f.hi, -f.hi - 1, math.MaxInt, math.MaxInt - 1, math.MinInt, math.MinInt + 1, math.MinInt + 2, 1<<31 - 1, 1 << 31, 1<<32 - 1, -1 << 31}
	for bit := 14; bit < 64; bit++ {
		l = append(l, 1<<bit, 1<<bit-1, usual+1<<bit, usual-1<<bit, f.lo+1<<bit, f.hi+1<<bit, f.hi-1<<bit)
	}
	return slices.DeleteFunc(l, func(n int) bool { return n >= f.lo && n <= f.hi })
}

// P8.1, P8.2: each integer beyond its limits, while the others are the least,
// the greatest or others.
func TestBeyond(t *testing.T) {
	for _, k := range kinds() {
		for _, l := range k.lists()[:4] {
			for i, f := range k.fields {
				x := slices.Clone(l)
				for _, x[i] = range f.beyond(l[i]) {
					k.denies(t, f.name, x)
					switch {
					case !f.fits(x[i]): // no bytes hold it
					case k.name == "mapping" && f.name == "t":
						// its bytes are those of another b and t
					default:
						k.refuses(t, f.name, k.spelled(x), api.ErrRange)
					}
				}
			}
		}
	}
}

// P8.1: a mapping whose time is beyond its limits is not that of a neighbour.
func TestMapCarry(t *testing.T) {
	k := kinds()[0]
	for _, x := range [][]int{{0, 1 << 24}, {1, 1 << 24}, {65534, 1 << 24}, {1, -1}, {65535, -1}, {65536, -1}, {65536, -1 << 24}, {-1, 1 << 24}, {-1, 1<<24 + 1}, {1 << 40, 0}, {1 << 40, 5}, {-1 << 40, 5}, {1<<40 + 1, 2}} {
		k.denies(t, "carry", x)
	}
}

// P8.1, P8.2: several integers beyond their limits at once.
func TestSeveralBeyond(t *testing.T) {
	next := random()
	for _, k := range kinds() {
		usual := k.lists()[2]
		for range 3000 {
			x := slices.Clone(usual)
			wrong, bytes := false, true
			for i, f := range k.fields {
				if next(2) == 0 {
					continue
				}
				l := f.beyond(usual[i])
				x[i], wrong = l[next(len(l))], true
				bytes = bytes && f.fits(x[i])
			}
			if !wrong {
				continue
			}
			k.denies(t, "several", x)
			if bytes && k.name != "mapping" {
				k.refuses(t, "several", k.spelled(x), api.ErrRange)
			}
		}
		k.denies(t, "all", k.all(func(f field) int { return f.lo - 1 }))
		k.denies(t, "all", k.all(func(f field) int { return f.hi + 1 }))
	}
}

// P8.2: every length but the right one is told before all else, whether the
// integers are within their limits or not.
func TestLength(t *testing.T) {
	for _, k := range kinds() {
		k.refuses(t, "nothing", "", api.ErrForm)
		for n := range 300 {
			if n == k.size {
				continue
			}
			for _, c := range []string{"\x00", "\x01", "\x04", "\x7f", "\x80", "\xff"} {
				k.refuses(t, "length", strings.Repeat(c, n), api.ErrForm)
			}
		}
		for _, l := range k.lists()[:4] {
			s := k.spelled(l)
			for n := range s {
				k.refuses(t, "too short", s[:n], api.ErrForm)
				k.refuses(t, "too short", s[n+1:], api.ErrForm)
			}
			for _, n := range []int{1, 2, 3, 4, 8, 24, 256, 1 << 16} {
				k.refuses(t, "too long", s+strings.Repeat("\x00", n), api.ErrForm)
				k.refuses(t, "too long", strings.Repeat("\x00", n)+s, api.ErrForm)
			}
			k.refuses(t, "twice", s+s, api.ErrForm)
		}
		for _, o := range kinds() {
			if o.size != k.size {
				k.refuses(t, "another kind", o.spelled(o.lists()[2]), api.ErrForm)
			}
		}
	}
}

// P8.2: the bytes of no integer that could be right.
func TestReadRange(t *testing.T) {
	for _, k := range kinds() {
		k.refuses(t, "ones", strings.Repeat("\xff", k.size), api.ErrRange)
		k.refuses(t, "signs", strings.Repeat("\x80", k.size), api.ErrRange)
		if s := strings.Repeat("\x00", k.size); zero(k.all(func(f field) int { return f.lo })) {
			k.takes(t, make([]int, len(k.fields)), s)
		} else {
			k.refuses(t, "zeros", s, api.ErrRange)
		}
	}
}

// meets checks that what becomes of the bytes of s, which are as many as they
// must be, is what the integers in them say.
func (k kind) meets(t *testing.T, s string) bool {
	t.Helper()
	l, ok := k.decoded(s)
	if ok {
		k.takes(t, l, s)
	} else {
		k.refuses(t, "bytes", s, api.ErrRange)
	}
	return ok
}

// P8.2, P8.3: each byte of an encoding with every value.
func TestEachByte(t *testing.T) {
	for _, k := range kinds() {
		for _, l := range k.lists()[:20] {
			b := []byte(k.spelled(l))
			for at, old := range b {
				for c := range 256 {
					b[at] = byte(c)
					k.meets(t, string(b))
				}
				b[at] = old
			}
		}
	}
}

// P8.3: arbitrary bytes: what can be decoded is what is encoded again.
func TestArbitrary(t *testing.T) {
	next := random()
	for _, k := range kinds() {
		l, taken := k.lists(), 0
		for range 30000 {
			b := []byte(k.spelled(l[next(len(l))]))
			for range next(4) {
				b[next(len(b))] = byte(next(256))
			}
			if k.meets(t, string(b)) {
				taken++
			}
		}
		if taken < 1000 || taken > 29000 {
			t.Errorf("%s: %d were encodings", k.name, taken)
		}
	}
}

// P8.3: two values have the same encoding only if they are the same.
func TestOneEncodingEach(t *testing.T) {
	for _, k := range kinds() {
		seen := map[string]string{}
		for _, l := range k.lists() {
			s, text := k.put(l), fmt.Sprint(l)
			if other, ok := seen[s]; ok && other != text {
				t.Errorf("%s: %s and %s: %x", k.name, other, text, s)
			}
			seen[s] = text
		}
	}
}

// P8.2: one call does not count for the next one.
func TestAgain(t *testing.T) {
	for _, k := range kinds() {
		l := k.lists()[2]
		s := k.spelled(l)
		k.denies(t, "again", k.all(func(f field) int { return -1 }))
		k.takes(t, l, s)
		k.refuses(t, "again", s+"x", api.ErrForm)
		k.refuses(t, "again", strings.Repeat("\xff", k.size), api.ErrRange)
		k.takes(t, l, s)
	}
}
