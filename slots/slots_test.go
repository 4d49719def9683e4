package slots_test

import (
	"bytes"
	"encoding/binary"
	"encoding/hex"
	"math"
	"math/rand/v2"
	"slices"
	"testing"

	"scantling/api"
	"scantling/slots"
)

// field is an integer of a slot with its limits, and where it stands in the
// slot's 16 bytes.
type field struct {
	name      string
	of        func(x *api.Slot) *int
	lo, hi    int
	at, width int
}

// fields returns the integers of a slot.
func fields() []field {
	return []field{
		{"Block", func(x *api.Slot) *int { return &x.Block }, 1, 14399, 0, 8},
		{"Free", func(x *api.Slot) *int { return &x.Free }, 0, 960, 8, 4},
		{"First", func(x *api.Slot) *int { return &x.First }, 0, 960, 12, 4},
	}
}

// beyond returns integers that are not within the limits of the field: just
// beyond them, and such that the lowest bytes alone would be within them.
func (f field) beyond() []int {
	l := []int{f.lo - 1, f.lo - 2, f.hi + 1, f.hi + 2, -1, -2, -f.hi, math.MaxInt, math.MaxInt - 1, math.MinInt, math.MinInt + 1, 1<<31 - 1, 1<<32 - 1}
	for bit := 8; bit < 64; bit++ {
		l = append(l, 1<<bit, 1<<bit+1, 1<<bit+f.lo, 1<<bit+f.hi, -1<<bit, -1<<bit+1, -1<<bit+f.hi)
	}
	return slices.DeleteFunc(l, func(n int) bool { return n >= f.lo && n <= f.hi })
}

// fits reports whether spelled can spell n as the field.
func (f field) fits(n int) bool {
	return n >= 0 && (f.width == 8 || n < 1<<32)
}

// source returns a random source that is the same in each run.
func source() *rand.Rand {
	return rand.New(rand.NewPCG(10, 15))
}

// arbitrary returns that many valid slots.
func arbitrary(r *rand.Rand, size int) []api.Slot {
	l := make([]api.Slot, size)
	for i := range l {
		l[i] = api.Slot{Block: 1 + r.IntN(14399), Free: r.IntN(961), First: r.IntN(961)}
	}
	return l
}

// spelled spells an encoding out, whether the slots are valid or not. If they
// are too many, it is as long as they need.
func spelled(l []api.Slot) []byte {
	b := binary.LittleEndian.AppendUint32(nil, uint32(len(l)))
	for _, x := range l {
		b = binary.LittleEndian.AppendUint64(b, uint64(x.Block))
		b = binary.LittleEndian.AppendUint32(b, uint32(x.Free))
		b = binary.LittleEndian.AppendUint32(b, uint32(x.First))
	}
	return append(b, make([]byte, max(244-len(b), 0))...)
}

// decoded returns the slots that 244 bytes are the encoding of, or what is
// wrong with them.
func decoded(b []byte) ([]api.Slot, api.Errno) {
	size := binary.LittleEndian.Uint32(b)
	if size > 15 {
		return nil, api.ErrForm
	}
	end := 4 + 16*int(size)
	for _, c := range b[end:] {
		if c != 0 {
			return nil, api.ErrForm
		}
	}
	var l []api.Slot
	for at := 4; at < end; at += 16 {
		block := binary.LittleEndian.Uint64(b[at:])
		free, first := binary.LittleEndian.Uint32(b[at+8:]), binary.LittleEndian.Uint32(b[at+12:])
		if block < 1 || block > 14399 || free > 960 || first > 960 {
			return nil, api.ErrRange
		}
		l = append(l, api.Slot{Block: int(block), Free: int(free), First: int(first)})
	}
	return l, api.OK
}

// takes checks that b is the encoding of l, and l what is decoded from it.
func takes(t *testing.T, l []api.Slot, b []byte) {
	t.Helper()
	if out, e := slots.Put(l); e != api.OK || !bytes.Equal(out, b) {
		t.Fatalf("%v: %x, %v, not %x", l, out, e, b)
	}
	if out, e := slots.Read(b); e != api.OK || !slices.Equal(out, l) {
		t.Fatalf("%x: %v, %v, not %v", b, out, e, l)
	}
}

// denies checks that l has no encoding.
func denies(t *testing.T, what string, l []api.Slot) {
	t.Helper()
	if out, e := slots.Put(l); e != api.ErrArg || len(out) != 0 {
		t.Fatalf("%s: %v: %x, %v", what, l, out, e)
	}
}

// refuses checks that b is no encoding, for a reason.
func refuses(t *testing.T, what string, b []byte, want api.Errno) {
	t.Helper()
	if out, e := slots.Read(b); e != want || len(out) != 0 {
		t.Fatalf("%s: %x: %v, %v, not %v", what, b, out, e, want)
	}
}

// meets checks that what becomes of 244 bytes is what the slots in them say.
func meets(t *testing.T, b []byte) api.Errno {
	t.Helper()
	l, e := decoded(b)
	if e == api.OK {
		takes(t, l, b)
	} else {
		refuses(t, "bytes", b, e)
	}
	return e
}

// The chapter's example.
func TestExample(t *testing.T) {
	takes(t, nil, make([]byte, 244))
	takes(t, []api.Slot{}, make([]byte, 244))
}

// P10.1, P10.2: every byte of an encoding, written out.
func TestEncoding(t *testing.T) {
	for _, x := range []struct {
		l []api.Slot
		s string
	}{
		{[]api.Slot{{Block: 1, Free: 2, First: 3}}, "01000000" + "0100000000000000" + "02000000" + "03000000"},
		{[]api.Slot{{Block: 0x3041, Free: 0x02b7, First: 0x03a6}}, "01000000" + "4130000000000000" + "b7020000" + "a6030000"},
		{[]api.Slot{{Block: 1}, {Block: 14399, Free: 960, First: 960}}, "02000000" + "0100000000000000" + "00000000" + "00000000" + "3f38000000000000" + "c0030000" + "c0030000"},
		{[]api.Slot{{Block: 9, Free: 0, First: 960}, {Block: 8, Free: 960, First: 0}, {Block: 9, Free: 0, First: 960}}, "03000000" + "0900000000000000" + "00000000" + "c0030000" + "0800000000000000" + "c0030000" + "00000000" + "0900000000000000" + "00000000" + "c0030000"},
	} {
		b, err := hex.DecodeString(x.s)
		if err != nil {
			t.Fatal(err)
		}
		takes(t, x.l, append(b, make([]byte, 244-len(b))...))
	}
	unit, _ := hex.DecodeString("0201000000000000" + "04030000" + "06020000")
	full := append([]byte{15, 0, 0, 0}, bytes.Repeat(unit, 15)...)
	takes(t, slices.Repeat([]api.Slot{{Block: 0x0102, Free: 0x0304, First: 0x0206}}, 15), full)
}

// P10.1 to P10.3: each number of slots that an index can have.
func TestValid(t *testing.T) {
	r := source()
	for size := range 16 {
		for _, x := range []api.Slot{{Block: 1}, {Block: 14399, Free: 960, First: 960}, {Block: 258, Free: 3, First: 4}} {
			l := slices.Repeat([]api.Slot{x}, size)
			takes(t, l, spelled(l))
		}
		for range 200 {
			l := arbitrary(r, size)
			takes(t, l, spelled(l))
		}
	}
}

// P10.1 to P10.3: every integer of each field, at the first, the last and
// another place, while the others stay.
func TestEachInteger(t *testing.T) {
	r := source()
	for _, size := range []int{1, 2, 15} {
		for _, i := range []int{0, size / 2, size - 1} {
			for _, f := range fields() {
				l := arbitrary(r, size)
				for n := f.lo; n <= f.hi; n++ {
					*f.of(&l[i]) = n
					takes(t, l, spelled(l))
				}
			}
		}
	}
}

// P10.1, P10.2: slots that name the same block, stand in any order, or have
// numbers that no block of counts would have are valid too.
func TestNoOtherRules(t *testing.T) {
	for _, l := range [][]api.Slot{
		{{Block: 5, Free: 1, First: 1}, {Block: 5, Free: 1, First: 1}},
		{{Block: 5, Free: 1, First: 1}, {Block: 4, Free: 2, First: 1}, {Block: 5, Free: 0, First: 0}},
		{{Block: 1, Free: 0, First: 0}},
		{{Block: 1, Free: 960, First: 960}},
		{{Block: 1, Free: 960, First: 1}},
		{{Block: 1, Free: 1, First: 960}},
	} {
		takes(t, l, spelled(l))
	}
}

// P10.1: more slots than an index can have, valid or not.
func TestTooMany(t *testing.T) {
	for _, size := range []int{16, 17, 18, 30, 31, 32, 255, 256, 257, 271, 65536, 65536 + 5} {
		for _, x := range []api.Slot{{}, {Block: 1}, {Block: 14399, Free: 960, First: 960}, {Block: -1}, {Block: 14400}} {
			denies(t, "too many", slices.Repeat([]api.Slot{x}, size))
		}
		denies(t, "too many", append(slices.Repeat([]api.Slot{{Block: 1}}, size-1), api.Slot{}))
	}
}

// P10.1, P10.2: each place with each field beyond its limits, while the others
// are valid.
func TestBeyond(t *testing.T) {
	r := source()
	for _, size := range []int{1, 2, 5, 15} {
		for i := range size {
			for _, f := range fields() {
				l := arbitrary(r, size)
				for _, n := range f.beyond() {
					*f.of(&l[i]) = n
					denies(t, f.name, l)
					if f.fits(n) {
						refuses(t, f.name, spelled(l), api.ErrRange)
					}
				}
			}
		}
	}
}

// P10.1, P10.2: several integers beyond their limits at once.
func TestSeveralBeyond(t *testing.T) {
	r := source()
	for range 5000 {
		l := arbitrary(r, 1+r.IntN(15))
		fits := true
		for range 1 + r.IntN(4) {
			f := fields()[r.IntN(3)]
			wrong := f.beyond()
			n := wrong[r.IntN(len(wrong))]
			*f.of(&l[r.IntN(len(l))]) = n
			fits = fits && f.fits(n)
		}
		denies(t, "several", l)
		if fits {
			refuses(t, "several", spelled(l), api.ErrRange)
		}
	}
	denies(t, "opposites", []api.Slot{{Block: 1, Free: -1, First: 1}, {Block: 1, Free: 1, First: -1}})
	for size := 1; size <= 15; size++ {
		denies(t, "none is valid", make([]api.Slot, size))
		refuses(t, "none is valid", spelled(make([]api.Slot, size)), api.ErrRange)
	}
}

// P10.2: every length but the right one, whether the slots are valid or not.
func TestLength(t *testing.T) {
	refuses(t, "nothing", nil, api.ErrForm)
	for size := range 600 {
		if size == 244 {
			continue
		}
		for _, c := range []byte{0, 1, 0xff} {
			refuses(t, "length", bytes.Repeat([]byte{c}, size), api.ErrForm)
		}
	}
	r := source()
	for _, l := range [][]api.Slot{nil, arbitrary(r, 1), arbitrary(r, 8), arbitrary(r, 15), make([]api.Slot, 15), {{Block: 14400}}} {
		b := spelled(l)
		for n := range b {
			refuses(t, "too short", b[:n], api.ErrForm)
			refuses(t, "too short", b[n+1:], api.ErrForm)
		}
		for _, n := range []int{1, 2, 3, 4, 12, 16, 244, 1 << 16} {
			refuses(t, "too long", append(bytes.Clone(b), make([]byte, n)...), api.ErrForm)
			refuses(t, "too long", append(make([]byte, n), b...), api.ErrForm)
		}
		refuses(t, "twice", append(bytes.Clone(b), b...), api.ErrForm)
		refuses(t, "cut off within its capacity", b[:243:244], api.ErrForm)
	}
	for size := 16; size < 40; size++ {
		refuses(t, "too many in as many bytes as they need", spelled(arbitrary(r, size)), api.ErrForm)
	}
}

// P10.2: a number of slots that is greater than an index can have is told
// before a slot that is not valid.
func TestNumberRead(t *testing.T) {
	r := source()
	large := []uint32{16, 17, 18, 30, 31, 32, 1<<31 - 1, 1<<31 + 1, 1<<32 - 1, 1<<32 - 15}
	for bit := 4; bit < 32; bit++ {
		large = append(large, 1<<bit, 1<<bit+1, 1<<bit+5, 1<<bit+15)
	}
	for _, l := range [][]api.Slot{nil, arbitrary(r, 1), arbitrary(r, 15), make([]api.Slot, 15), {{Block: 14400}}} {
		b := spelled(l)
		for _, n := range large {
			binary.LittleEndian.PutUint32(b, n)
			refuses(t, "number", b, api.ErrForm)
		}
	}
	refuses(t, "ones", bytes.Repeat([]byte{0xff}, 244), api.ErrForm)
}

// P10.2: another number of slots in front of the same bytes: with fewer, the
// bytes of those left out are not 0; with more, there is a slot of zeros.
func TestOtherNumber(t *testing.T) {
	r := source()
	for size := range 16 {
		b := spelled(arbitrary(r, size))
		for n := range 20 {
			binary.LittleEndian.PutUint32(b, uint32(n))
			want := api.OK
			if n > 15 || n < size {
				want = api.ErrForm
			} else if n > size {
				want = api.ErrRange
			}
			if e := meets(t, b); e != want {
				t.Fatalf("%d instead of %d: %v, not %v", n, size, e, want)
			}
		}
	}
}

// P10.2: each bit behind the slots, alone, is told before a slot that is not
// valid.
func TestUnusedBits(t *testing.T) {
	r := source()
	for size := range 15 {
		valid, wrong, zeros := arbitrary(r, size), arbitrary(r, size), make([]api.Slot, size)
		if size > 0 {
			wrong[size-1].Free = 961
		}
		for _, l := range [][]api.Slot{valid, wrong, zeros} {
			b := spelled(l)
			for bit := 8 * (4 + 16*size); bit < 8*244; bit++ {
				b[bit/8] ^= 1 << (bit % 8)
				refuses(t, "unused", b, api.ErrForm)
				b[bit/8] ^= 1 << (bit % 8)
			}
		}
		b := spelled(valid)
		copy(b[4+16*size:], bytes.Repeat([]byte{0x80}, 244))
		refuses(t, "bytes whose sum is 0", b, api.ErrForm)
	}
}

// P10.2: a Block in whose eight bytes there is no integer.
func TestSign(t *testing.T) {
	r := source()
	for i := range 15 {
		b := spelled(arbitrary(r, 15))
		for _, c := range []byte{0x80, 0xff} {
			b[4+16*i+7] = c
			refuses(t, "sign", b, api.ErrRange)
		}
	}
}

// P10.2, P10.3: each byte of an encoding with every value.
func TestEachByte(t *testing.T) {
	r := source()
	for _, size := range []int{0, 1, 7, 14, 15} {
		b := spelled(arbitrary(r, size))
		for at, old := range b {
			for c := range 256 {
				b[at] = byte(c)
				meets(t, b)
			}
			b[at] = old
		}
	}
}

// P10.3: arbitrary bytes: what can be decoded is what is encoded again.
func TestArbitrary(t *testing.T) {
	r := source()
	seen := map[api.Errno]int{}
	for range 20000 {
		b := spelled(arbitrary(r, r.IntN(16)))
		for range r.IntN(3) {
			b[r.IntN(len(b))] = byte(r.IntN(256))
		}
		if r.IntN(4) == 0 {
			b[0] = byte(r.IntN(20))
		}
		seen[meets(t, b)]++
	}
	for _, e := range []api.Errno{api.OK, api.ErrForm, api.ErrRange} {
		if seen[e] < 1000 {
			t.Errorf("%v: %d", e, seen[e])
		}
	}
}

// Elements behind the length are not there, even if there is capacity.
func TestEndIsLength(t *testing.T) {
	l := arbitrary(source(), 40)
	l[5], l[6] = api.Slot{Block: 7}, api.Slot{}
	takes(t, l[:5], spelled(l[:5]))
	takes(t, l[7:22], spelled(l[7:22]))
	b := append(spelled(l[:5]), 0xff, 0xff, 0xff)
	takes(t, l[:5], b[:244])
}

// The arguments stay as they are, the spare capacity too.
func TestArgumentsStay(t *testing.T) {
	l := arbitrary(source(), 40)
	l[20] = api.Slot{}
	b := append(spelled(l[:7]), slices.Repeat([]byte{0xa5}, 500)...)
	oldL, oldB := slices.Clone(l), bytes.Clone(b)
	for _, size := range []int{0, 1, 7, 15, 16} {
		slots.Put(l[:size])
		slots.Put(l[20:][:size])
	}
	for _, size := range []int{0, 3, 4, 243, 244, 245} {
		slots.Read(b[:size])
	}
	if !slices.Equal(l, oldL) || !bytes.Equal(b, oldB) {
		t.Error("changed")
	}
}

// Results are the caller's own: a change of one, or of an argument, changes no
// other result.
func TestResultsAreNew(t *testing.T) {
	l := arbitrary(source(), 5)
	old, want := slices.Clone(l), spelled(l)
	b1, _ := slots.Put(l)
	b2, _ := slots.Put(l)
	l1, _ := slots.Read(b1)
	l2, _ := slots.Read(b1)
	if len(b1) != 244 || len(l1) != 5 {
		t.Fatal(len(b1), len(l1))
	}
	clear(b1[:cap(b1)])
	clear(l1[:cap(l1)])
	if !bytes.Equal(b2, want) || !slices.Equal(l2, old) {
		t.Errorf("results: %x, %v", b2, l2)
	}
	clear(l)
	if !bytes.Equal(b2, want) {
		t.Errorf("argument: %x", b2)
	}
}

// One call does not count for the next one.
func TestAgain(t *testing.T) {
	r := source()
	long, short := arbitrary(r, 15), arbitrary(r, 3)
	for range 2 {
		takes(t, long, spelled(long))
		takes(t, short, spelled(short))
		denies(t, "again", append(slices.Clone(short), api.Slot{}))
		refuses(t, "again", spelled(short)[:243], api.ErrForm)
		refuses(t, "again", spelled(make([]api.Slot, 3)), api.ErrRange)
		refuses(t, "again", bytes.Repeat([]byte{0xff}, 244), api.ErrForm)
		takes(t, nil, make([]byte, 244))
	}
}
