package super_test

import (
	"bytes"
	"encoding/binary"
	"encoding/hex"
	"math"
	"strings"
	"testing"

	"scantling/api"
	"scantling/super"
)

// fields returns the fields of s in the order of the encoding.
func fields(s *api.Super) []*int {
	return []*int{&s.Tx, &s.Time, &s.Unit, &s.Data, &s.Blocks, &s.Top, &s.Details, &s.DataSlots, &s.DataOver, &s.MetaIndex, &s.MetaOver}
}

// names are those of the fields.
var names = strings.Fields("Tx Time Unit Data Blocks Top Details DataSlots DataOver MetaIndex MetaOver")

// The places of fields among those.
const (
	blocksField = 4
	firstRoot   = 5
)

// with returns s with another integer in a field.
func with(s api.Super, field, n int) api.Super {
	*fields(&s)[field] = n
	return s
}

// least returns the superblock with the least integer in each field, and
// greatest the one with the greatest.
func least() api.Super {
	return api.Super{Tx: 0, Time: 0, Unit: 1, Data: 0, Blocks: 2, Top: 1, Details: 1, DataSlots: 1, DataOver: 1, MetaIndex: 1, MetaOver: 1}
}

func greatest() api.Super {
	return api.Super{Tx: 2147483647, Time: 16777215, Unit: 65536, Data: 65536, Blocks: 14400, Top: 14399, Details: 14399, DataSlots: 14399, DataOver: 14399, MetaIndex: 14399, MetaOver: 14399}
}

// usual returns a superblock in which each root is another block.
func usual() api.Super {
	return api.Super{Tx: 7, Time: 5, Unit: 128, Data: 1000, Blocks: 64, Top: 40, Details: 41, DataSlots: 43, DataOver: 44, MetaIndex: 63, MetaOver: 46}
}

// valid returns superblocks that are valid, those with each of their roots at
// either end among them.
func valid() []api.Super {
	l := []api.Super{least(), greatest(), usual()}
	for _, s := range []api.Super{greatest(), usual()} {
		for root := firstRoot; root < len(names); root++ {
			for _, n := range []int{1, 2, s.Blocks - 2, s.Blocks - 1} {
				l = append(l, with(s, root, n))
			}
		}
	}
	r := uint32(2463534242)
	next := func(lo, hi int) int {
		r ^= r << 13
		r ^= r >> 17
		r ^= r << 5
		return lo + int(r)%(hi-lo+1)
	}
	for range 200 {
		s := api.Super{Tx: next(0, 2147483647), Time: next(0, 16777215), Unit: next(1, 65536), Data: next(0, 65536), Blocks: next(2, 14400)}
		for _, root := range fields(&s)[firstRoot:] {
			*root = next(1, s.Blocks-1)
		}
		l = append(l, s)
	}
	return l
}

// bounds returns the least and the greatest integer of each field of a
// superblock with that many blocks.
func bounds(blocks int) [][2]int {
	l := [][2]int{{0, 2147483647}, {0, 16777215}, {1, 65536}, {0, 65536}, {2, 14400}}
	for len(l) < len(names) {
		l = append(l, [2]int{1, blocks - 1})
	}
	return l
}

// keeps reports whether each field of s is within its bounds.
func keeps(s api.Super) bool {
	for i, n := range fields(&s) {
		if b := bounds(s.Blocks)[i]; *n < b[0] || *n > b[1] {
			return false
		}
	}
	return true
}

// spelled returns what an encoding consists of, whether its superblock is valid
// or not.
func spelled(magic string, version uint32, s api.Super) []byte {
	b := binary.LittleEndian.AppendUint32([]byte(magic), version)
	for _, n := range fields(&s) {
		b = binary.LittleEndian.AppendUint32(b, uint32(*n))
	}
	return append(b, make([]byte, 244-len(b))...)
}

// takes checks that s is valid, that b is its encoding, and that Read returns
// it.
func takes(t *testing.T, s api.Super, b []byte) {
	t.Helper()
	if !super.Right(s) {
		t.Fatalf("%+v is not valid", s)
	}
	if out, e := super.Put(s); e != api.OK || !bytes.Equal(out, b) {
		t.Fatalf("%+v: %x, %v, not %x", s, out, e, b)
	}
	if out, e := super.Read(b); e != api.OK || out != s {
		t.Fatalf("%x: %+v, %v, not %+v", b, out, e, s)
	}
}

// denies checks that s is not valid and has no encoding.
func denies(t *testing.T, s api.Super) {
	t.Helper()
	if super.Right(s) {
		t.Fatalf("%+v is valid", s)
	}
	if out, e := super.Put(s); e != api.ErrArg || len(out) != 0 {
		t.Fatalf("%+v: %x, %v", s, out, e)
	}
}

// refuses checks that b is no encoding.
func refuses(t *testing.T, what string, b []byte) {
	t.Helper()
	if out, e := super.Read(b); e != api.ErrForm || out != (api.Super{}) {
		t.Fatalf("%s: %x: %+v, %v", what, b, out, e)
	}
}

// The chapter's example.
func TestExample(t *testing.T) {
	if super.Magic != "SCANTLIN" {
		t.Errorf("%q", super.Magic)
	}
	b, e := super.Put(usual())
	if want := []byte{0x53, 0x43, 0x41, 0x4e, 0x54, 0x4c, 0x49, 0x4e, 1, 0, 0, 0}; e != api.OK || !bytes.HasPrefix(b, want) {
		t.Errorf("%x, %v", b, e)
	}
}

// P6.2: every byte of an encoding, written out.
func TestEncoding(t *testing.T) {
	s := api.Super{Tx: 0x7b3c2d1e, Time: 0xfa9b5c, Unit: 0xd4e1, Data: 0xc2b3, Blocks: 0x3041, Top: 0x2a01, Details: 0x1b02, DataSlots: 0x0c03, DataOver: 0x2d04, MetaIndex: 0x1e05, MetaOver: 0x0f06}
	b, err := hex.DecodeString("5343414e544c494e" + "01000000" +
		"1e2d3c7b" + "5c9bfa00" + "e1d40000" + "b3c20000" + "41300000" +
		"012a0000" + "021b0000" + "030c0000" + "042d0000" + "051e0000" + "060f0000" +
		strings.Repeat("00", 188))
	if err != nil || len(b) != 244 {
		t.Fatal(len(b), err)
	}
	takes(t, s, b)
}

// P6.1 to P6.3: valid superblocks, roots that are the same block among them.
func TestValid(t *testing.T) {
	for _, s := range valid() {
		takes(t, s, spelled("SCANTLIN", 1, s))
	}
}

// P6.1, P6.2: each field at either end of its range, just beyond it, and where
// its lowest bytes alone would be within it.
func TestBounds(t *testing.T) {
	few := with(least(), blocksField, 3) // one of its roots may be 2
	for _, s := range []api.Super{least(), few, usual(), greatest()} {
		for i := range names {
			lo, hi := bounds(s.Blocks)[i][0], bounds(s.Blocks)[i][1]
			old := *fields(&s)[i]
			for _, n := range []int{lo - 1, lo, lo + 1, hi - 1, hi, hi + 1, 0, 1, -1, old + 1<<16, old + 1<<24, old + 1<<31, old + 1<<32, old - 1<<32, 1<<31 - 1, 1 << 31, 1<<32 - 1, -1 << 31, math.MaxInt, math.MinInt, math.MinInt + 1, math.MinInt + 2} {
				x := with(s, i, n)
				ok := n >= lo && n <= hi
				if i == blocksField { // which bounds the roots
					ok = ok && n > max(s.Top, s.Details, s.DataSlots, s.DataOver, s.MetaIndex, s.MetaOver)
				}
				b := spelled("SCANTLIN", 1, x)
				if ok {
					takes(t, x, b)
					continue
				}
				denies(t, x)
				if n >= 0 && n < 1<<32 { // otherwise it has other bytes
					refuses(t, names[i], b)
				}
			}
		}
	}
}

// P6.1: the bound of each root is the number of blocks, for each number.
func TestRoots(t *testing.T) {
	for blocks := 2; blocks <= 14400; blocks++ {
		s := with(least(), blocksField, blocks)
		for root := firstRoot; root < len(names); root++ {
			if !super.Right(with(s, root, blocks-1)) || super.Right(with(s, root, blocks)) {
				t.Fatalf("%d blocks: %s", blocks, names[root])
			}
		}
	}
}

// P6.1, P6.2: every number of blocks that leaves no root, whatever the roots
// are.
func TestNoBlocks(t *testing.T) {
	for _, blocks := range []int{1, 0, -1, -2, math.MinInt, math.MinInt + 1} {
		for _, root := range []int{blocks - 1, blocks, 0, 1, math.MaxInt} {
			s := with(least(), blocksField, blocks)
			for i := firstRoot; i < len(names); i++ {
				s = with(s, i, root)
			}
			denies(t, s)
		}
	}
}

// P6.1, P6.2: all fields out of their bounds, and then one less each time.
func TestWrongTogether(t *testing.T) {
	right := usual()
	for _, n := range []int{-1, math.MaxInt, math.MinInt} {
		var s api.Super
		for i := range names {
			s = with(s, i, n)
		}
		denies(t, s)
		for i := range names[1:] {
			s = with(s, i, *fields(&right)[i])
			denies(t, s)
		}
	}
	denies(t, api.Super{})
}

// P6.2: bytes that are not as many as an encoding has.
func TestReadLength(t *testing.T) {
	for _, s := range []api.Super{least(), usual(), greatest()} {
		b := spelled("SCANTLIN", 1, s)
		refuses(t, "nothing", nil)
		for n := range 244 {
			refuses(t, "too short", b[:n])
			refuses(t, "too short", b[244-n:])
		}
		for _, n := range []int{1, 4, 8, 12, 244, 1 << 16} {
			refuses(t, "too long", append(bytes.Clone(b), make([]byte, n)...))
			refuses(t, "too long", append(make([]byte, n), b...))
		}
		refuses(t, "twice its beginning", append(b[:56:56], b...))
		refuses(t, "not at the beginning", append([]byte{0}, b[:243]...))
	}
}

// P6.2: what does not begin as an encoding.
func TestReadMagic(t *testing.T) {
	s := usual()
	for _, magic := range []string{"scantlin", "SCANTLIM", "TCANTLIN", "SCANTLI\x00", "\x00CANTLIN", "NILTNACS", "SCANTLN", "\x00\x00\x00\x00\x00\x00\x00\x00", ""} {
		refuses(t, "magic", spelled(magic, 1, s))
	}
	for _, version := range []uint32{0, 2, 3, 255, 256, 257, 1 << 16, 1<<16 + 1, 1 << 24, 1<<24 + 1, 1<<31 + 1, 1<<32 - 1} {
		refuses(t, "version", spelled("SCANTLIN", version, s))
	}
	refuses(t, "zeros", make([]byte, 244))
	refuses(t, "ones", bytes.Repeat([]byte{0xff}, 244))
}

// P6.2: each byte behind the fields is 0.
func TestReadRest(t *testing.T) {
	for _, s := range []api.Super{least(), usual(), greatest()} {
		b := spelled("SCANTLIN", 1, s)
		for at := 56; at < 244; at++ {
			for c := 1; c < 256; c++ {
				b[at] = byte(c)
				refuses(t, "rest", b)
			}
			b[at] = 0
		}
		takes(t, s, b)
	}
}

// P6.2, P6.3: every single byte of an encoding changed to every other one: it
// is then an encoding if only a field changed, and stayed within its bounds.
func TestEachByte(t *testing.T) {
	for _, s := range []api.Super{least(), with(least(), blocksField, 14400), usual(), greatest()} {
		b := spelled("SCANTLIN", 1, s)
		for at := range b {
			old := b[at]
			for c := range 256 {
				b[at] = byte(c)
				x := s
				if at >= 12 && at < 56 {
					i := (at - 12) / 4
					x = with(s, i, int(binary.LittleEndian.Uint32(b[12+4*i:])))
				} else if b[at] != old {
					refuses(t, "beside the fields", b)
					continue
				}
				if keeps(x) {
					takes(t, x, b)
				} else {
					denies(t, x)
					refuses(t, "a field", b)
				}
			}
			b[at] = old
		}
	}
}

// P6.3: from the superblock to the bytes and back, and from the bytes.
func TestRoundTrip(t *testing.T) {
	for _, s := range valid() {
		b, e := super.Put(s)
		if e != api.OK || len(b) != 244 {
			t.Fatalf("%+v: %x, %v", s, b, e)
		}
		out, e := super.Read(b)
		if e != api.OK || out != s {
			t.Fatalf("%+v became %+v, %v", s, out, e)
		}
		if again, e := super.Put(out); e != api.OK || !bytes.Equal(again, b) {
			t.Fatalf("%x became %x, %v", b, again, e)
		}
	}
}

// P6.3: two superblocks have the same encoding only if they are the same.
func TestOneEncodingEach(t *testing.T) {
	seen := map[string]api.Super{}
	for _, s := range valid() {
		b, _ := super.Put(s)
		if other, ok := seen[string(b)]; ok && other != s {
			t.Errorf("%+v and %+v: %x", s, other, b)
		}
		seen[string(b)] = s
	}
}

// P6.2: what Put returns is new.
func TestPutIsNew(t *testing.T) {
	s := usual()
	b, _ := super.Put(s)
	c, _ := super.Put(s)
	for i := range b[:cap(b)] {
		b[:cap(b)][i] = 0xee
	}
	d, _ := super.Put(s)
	if want := spelled("SCANTLIN", 1, s); !bytes.Equal(c, want) || !bytes.Equal(d, want) {
		t.Errorf("another encoding changed: %x, %x", c, d)
	}
}

// P6.2: Read leaves its argument and the bytes behind it, whether it is an
// encoding or not.
func TestReadStays(t *testing.T) {
	whole := append(spelled("SCANTLIN", 1, usual()), bytes.Repeat([]byte{0x5a}, 60)...)
	before := bytes.Clone(whole)
	for range 2 { // a second time: nothing is kept
		if out, e := super.Read(whole[:244]); e != api.OK || out != usual() {
			t.Errorf("%+v, %v", out, e)
		}
		refuses(t, "a part", whole[:100])
		refuses(t, "the bytes behind it too", whole)
	}
	if !bytes.Equal(whole, before) {
		t.Errorf("the bytes changed: %x", whole)
	}
}
