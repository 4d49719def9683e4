// Package code reads and writes unsigned integers of fixed width, least
// significant byte first. See shared/doc/01-code.md.
package code

import "scantling/api"

// Field is an integer and the number of bytes that it occupies.
type Field struct {
	Width, N int
}

// Get returns the integer that is encoded in width bytes at offset at of b.
func Get(b []byte, at, width int) (int, api.Errno) {
	if e := place(b, at, width); e != api.OK {
		return 0, e
	}
	n := int(join(b[at : at+width]))
	if n < 0 { // the highest bit of eight bytes has become the sign
		return 0, api.ErrRange
	}
	return n, api.OK
}

// Put returns a copy of b that holds n in width bytes at offset at.
func Put(b []byte, at, width, n int) ([]byte, api.Errno) {
	if e := place(b, at, width); e != api.OK {
		return nil, e
	}
	if !fits(n, width) {
		return nil, api.ErrRange
	}
	out := make([]byte, len(b))
	copy(out, b)
	copy(out[at:], split(nil, n, width))
	return out, api.OK
}

// Pack returns the encodings of the fields, one after the other.
func Pack(l ...Field) ([]byte, api.Errno) {
	var out []byte
	for _, f := range l {
		if !isWidth(f.Width) {
			return nil, api.ErrArg
		}
		if !fits(f.N, f.Width) {
			return nil, api.ErrRange
		}
		out = split(out, f.N, f.Width)
	}
	return out, api.OK
}

// Unpack returns the integers of the given widths that b begins with.
func Unpack(b []byte, widths ...int) ([]int, api.Errno) {
	var out []int
	at := 0
	for _, width := range widths {
		n, e := Get(b, at, width)
		if e != api.OK {
			return nil, e
		}
		out = append(out, n)
		at += width
	}
	return out, api.OK
}

// Zero reports whether all bytes of b are 0.
func Zero(b []byte) bool {
	for _, c := range b {
		if c != 0 {
			return false
		}
	}
	return true
}

// isWidth reports whether integers of that many bytes exist.
func isWidth(width int) bool {
	return width == 1 || width == 2 || width == 4 || width == 8
}

// fits reports whether n can be encoded in a valid width.
func fits(n, width int) bool {
	return n >= 0 && (width == 8 || n>>(8*width) == 0)
}

// place checks that b has a valid width of bytes at offset at.
func place(b []byte, at, width int) api.Errno {
	if !isWidth(width) {
		return api.ErrArg
	}
	if at < 0 || at > len(b)-width { // at+width could overflow
		return api.ErrEnd
	}
	return api.OK
}

// split appends the encoding of n in a valid width to b. Each width wider
// than a byte writes its low half itself; its high half is the next width.
func split(b []byte, n, width int) []byte {
	switch width {
	case 8:
		b = append(b, byte(n), byte(n>>8), byte(n>>16), byte(n>>24))
		n >>= 32
		fallthrough
	case 4:
		b = append(b, byte(n), byte(n>>8))
		n >>= 16
		fallthrough
	case 2:
		b = append(b, byte(n))
		n >>= 8
		fallthrough
	case 1:
		b = append(b, byte(n))
	}
	return b
}

// join returns the integer that b, of a valid width, encodes. Each width wider
// than a byte reads its low half itself; its high half is the next width.
func join(b []byte) uint64 {
	var n uint64
	shift := 0
	switch len(b) {
	case 8:
		n = uint64(b[0]) | uint64(b[1])<<8 | uint64(b[2])<<16 | uint64(b[3])<<24
		b, shift = b[4:], 32
		fallthrough
	case 4:
		n |= (uint64(b[0]) | uint64(b[1])<<8) << shift
		b, shift = b[2:], shift+16
		fallthrough
	case 2:
		n |= uint64(b[0]) << shift
		b, shift = b[1:], shift+8
		fallthrough
	case 1:
		n |= uint64(b[0]) << shift
	}
	return n
}
