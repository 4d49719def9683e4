package fault

import "slices"

// find reports whether look reports true of e or of an error that e wraps. It
// goes through them in the order of errors.Is and errors.As, but shows look
// each of them alone, and once: those two would never return from an error that
// wraps itself.
func find(e error, look func(error) bool) bool {
	seen := map[error]bool{}
	left := []error{e} // the next one last
	for len(left) > 0 {
		x := left[len(left)-1]
		left = left[:len(left)-1]
		if x == nil || !enter(seen, x) {
			continue
		}
		if look(bare(x)) {
			return true
		}
		left = append(left, wrapped(x)...)
	}
	return false
}

// wrapped returns what x wraps, the first error last.
func wrapped(x error) []error {
	switch w := x.(type) {
	case interface{ Unwrap() error }:
		return []error{w.Unwrap()}
	case interface{ Unwrap() []error }:
		l := slices.Clone(w.Unwrap())
		slices.Reverse(l)
		return l
	}
	return nil
}

// enter records that x has been visited, and reports whether it had not been.
// An error that cannot be a key is not recorded.
func enter(seen map[error]bool, x error) (first bool) {
	defer func() {
		if recover() != nil {
			first = true
		}
	}()
	first = !seen[x]
	seen[x] = true
	return first
}

// bare returns x in such a form that errors.Is and errors.As see nothing that
// it wraps.
func bare(x error) error {
	switch x.(type) {
	case interface{ Unwrap() error }, interface{ Unwrap() []error }:
		return cover{x}
	}
	return x
}

// cover hides what an error wraps, and keeps what the error says of itself.
type cover struct {
	error
}

// Is reports whether the error says that it is n.
func (c cover) Is(n error) bool {
	x, ok := c.error.(interface{ Is(error) bool })
	return ok && x.Is(n)
}

// As reports whether the error says that it is what to points to.
func (c cover) As(to any) bool {
	x, ok := c.error.(interface{ As(any) bool })
	return ok && x.As(to)
}
