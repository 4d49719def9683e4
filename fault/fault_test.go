package fault_test

import (
	"errors"
	"math"
	"slices"
	"strings"
	"testing"

	"scantling/api"
	"scantling/fault"
)

// plain is an error that wraps nothing.
type plain string

func (p plain) Error() string { return string(p) }

// over wraps an error in another type.
type over struct{ in error }

func (o over) Error() string { return "over " + o.in.Error() }
func (o over) Unwrap() error { return o.in }

// many wraps any number of errors. It cannot be compared.
type many []error

func (m many) Error() string   { return "many" }
func (m many) Unwrap() []error { return m }

// single wraps one error, and cannot be compared.
type single []error

func (s single) Error() string { return "single" }
func (s single) Unwrap() error { return s[0] }

// says claims to be an Errno, and wraps an error.
type says struct {
	n  api.Errno
	in error
}

func (s says) Error() string        { return "says" }
func (s says) Unwrap() error        { return s.in }
func (s says) Is(target error) bool { return target == error(s.n) }
func (s says) As(target any) bool {
	p, ok := target.(*api.Errno)
	if ok {
		*p = s.n
	}
	return ok
}

// saysMany is says with any number of errors.
type saysMany struct {
	says
	in []error
}

func (s saysMany) Unwrap() []error { return s.in }

// lies stores an Errno where it says that it has none.
type lies struct{ in error }

func (l lies) Error() string { return "lies" }
func (l lies) Unwrap() error { return l.in }
func (l lies) As(target any) bool {
	*target.(*api.Errno) = api.ErrLoop
	return false
}

// holder is no Fault, but has all that a Fault has.
type holder struct{ *api.Fault }

// ring wraps what it is told to, later.
type ring struct{ in error }

func (r *ring) Error() string { return "ring" }
func (r *ring) Unwrap() error { return r.in }

// itself wraps itself.
type itself struct{}

func (i itself) Error() string { return "itself" }
func (i itself) Unwrap() error { return i }

// The errors of these types panic where they are asked.
type (
	badText   struct{}
	badUnwrap struct{}
	badMany   struct{}
	badIs     struct{ plain }
)

func (badText) Error() string    { panic("text") }
func (badUnwrap) Error() string  { return "bad unwrap" }
func (badUnwrap) Unwrap() error  { panic("unwrap") }
func (badMany) Error() string    { return "bad many" }
func (badMany) Unwrap() []error  { panic(errors.New("many")) }
func (badIs) Is(error) bool      { panic(nil) }
func (badIs) As(target any) bool { panic(target) }

// at is what At is asked for.
func at(block int, e error) error { return &api.Fault{Block: block, Err: e} }

// empty returns a Fault that wraps nothing.
func empty(block int) error { return &api.Fault{Block: block} }

// nilFault returns a pointer to no Fault, which is not a nil error.
func nilFault() error { return (*api.Fault)(nil) }

// numbers returns all numbers of errors, and some that are none.
func numbers() []api.Errno {
	l := []api.Errno{-1, -18, 19, 255, 256, 1 << 32, math.MaxInt, math.MinInt}
	for n := range 19 {
		l = append(l, api.Errno(n))
	}
	return l
}

// blocks returns numbers of blocks, and some that are none.
func blocks() []int {
	return []int{0, 1, 3, 7, 255, 256, 14399, 14400, 1 << 32, -1, -7, math.MaxInt, math.MinInt}
}

// within wraps e in Faults of these blocks, the first one outermost.
func within(l []int, e error) error {
	for _, block := range slices.Backward(l) {
		e = at(block, e)
	}
	return e
}

// coded checks the number of an error, for Code and for Is.
func coded(t *testing.T, what string, e error, want api.Errno) {
	t.Helper()
	if n := fault.Code(e); n != want {
		t.Errorf("%s: Code: %v, not %v", what, n, want)
	}
	for _, n := range numbers() {
		if ok := fault.Is(e, n); ok != (n == want) {
			t.Errorf("%s: Is %v: %v", what, n, ok)
		}
	}
}

// uncoded checks that an error has no number.
func uncoded(t *testing.T, what string, e error) {
	t.Helper()
	if n := fault.Code(e); n != api.ErrNone {
		t.Errorf("%s: Code: %v", what, n)
	}
	for _, n := range numbers() {
		if fault.Is(e, n) {
			t.Errorf("%s: Is %v", what, n)
		}
	}
}

// placed checks where an error is.
func placed(t *testing.T, what string, e error, want ...int) {
	t.Helper()
	if l := fault.Blocks(e); !slices.Equal(l, want) {
		t.Errorf("%s: Blocks: %v, not %v", what, l, want)
	}
}

// told checks the text of an error.
func told(t *testing.T, what string, e error, want string) {
	t.Helper()
	if s := fault.Text(e); s != want {
		t.Errorf("%s: Text: %q, not %q", what, s, want)
	}
}

// The chapter's example.
func TestExample(t *testing.T) {
	e := fault.At(3, fault.At(7, api.ErrSum))
	coded(t, "example", e, api.ErrSum)
	placed(t, "example", e, 3, 7)
	told(t, "example", e, "block 3: block 7: error 4")
}

// P5.1: a Fault with the block, around the error itself.
func TestAt(t *testing.T) {
	f := &api.Fault{Block: 9, Err: api.ErrKey}
	for _, block := range blocks() {
		for _, in := range []error{api.OK, api.ErrArg, api.ErrNone, api.Errno(-5), f, empty(2), nilFault(), plain("p"), over{f}, itself{}} {
			e := fault.At(block, in)
			g, ok := e.(*api.Fault)
			if !ok || g == nil || g.Block != block || g.Err != in {
				t.Fatalf("At(%d, %#v): %#v", block, in, e)
			}
			if fault.At(block, in).(*api.Fault) == g {
				t.Fatalf("At(%d, %#v): the same Fault twice", block, in)
			}
		}
		if e := fault.At(block, nil); e != nil {
			t.Errorf("At(%d, nil): %#v", block, e)
		}
	}
	if *f != (api.Fault{Block: 9, Err: api.ErrKey}) {
		t.Errorf("the wrapped Fault changed: %#v", *f)
	}
}

// P5.1: an error that cannot be compared is wrapped too.
func TestAtUncomparable(t *testing.T) {
	e := fault.At(4, many{api.ErrSum})
	f, ok := e.(*api.Fault)
	if !ok || f.Block != 4 {
		t.Fatalf("%#v", e)
	}
	if m, ok := f.Err.(many); !ok || len(m) != 1 || m[0] != error(api.ErrSum) {
		t.Errorf("%#v", f.Err)
	}
}

// P5.1: the first error that is not nil, itself; OK and a nil pointer are
// errors.
func TestFirst(t *testing.T) {
	f, g := at(1, api.ErrSum), at(1, api.ErrSum)
	for i, c := range []struct {
		l    []error
		want error
	}{
		{nil, nil},
		{[]error{}, nil},
		{[]error{nil}, nil},
		{[]error{nil, nil, nil}, nil},
		{[]error{f}, f},
		{[]error{f, g}, f},
		{[]error{g, f}, g},
		{[]error{nil, g, nil, f}, g},
		{[]error{nil, nil, nil, nil, f}, f},
		{[]error{f, nil}, f},
		{[]error{api.ErrKind, api.ErrArg}, api.ErrKind},
		{[]error{nil, api.OK, api.ErrArg}, api.OK},
		{[]error{nil, nilFault(), f}, nilFault()},
		{[]error{nil, empty(0), f}[:1], nil},
		{[]error{nil, plain("p"), f}, plain("p")},
	} {
		before := slices.Clone(c.l)
		if e := fault.First(c.l...); e != c.want {
			t.Errorf("%d: %#v, not %#v", i, e, c.want)
		}
		if !slices.Equal(c.l, before) {
			t.Errorf("%d: the list changed: %v", i, c.l)
		}
	}
	if e := fault.First(); e != nil {
		t.Errorf("of nothing: %#v", e)
	}
	if m, ok := fault.First(nil, many{f}).(many); !ok || len(m) != 1 || m[0] != f {
		t.Errorf("of what cannot be compared: %#v", m)
	}
}

// P5.2: no error is OK, and nothing else.
func TestCodeNil(t *testing.T) {
	coded(t, "nil", nil, api.OK)
	placed(t, "nil", nil)
	told(t, "nil", nil, "")
}

// P5.2: numbers, by themselves and below other errors.
func TestCode(t *testing.T) {
	for _, n := range numbers() {
		for _, e := range []error{n, at(0, n), at(5, at(5, n)), over{n}, over{over{at(3, n)}}, at(2, over{n}), at(1, over{at(2, over{n})}), single{n}, holder{&api.Fault{Block: 1, Err: n}}} {
			coded(t, "a chain", e, n)
		}
		for _, e := range []error{errors.Join(n), at(8, errors.Join(n)), errors.Join(plain("p"), n), many{nil, at(1, n)}, many{nil, plain("p"), many{}, many{nil}, over{n}}, at(1, many{errors.Join(plain("q"), plain("r")), at(2, many{n})})} {
			coded(t, "a tree", e, n)
		}
	}
}

// P5.2: errors without a number.
func TestCodeNone(t *testing.T) {
	for _, e := range []error{plain("p"), at(1, plain("p")), over{plain("error 4")}, many{}, many{nil, nil}, at(1, many{plain("p"), over{plain("q")}}), errors.New("error 4"), empty(0), at(1, empty(2)), over{empty(4)}, over{nil}, errors.Join(empty(0), empty(1))} {
		uncoded(t, fault.Text(at(0, e)), e)
	}
	coded(t, "no Errno is an Errno", at(1, api.ErrNone), api.ErrNone)
}

// P5.2: of several numbers, Code tells the first that errors.As comes to, and
// Is knows all of them.
func TestCodeOfSeveral(t *testing.T) {
	for i, c := range []struct {
		e    error
		want []api.Errno
	}{
		{errors.Join(api.ErrKey, api.ErrSum), []api.Errno{api.ErrKey, api.ErrSum}},
		{errors.Join(api.ErrSum, api.ErrKey), []api.Errno{api.ErrSum, api.ErrKey}},
		{many{nil, api.OK, api.ErrSum}, []api.Errno{api.OK, api.ErrSum}},
		{many{at(1, many{plain("p"), over{api.ErrDepth}}), api.ErrSum}, []api.Errno{api.ErrDepth, api.ErrSum}},
		{at(3, many{many{many{}, plain("p")}, at(1, at(2, api.ErrLoop)), many{api.ErrSum, api.ErrArg}}), []api.Errno{api.ErrLoop, api.ErrSum, api.ErrArg}},
		{many{many{api.ErrEnd, api.ErrSum}, api.ErrEnd, api.ErrArg}, []api.Errno{api.ErrEnd, api.ErrSum, api.ErrArg}},
	} {
		if n := fault.Code(c.e); n != c.want[0] {
			t.Errorf("%d: Code: %v, not %v", i, n, c.want[0])
		}
		for _, n := range numbers() {
			if ok := fault.Is(c.e, n); ok != slices.Contains(c.want, n) {
				t.Errorf("%d: Is %v: %v", i, n, ok)
			}
		}
	}
}

// P5.2: what an error says of itself counts, before what it wraps.
func TestCodeSaid(t *testing.T) {
	for i, e := range []error{
		says{api.ErrKind, nil},
		says{api.ErrKind, plain("p")},
		at(1, says{api.ErrKind, at(2, plain("p"))}),
		over{says{api.ErrKind, api.ErrKind}},
		saysMany{says{n: api.ErrKind}, nil},
		at(6, saysMany{says{n: api.ErrKind}, []error{plain("p"), nil}}),
		many{plain("p"), says{api.ErrKind, nil}},
	} {
		if n := fault.Code(e); n != api.ErrKind {
			t.Errorf("%d: Code: %v", i, n)
		}
		for _, n := range numbers() {
			if ok := fault.Is(e, n); ok != (n == api.ErrKind) {
				t.Errorf("%d: Is %v: %v", i, n, ok)
			}
		}
	}
	for i, e := range []error{says{api.ErrKind, api.ErrSum}, saysMany{says{n: api.ErrKind}, []error{api.ErrSum}}, says{api.ErrKind, says{api.ErrSum, nil}}} {
		if n := fault.Code(at(1, e)); n != api.ErrKind {
			t.Errorf("%d: Code: %v", i, n)
		}
		if !fault.Is(e, api.ErrKind) || !fault.Is(e, api.ErrSum) || fault.Is(e, api.ErrNone) {
			t.Errorf("%d: Is", i)
		}
	}
	uncoded(t, "a number that is said not to be one", lies{plain("p")})
	uncoded(t, "a number that is said not to be one", at(1, lies{nil}))
	coded(t, "a number behind one that is none", lies{api.ErrSum}, api.ErrSum)
}

// P5.3: the Faults of a chain, outermost first, whatever is between them.
func TestBlocks(t *testing.T) {
	for _, n := range []api.Errno{api.OK, api.ErrSum, -1} {
		placed(t, "a number", n)
		for _, block := range blocks() {
			placed(t, "one block", at(block, n), block)
			placed(t, "two blocks", at(3, at(block, n)), 3, block)
			placed(t, "the same block twice", at(block, at(block, n)), block, block)
		}
		placed(t, "all blocks", within(blocks(), n), blocks()...)
		placed(t, "another type outermost", over{at(4, at(2, n))}, 4, 2)
		placed(t, "another type between", at(4, over{over{at(2, n)}}), 4, 2)
		placed(t, "other types everywhere", over{at(4, over{at(2, over{n})})}, 4, 2)
		placed(t, "an incomparable type between", at(4, single{at(2, single{at(1, n)})}), 4, 2, 1)
	}
	placed(t, "no number", at(1, at(2, plain("p"))), 1, 2)
	placed(t, "no error within", at(1, empty(2)), 1, 2)
	placed(t, "another type", plain("block 3: error 4"))
}

// P5.3: errors.Unwrap does not go on where several errors are wrapped, and what
// has a Fault is not a Fault.
func TestBlocksNoChain(t *testing.T) {
	placed(t, "several", errors.Join(at(1, api.ErrSum)))
	placed(t, "several below", at(5, at(6, many{at(1, api.ErrSum)})), 5, 6)
	placed(t, "a holder", holder{&api.Fault{Block: 4, Err: at(2, api.ErrSum)}}, 2)
	placed(t, "a holder below", at(9, holder{&api.Fault{Block: 4, Err: api.ErrSum}}), 9)
	f := &api.Fault{Block: 7, Err: api.ErrSum}
	placed(t, "a Fault that is said", at(9, aims{f, api.ErrKey}), 9)
}

// aims claims to be a Fault, and wraps an error.
type aims struct {
	f  *api.Fault
	in error
}

func (a aims) Error() string { return "aims" }
func (a aims) Unwrap() error { return a.in }
func (a aims) As(target any) bool {
	p, ok := target.(**api.Fault)
	if ok {
		*p = a.f
	}
	return ok
}

// P5.3: what Blocks returns is the caller's own.
func TestBlocksIsNew(t *testing.T) {
	e := within([]int{5, 6, 7}, api.ErrSum)
	l := fault.Blocks(e)
	for i := range l[:cap(l)] {
		l[:cap(l)][i] = -9
	}
	placed(t, "again", e, 5, 6, 7)
	want := []int{5, 6, 7}
	l = fault.Blocks(e)
	e.(*api.Fault).Block = 8
	if !slices.Equal(l, want) {
		t.Errorf("the blocks changed with the error: %v", l)
	}
	placed(t, "a changed error", e, 8, 6, 7)
}

// P5.3: the texts are the errors' own.
func TestText(t *testing.T) {
	for _, c := range []struct {
		e    error
		want string
	}{
		{api.OK, "error 0"},
		{api.ErrNone, "error 18"},
		{api.Errno(-3), "error -3"},
		{plain("p"), "p"},
		{plain(""), ""},
		{plain("a\nb\x00\xff"), "a\nb\x00\xff"},
		{at(0, api.ErrArg), "block 0: error 1"},
		{at(-7, plain("")), "block -7: "},
		{at(14399, at(14400, plain("p"))), "block 14399: block 14400: p"},
		{over{at(3, api.ErrSum)}, "over block 3: error 4"},
		{at(1, over{at(3, over{api.ErrSum})}), "block 1: over block 3: over error 4"},
		{at(2, errors.Join(api.ErrSum, at(3, api.ErrKey))), "block 2: error 4\nblock 3: error 9"},
		{many{nil}, "many"},
		{single{nil}, "single"},
		{holder{&api.Fault{Block: 4, Err: api.ErrSum}}, "block 4: error 4"},
	} {
		told(t, "a text", c.e, c.want)
		if s := c.e.Error(); s != c.want {
			t.Errorf("%q is told as %q", s, c.want)
		}
	}
	for _, block := range blocks() {
		e := at(block, at(3, api.ErrSum))
		told(t, "a block's text", e, e.Error())
	}
}

// P5.4: Faults around an error leave its number, and precede its own blocks.
func TestWrapping(t *testing.T) {
	f := &api.Fault{Block: 1}
	f.Err = f
	inner := []error{api.OK, api.ErrSum, api.ErrNone, at(4, api.ErrKey), at(4, at(4, plain("p"))), plain("p"), over{at(6, api.ErrEnd)}, many{at(6, api.ErrEnd), api.ErrSum}, many{}, says{api.ErrArg, at(2, api.ErrEnd)}, lies{nil}, empty(3), nilFault(), badUnwrap{}, badMany{}, badIs{}, badText{}, itself{}, f, at(2, f), errors.Join(f)}
	for i, in := range inner {
		code, own := fault.Code(in), fault.Blocks(in)
		var l []int
		for _, block := range blocks() {
			l = append([]int{block}, l...)
			e := in
			for _, b := range slices.Backward(l) {
				e = fault.At(b, e)
			}
			if n := fault.Code(e); n != code {
				t.Errorf("%d: within %v: Code: %v, not %v", i, l, n, code)
			}
			for _, n := range numbers() {
				if ok := fault.Is(e, n); ok != fault.Is(in, n) {
					t.Errorf("%d: within %v: Is %v: %v", i, l, n, ok)
				}
			}
			placed(t, "wrapped", e, slices.Concat(l, own)...)
		}
	}
}

// General rules: Faults that hold nothing, and pointers to none.
func TestEmptyFaults(t *testing.T) {
	for _, e := range []error{nilFault(), empty(0), at(3, nilFault()), at(3, empty(4)), at(3, at(4, nilFault())), holder{}, over{nilFault()}} {
		uncoded(t, "empty", e)
		told(t, "empty", e, "")
	}
	placed(t, "nil", nilFault())
	placed(t, "nil below", at(3, at(4, nilFault())), 3, 4)
	placed(t, "nil below another type", at(3, over{nilFault()}), 3)
	placed(t, "nothing within", at(3, empty(4)), 3, 4)
	placed(t, "a holder of nothing", at(3, holder{}), 3)
}

// General rules: errors whose methods panic.
func TestPanics(t *testing.T) {
	for _, e := range []error{badText{}, badUnwrap{}, badMany{}, badIs{}, over{badText{}}, many{badUnwrap{}}, many{badMany{}}, many{badIs{}}} {
		uncoded(t, "panics", e)
		uncoded(t, "panics below", at(1, over{e}))
		placed(t, "panics", e)
		placed(t, "panics below", at(1, over{at(2, e)}), 1, 2)
	}
	told(t, "no text", badText{}, "")
	told(t, "no text below", at(1, at(2, badText{})), "")
	told(t, "no text below", over{badText{}}, "")
	told(t, "no unwrapping", at(1, badUnwrap{}), "block 1: bad unwrap")
	coded(t, "a number before a panic", many{at(2, api.ErrSum), nil}, api.ErrSum)
	if n := fault.Code(many{at(2, api.ErrSum), badMany{}}); n != api.ErrSum {
		t.Errorf("before a panic: %v", n)
	}
	if !fault.Is(many{at(2, api.ErrSum), badMany{}}, api.ErrSum) {
		t.Error("before a panic: Is")
	}
}

// General rules: calls end for Faults that wrap themselves. Each of them is
// listed once.
func TestLoops(t *testing.T) {
	f := &api.Fault{Block: 5}
	f.Err = f
	uncoded(t, "one Fault", f)
	placed(t, "one Fault", f, 5)
	told(t, "one Fault", f, "")
	g := &api.Fault{Block: 1, Err: at(2, at(3, f))}
	f.Err = g.Err
	uncoded(t, "several Faults", g)
	placed(t, "several Faults", g, 1, 2, 3, 5)
	told(t, "several Faults", g, "")
	f.Err = over{g}
	uncoded(t, "through another type", g)
	placed(t, "through another type", g, 1, 2, 3, 5)
	f.Err = single{g}
	uncoded(t, "through an incomparable type", g)
	placed(t, "through an incomparable type", g, 1, 2, 3, 5)
	told(t, "through an incomparable type", g, "block 1: block 2: block 3: block 5: single")
	f.Err = many{plain("p"), g, f, nil, over{g}}
	uncoded(t, "through several", g)
	placed(t, "through several", g, 1, 2, 3, 5)
	told(t, "through several", g, "block 1: block 2: block 3: block 5: many")
	f.Err = many{plain("p"), g, api.ErrSum, f}
	coded(t, "a number beside", g, api.ErrSum)
	f.Err = says{api.ErrKey, g}
	coded(t, "a number that is said", g, api.ErrKey)
	f.Err = saysMany{says{n: api.ErrKey}, []error{g}}
	if n := fault.Code(g); n != api.ErrKey || fault.Is(g, api.ErrSum) {
		t.Errorf("a number that is said with several: %v", n)
	}
}

// General rules: calls end for errors of other types that wrap themselves.
func TestOtherLoops(t *testing.T) {
	r := &ring{}
	r.in = r
	for _, e := range []error{itself{}, r, over{itself{}}, many{itself{}, r, itself{}}, &ring{over{r}}} {
		uncoded(t, "another type", e)
		placed(t, "another type", e)
		placed(t, "another type below", at(3, at(4, e)), 3, 4)
	}
	told(t, "itself", at(3, itself{}), "block 3: itself")
	told(t, "a ring", at(3, r), "block 3: ring")
	coded(t, "a number behind", many{itself{}, r, api.ErrKey}, api.ErrKey)
}

// twice returns an error that wraps another one twice, depth times over.
func twice(depth int, e error) error {
	for range depth {
		e = &pair{e, e}
	}
	return e
}

// pair wraps two errors.
type pair struct{ a, b error }

func (p *pair) Error() string   { return "pair" }
func (p *pair) Unwrap() []error { return []error{p.a, p.b} }

// General rules: what is wrapped many times over, and what lies deep.
func TestLarge(t *testing.T) {
	uncoded(t, "twice", twice(60, plain("p")))
	coded(t, "twice", at(1, twice(60, api.ErrSum)), api.ErrSum)
	n := 200000
	l := make([]int, n)
	for i := range l {
		l[i] = i - 5
	}
	e := within(l, over{api.ErrKey})
	if c := fault.Code(e); c != api.ErrKey {
		t.Errorf("deep: Code: %v", c)
	}
	if !fault.Is(e, api.ErrKey) || fault.Is(e, api.ErrSum) {
		t.Error("deep: Is")
	}
	if got := fault.Blocks(e); !slices.Equal(got, l) {
		t.Errorf("deep: %d blocks", len(got))
	}
	s := fault.Text(e)
	if !strings.HasPrefix(s, "block -5: block -4: ") || !strings.HasSuffix(s, ": block 199994: over error 9") || strings.Count(s, "block ") != n {
		t.Errorf("deep: a text of %d bytes", len(s))
	}
	var m error = api.ErrDepth
	for range n {
		m = many{plain("p"), m, nil}
	}
	if c := fault.Code(m); c != api.ErrDepth {
		t.Errorf("deep in lists: Code: %v", c)
	}
}

// grow returns an error of depth levels or fewer that the bytes of r decide.
func grow(r *uint32, depth int) error {
	*r = *r*1664525 + 1013904223
	pick := *r >> 24
	n := api.Errno(*r >> 16 & 31)
	if depth == 0 {
		return []error{n, plain("p"), nil, empty(int(n))}[pick%4]
	}
	switch pick % 9 {
	case 0, 1, 2:
		return at(int(n), grow(r, depth-1))
	case 3:
		return over{grow(r, depth-1)}
	case 4:
		return many{grow(r, depth-1), grow(r, depth-1), grow(r, depth-1)}
	case 5:
		return errors.Join(grow(r, depth-1), grow(r, depth-1))
	case 6:
		return says{n, grow(r, depth-1)}
	case 7:
		return saysMany{says{n: n}, []error{grow(r, depth-1), grow(r, depth-1)}}
	}
	return lies{grow(r, depth-1)}
}

// chain returns the blocks of the Faults that errors.Unwrap comes to.
func chain(e error) []int {
	var l []int
	for ; e != nil; e = errors.Unwrap(e) {
		if f, ok := e.(*api.Fault); ok {
			l = append(l, f.Block)
		}
	}
	return l
}

// P5.2, P5.3: for errors of all forms, what package errors finds.
func TestAsErrorsSays(t *testing.T) {
	r := uint32(1)
	for i := range 20000 {
		e := grow(&r, i%7)
		if e == nil {
			continue
		}
		want := api.ErrNone
		var found api.Errno
		if errors.As(e, &found) {
			want = found
		}
		if n := fault.Code(e); n != want {
			t.Fatalf("%#v: Code: %v, not %v", e, n, want)
		}
		for n := range api.Errno(32) {
			if ok := fault.Is(e, n); ok != errors.Is(e, n) {
				t.Fatalf("%#v: Is %v: %v", e, n, ok)
			}
		}
		if l := fault.Blocks(e); !slices.Equal(l, chain(e)) {
			t.Fatalf("%#v: Blocks: %v, not %v", e, l, chain(e))
		}
	}
}

// General rules: the errors that are looked at stay as they are, and a second
// call finds the same.
func TestStays(t *testing.T) {
	whole := many{plain("p"), at(1, plain("q")), at(2, api.ErrSum), api.ErrKey}
	before := slices.Clone(whole)
	f := &api.Fault{Block: 3, Err: whole[:3]}
	for range 2 {
		coded(t, "a list", f, api.ErrSum)
		placed(t, "a list", f, 3)
		told(t, "a list", f, "block 3: many")
	}
	if !slices.Equal(whole, before) {
		t.Errorf("the list changed: %v", whole)
	}
	if m, ok := f.Err.(many); !ok || f.Block != 3 || len(m) != 3 {
		t.Errorf("the Fault changed: %#v", f)
	}
}
