package pool_test

import (
	"cmp"
	"math"
	"math/rand/v2"
	"reflect"
	"slices"
	"testing"

	"scantling/api"
	"scantling/pool"
)

const (
	maxTx   = 1<<31 - 1
	maxTime = 1<<24 - 1
	maxUnit = 65536
	maxData = 65536
	maxDevs = 4096
	maxMaps = 16384
	maxDev  = 1<<24 - 1
	maxKey  = 1<<48 - 1
)

// source returns a random source that is the same in each run.
func source(n uint64) *rand.Rand {
	return rand.New(rand.NewPCG(18, n))
}

// maps returns mappings of virtual blocks, data blocks and times.
func maps(numbers ...int) []api.Map {
	var l []api.Map
	for ; len(numbers) > 0; numbers = numbers[3:] {
		l = append(l, api.Map{V: numbers[0], B: numbers[1], T: numbers[2]})
	}
	return l
}

// many returns n mappings of virtual blocks from v on, to data block 0.
func many(v, n int) []api.Map {
	var l []api.Map
	for i := range n {
		l = append(l, api.Map{V: v + i})
	}
	return l
}

// sample returns a valid pool, whose slices have spare capacity that is not
// empty; the second device has no mappings.
func sample() api.Pool {
	l := maps(2, 7, 1, 5, 39, 0, 6, 0, 4, 99, 98, 97)
	k := maps(0, 7, 5, 1<<40, 7, 2, 1<<40+1, 12, 9, -3, -4, -5)
	devs := []api.Device{
		{Id: 3, Tx: 1, Made: 2, Snapped: 3, Maps: l[:3]},
		{Id: 4, Tx: 8, Made: 1},
		{Id: 90, Tx: 2, Made: 4, Snapped: 4, Maps: k[:3]},
		{Id: 1, Tx: -7, Maps: many(3, 2)},
	}
	return api.Pool{Tx: 9, Time: 5, Unit: 128, Data: 40, Devs: devs[:3]}
}

// with returns the sample after a change.
func with(change func(p *api.Pool)) api.Pool {
	p := sample()
	change(&p)
	return p
}

// keep returns a function that fails if a pool, or the memory behind its slices,
// is no longer what it is now.
func keep(t *testing.T, p api.Pool) func() {
	t.Helper()
	whole := p.Devs[:cap(p.Devs)]
	before := slices.Clone(whole)
	var lists [][]api.Map
	for _, d := range whole {
		lists = append(lists, slices.Clone(d.Maps[:cap(d.Maps)]))
	}
	return func() {
		t.Helper()
		if !reflect.DeepEqual(whole, before) {
			t.Fatalf("devices have changed from %v to %v", before, whole)
		}
		for i, d := range whole {
			if !slices.Equal(d.Maps[:cap(d.Maps)], lists[i]) {
				t.Fatalf("mappings have changed from %v to %v", lists[i], d.Maps[:cap(d.Maps)])
			}
		}
	}
}

// checks checks what Check returns.
func checks(t *testing.T, what string, p api.Pool, want api.Errno) {
	t.Helper()
	same := keep(t, p)
	if e := pool.Check(p); e != want {
		t.Fatalf("%s: %v, not %v", what, e, want)
	}
	same()
}

// around returns numbers within a range, and numbers outside it, of which the
// lowest 8, 16, 32 or 48 bits of some are within it.
func around(least, most int) (in, out []int) {
	in = []int{least, least + 1, (least + most) / 2, most - 1, most}
	out = []int{least - 1, least - 2, -1, -256, -1 << 16, -1 << 31, -1 << 32, -1 << 48, math.MinInt, math.MinInt + 1,
		most + 1, most + 2, most + 256, most + 1<<16, most + 1<<31, most + 1<<32, most + 1<<48, most + 1<<56, math.MaxInt - 1, math.MaxInt}
	return in, out
}

// The chapter's example.
func TestExample(t *testing.T) {
	p := api.Pool{Unit: 1, Data: 3, Devs: []api.Device{{Id: 0, Maps: maps(4, 1, 0)}, {Id: 1, Maps: maps(9, 1, 0)}}}
	if l := pool.Refs(p); !slices.Equal(l, []int{0, 2, 0}) {
		t.Errorf("%v", l)
	}
}

// P18.1: pools that are valid.
func TestValid(t *testing.T) {
	checks(t, "sample", sample(), api.OK)
	checks(t, "smallest", api.Pool{Unit: 1}, api.OK)
	checks(t, "no devices", api.Pool{Unit: 1, Devs: []api.Device{}}, api.OK)
	checks(t, "no mappings", api.Pool{Unit: 1, Devs: []api.Device{{}, {Id: 1, Maps: []api.Map{}}}}, api.OK)
	checks(t, "greatest", api.Pool{Tx: maxTx, Time: maxTime, Unit: maxUnit, Data: maxData, Devs: []api.Device{
		{Id: maxDev, Tx: maxTx, Made: maxTime, Snapped: maxTime, Maps: maps(maxKey, maxData-1, maxTime)}}}, api.OK)
	checks(t, "zero pool", api.Pool{}, api.ErrRange)
}

// P18.1: the numbers of a pool say nothing of those of its devices and mappings,
// and those of a device nothing of those of another one.
func TestUnrelated(t *testing.T) {
	checks(t, "later than the pool", api.Pool{Unit: 1, Data: 9, Devs: []api.Device{
		{Id: 7, Tx: 3, Made: 5, Snapped: 4, Maps: maps(4, 8, maxTime)},
		{Id: 8, Tx: 2, Made: 0, Snapped: maxTime, Maps: maps(4, 8, 0)},
		{Id: 9, Tx: 1, Maps: maps(0, 8, 7, 1, 8, 6, 2, 8, 8, 3, 0, 1, 4, 8, 0)},
	}}, api.OK)
	checks(t, "virtual blocks that begin anew", api.Pool{Unit: 1, Data: 1, Devs: []api.Device{
		{Id: 0, Maps: maps(maxKey-1, 0, 0, maxKey, 0, 0)},
		{Id: 1, Maps: maps(0, 0, 0, maxKey, 0, 0)},
		{Id: 2},
		{Id: 3, Maps: maps(maxKey, 0, 0)},
		{Id: 4, Maps: maps(0, 0, 0)},
		{Id: 5, Maps: maps(0, 0, 0)},
	}}, api.OK)
}

// P18.1: each of the pool's own numbers.
func TestPoolRange(t *testing.T) {
	for _, x := range []struct {
		what        string
		least, most int
		at          func(p *api.Pool) *int
	}{
		{"Tx", 0, maxTx, func(p *api.Pool) *int { return &p.Tx }},
		{"Time", 0, maxTime, func(p *api.Pool) *int { return &p.Time }},
		{"Unit", 1, maxUnit, func(p *api.Pool) *int { return &p.Unit }},
		{"Data", 0, maxData, func(p *api.Pool) *int { return &p.Data }},
	} {
		in, out := around(x.least, x.most)
		for _, n := range in {
			p := api.Pool{Tx: 1, Time: 1, Unit: 1, Data: 1}
			*x.at(&p) = n
			checks(t, x.what, p, api.OK)
		}
		for _, n := range out {
			p := api.Pool{Tx: 1, Time: 1, Unit: 1, Data: 1}
			*x.at(&p) = n
			checks(t, x.what, p, api.ErrRange)
			checks(t, x.what, with(func(p *api.Pool) { *x.at(p) = n }), api.ErrRange)
			checks(t, x.what, with(func(p *api.Pool) { *x.at(p), p.Devs[1].Id = n, 3 }), api.ErrRange)
		}
	}
}

// devices returns n devices with Ids from 0 on, without mappings.
func devices(n int) []api.Device {
	var l []api.Device
	for id := range n {
		l = append(l, api.Device{Id: id})
	}
	return l
}

// P18.1: as many devices as there may be, and more, which precedes an error in
// one of them.
func TestDevices(t *testing.T) {
	for n, want := range map[int]api.Errno{0: api.OK, 1: api.OK, 4095: api.OK, 4096: api.OK, 4097: api.ErrRange, 4098: api.ErrRange, 1<<16 + 1: api.ErrRange} {
		checks(t, "devices", api.Pool{Unit: 1, Devs: devices(n)}, want)
	}
	for n, want := range map[int]api.Errno{2: api.ErrOrder, 4096: api.ErrOrder, 4097: api.ErrRange, 5000: api.ErrRange} {
		checks(t, "devices that do not rise", api.Pool{Unit: 1, Devs: make([]api.Device, n)}, want)
	}
}

// P18.1: as many mappings as there may be, of one device and of all together, and
// more, which precedes an error in one of them.
func TestMappings(t *testing.T) {
	one := func(n int) api.Pool {
		return api.Pool{Unit: 1, Data: 1, Devs: []api.Device{{Maps: many(0, n)}}}
	}
	for n, want := range map[int]api.Errno{16383: api.OK, 16384: api.OK, 16385: api.ErrRange, 16386: api.ErrRange, 1<<16 + 1: api.ErrRange} {
		checks(t, "one device", one(n), want)
		p := one(n)
		p.Devs[0].Maps[0].V = 1
		checks(t, "one device, in no order", p, cmp.Or(want, api.ErrOrder))
		p.Devs = append(devices(9), api.Device{Id: 9, Maps: many(0, n-5)}, api.Device{Id: 10, Maps: many(0, 5)})
		checks(t, "two devices", p, want)
		p.Devs[5].Id = 4
		checks(t, "two devices, in no order", p, cmp.Or(want, api.ErrOrder))
	}
	p := api.Pool{Unit: 1, Data: 1, Devs: devices(maxDevs)}
	for i := range p.Devs {
		p.Devs[i].Maps = many(0, 4)
	}
	checks(t, "all devices", p, api.OK)
	for _, i := range []int{0, 17, maxDevs - 1} {
		p.Devs[i].Maps = many(0, 5)
		checks(t, "all devices", p, api.ErrRange)
		p.Devs[i].Maps = many(0, 4)
	}
	p.Devs[9].Maps[1].V = 0
	checks(t, "all devices, in no order", p, api.ErrOrder)
}

// fields are the numbers of a device, with the greatest that they may be.
func fields(d *api.Device) map[*int]int {
	return map[*int]int{&d.Id: maxDev, &d.Tx: maxTx, &d.Made: maxTime, &d.Snapped: maxTime}
}

// P18.1: each number of each device.
func TestDeviceRange(t *testing.T) {
	for i := range 3 {
		for k := range 4 {
			_, out := around(0, []int{maxDev, maxTx, maxTime, maxTime}[k])
			for _, n := range out {
				checks(t, "device", with(func(p *api.Pool) {
					d := &p.Devs[i]
					*[]*int{&d.Id, &d.Tx, &d.Made, &d.Snapped}[k] = n
				}), api.ErrRange)
			}
		}
	}
	d := api.Device{}
	for at, most := range fields(&d) {
		in, _ := around(0, most)
		for _, n := range in {
			d = api.Device{Id: 1, Tx: 1, Made: 1, Snapped: 1}
			*at = n
			checks(t, "device", api.Pool{Unit: 1, Devs: []api.Device{d}}, api.OK)
		}
	}
}

// P18.1: each number of each mapping; a data block of the pool's, be it the only
// one, or one of as many as there may be.
func TestMapRange(t *testing.T) {
	for _, i := range []int{0, 2} {
		for k := range 3 {
			for field, most := range []int{maxKey, 39, maxTime} {
				_, out := around(0, most)
				for _, n := range out {
					checks(t, "mapping", with(func(p *api.Pool) {
						m := &p.Devs[i].Maps[k]
						*[]*int{&m.V, &m.B, &m.T}[field] = n
					}), api.ErrRange)
				}
			}
		}
	}
	for field, most := range []int{maxKey, 65535, maxTime} {
		in, _ := around(0, most)
		for _, n := range in {
			m := api.Map{V: 1, B: 1, T: 1}
			*[]*int{&m.V, &m.B, &m.T}[field] = n
			checks(t, "mapping", api.Pool{Unit: 1, Data: maxData, Devs: []api.Device{{Maps: []api.Map{m}}}}, api.OK)
		}
	}
	for _, data := range []int{0, 1, 2, 255, 256, 40, maxData} {
		for _, b := range []int{-1, 0, 1, data - 2, data - 1, data, data + 1} {
			want := api.ErrRange
			if b >= 0 && b < data {
				want = api.OK
			}
			checks(t, "data block", api.Pool{Unit: 1, Data: data, Devs: []api.Device{{Maps: maps(1, b, 1)}}}, want)
		}
	}
}

// P18.1: Ids that do not rise, or not strictly.
func TestDeviceOrder(t *testing.T) {
	for i := 1; i < 3; i++ {
		before := sample().Devs[i-1].Id
		for _, id := range []int{before, before - 1, 0} {
			checks(t, "Id", with(func(p *api.Pool) { p.Devs[i].Id = id }), api.ErrOrder)
		}
		checks(t, "Id", with(func(p *api.Pool) { p.Devs[i].Id = before + 1 }), api.OK)
		checks(t, "Id", with(func(p *api.Pool) { p.Devs[i-1].Id = maxDev }), api.ErrOrder)
	}
	for _, x := range []struct {
		a, b int
		want api.Errno
	}{{0, 0, api.ErrOrder}, {0, 1, api.OK}, {1, 0, api.ErrOrder}, {maxDev, maxDev, api.ErrOrder}, {maxDev, 0, api.ErrOrder}, {maxDev - 1, maxDev, api.OK}, {0, maxDev, api.OK}, {255, 256, api.OK}, {256, 255, api.ErrOrder}} {
		checks(t, "two Ids", api.Pool{Unit: 1, Devs: []api.Device{{Id: x.a}, {Id: x.b}}}, x.want)
	}
}

// P18.1: virtual blocks that do not rise, or not strictly, in a device.
func TestMapOrder(t *testing.T) {
	for _, i := range []int{0, 2} {
		for k := 1; k < 3; k++ {
			before := sample().Devs[i].Maps[k-1].V
			for _, v := range []int{before, max(before-1, 0), 0} {
				checks(t, "V", with(func(p *api.Pool) { p.Devs[i].Maps[k].V = v }), api.ErrOrder)
			}
			checks(t, "V", with(func(p *api.Pool) { p.Devs[i].Maps[k].V = before + 1 }), api.OK)
			checks(t, "V", with(func(p *api.Pool) { p.Devs[i].Maps[k-1].V = maxKey }), api.ErrOrder)
		}
	}
	for _, x := range []struct {
		a, b int
		want api.Errno
	}{{0, 0, api.ErrOrder}, {0, 1, api.OK}, {1, 0, api.ErrOrder}, {maxKey, maxKey, api.ErrOrder}, {maxKey, 0, api.ErrOrder}, {maxKey - 1, maxKey, api.OK}, {0, maxKey, api.OK}, {1<<32 + 1, 1 << 32, api.ErrOrder}, {1, 1 << 32, api.OK}} {
		checks(t, "two Vs", api.Pool{Unit: 1, Data: 1, Devs: []api.Device{{Maps: maps(x.a, 0, 0, x.b, 0, 0)}}}, x.want)
	}
}

// flaw is a change of a pool that makes it wrong, and its error.
type flaw struct {
	what string
	make func(p *api.Pool)
	e    api.Errno
}

// flaws returns flaws of the sample in the order in which Check is to find them.
func flaws() []flaw {
	l := []flaw{
		{"Tx", func(p *api.Pool) { p.Tx = -1 }, api.ErrRange},
		{"Time", func(p *api.Pool) { p.Time = -1 }, api.ErrRange},
		{"Unit", func(p *api.Pool) { p.Unit = 0 }, api.ErrRange},
		{"Data", func(p *api.Pool) { p.Data = -1 }, api.ErrRange},
		{"devices", func(p *api.Pool) { p.Devs = append(slices.Clone(p.Devs), make([]api.Device, maxDevs)...) }, api.ErrRange},
		{"mappings", func(p *api.Pool) {
			p.Devs = append(slices.Clone(p.Devs), api.Device{Id: 100, Maps: many(0, maxMaps-5)})
		}, api.ErrRange},
	}
	for i, d := range sample().Devs {
		l = append(l,
			flaw{"Id", func(p *api.Pool) { p.Devs[i].Id = -1 }, api.ErrRange},
			flaw{"device's Tx", func(p *api.Pool) { p.Devs[i].Tx = -1 }, api.ErrRange},
			flaw{"Made", func(p *api.Pool) { p.Devs[i].Made = -1 }, api.ErrRange},
			flaw{"Snapped", func(p *api.Pool) { p.Devs[i].Snapped = -1 }, api.ErrRange})
		if i > 0 {
			l = append(l, flaw{"order of Ids", func(p *api.Pool) { p.Devs[i].Id = p.Devs[i-1].Id }, api.ErrOrder})
		}
		for k := range d.Maps {
			l = append(l,
				flaw{"V", func(p *api.Pool) { p.Devs[i].Maps[k].V = -1 }, api.ErrRange},
				flaw{"B", func(p *api.Pool) { p.Devs[i].Maps[k].B = 40 }, api.ErrRange},
				flaw{"T", func(p *api.Pool) { p.Devs[i].Maps[k].T = -1 }, api.ErrRange})
			if k > 0 {
				l = append(l, flaw{"order of Vs", func(p *api.Pool) { p.Devs[i].Maps[k].V = p.Devs[i].Maps[k-1].V }, api.ErrOrder})
			}
		}
	}
	return l
}

// P18.1: of two errors, the one that is found first.
func TestFirst(t *testing.T) {
	l := flaws()
	for i, x := range l {
		checks(t, x.what, with(x.make), x.e)
		for _, later := range l[i+1:] {
			checks(t, x.what+" before "+later.what, with(func(p *api.Pool) {
				later.make(p)
				x.make(p)
			}), x.e)
		}
	}
}

// found is an error, and where in a pool it is found: at a device, then at one of
// its mappings, then in one step of its check; -1 stands for what precedes them.
type found struct {
	at [3]int
	e  api.Errno
}

// wanted returns what Check is to return, by the first of all errors.
func wanted(p api.Pool) api.Errno {
	var l []found
	rule := func(holds bool, dev, no, step int, e api.Errno) {
		if !holds {
			l = append(l, found{[3]int{dev, no, step}, e})
		}
	}
	rule(0 <= p.Tx && p.Tx <= maxTx, -1, -1, 0, api.ErrRange)
	rule(0 <= p.Time && p.Time <= maxTime, -1, -1, 0, api.ErrRange)
	rule(1 <= p.Unit && p.Unit <= maxUnit, -1, -1, 0, api.ErrRange)
	rule(0 <= p.Data && p.Data <= maxData, -1, -1, 0, api.ErrRange)
	rule(len(p.Devs) <= maxDevs, -1, -1, 0, api.ErrRange)
	for i, d := range p.Devs {
		for at, most := range fields(&d) {
			rule(0 <= *at && *at <= most, i, -1, 0, api.ErrRange)
		}
		rule(i == 0 || d.Id > p.Devs[i-1].Id, i, -1, 1, api.ErrOrder)
		for k, m := range d.Maps {
			rule(0 <= m.V && m.V <= maxKey, i, k, 0, api.ErrRange)
			rule(0 <= m.B && m.B < p.Data, i, k, 0, api.ErrRange)
			rule(0 <= m.T && m.T <= maxTime, i, k, 0, api.ErrRange)
			rule(k == 0 || m.V > d.Maps[k-1].V, i, k, 1, api.ErrOrder)
		}
	}
	if len(l) == 0 {
		return api.OK
	}
	return slices.MinFunc(l, func(x, y found) int { return slices.Compare(x.at[:], y.at[:]) }).e
}

// random returns a valid pool with a few devices and mappings.
func random(r *rand.Rand) api.Pool {
	p := api.Pool{Tx: r.IntN(maxTx + 1), Time: r.IntN(maxTime + 1), Unit: 1 + r.IntN(maxUnit), Data: 1 + r.IntN(20)}
	id := 0
	for range r.IntN(6) {
		id += 1 + r.IntN(3)
		d := api.Device{Id: id, Tx: r.IntN(maxTx + 1), Made: r.IntN(maxTime + 1), Snapped: r.IntN(maxTime + 1)}
		v := r.IntN(4)
		for range r.IntN(7) {
			d.Maps = append(d.Maps, api.Map{V: v, B: r.IntN(p.Data), T: r.IntN(maxTime + 1)})
			v += 1 + r.IntN(3)
		}
		p.Devs = append(p.Devs, d)
	}
	return p
}

// numbers returns all numbers of a pool.
func numbers(p *api.Pool) []*int {
	l := []*int{&p.Tx, &p.Time, &p.Unit, &p.Data}
	for i := range p.Devs {
		d := &p.Devs[i]
		l = append(l, &d.Id, &d.Tx, &d.Made, &d.Snapped)
		for k := range d.Maps {
			m := &d.Maps[k]
			l = append(l, &m.V, &m.B, &m.T)
		}
	}
	return l
}

// spoil sets some of the numbers of a pool, but rarely its own, to others.
func spoil(r *rand.Rand, p *api.Pool) {
	l := numbers(p)
	for range r.IntN(4) {
		at := l[r.IntN(len(l))]
		if r.IntN(9) > 0 && len(l) > 4 {
			at = l[4+r.IntN(len(l)-4)]
		}
		*at = []int{-1, 0, 1, 2, 3, 7, 20, maxTime, maxTime + 1, maxTx, maxTx + 1, maxKey, maxKey + 1, math.MaxInt, math.MinInt}[r.IntN(15)]
	}
}

// P18.1: random pools with several errors, or none.
func TestRandom(t *testing.T) {
	r := source(1)
	times := map[api.Errno]int{}
	for range 60000 {
		p := random(r)
		spoil(r, &p)
		want := wanted(p)
		times[want]++
		if e := pool.Check(p); e != want {
			t.Fatalf("%v: %v, not %v", p, e, want)
		}
	}
	if len(times) != 3 || min(times[api.OK], times[api.ErrRange], times[api.ErrOrder]) < 3000 {
		t.Errorf("one result is rare: %v", times)
	}
}

// equals checks what Same reports of two pools, both ways.
func equals(t *testing.T, what string, a, b api.Pool, want bool) {
	t.Helper()
	one, other := keep(t, a), keep(t, b)
	if got := pool.Same(a, b); got != want {
		t.Fatalf("%s: %v of %v and %v", what, got, a, b)
	}
	if got := pool.Same(b, a); got != want {
		t.Fatalf("%s: %v of %v and %v", what, got, b, a)
	}
	one()
	other()
}

// P18.2: pools are the same if no number of theirs differs, be it by the highest
// bit only, whether they are valid or not.
func TestSame(t *testing.T) {
	equals(t, "sample", sample(), sample(), true)
	n := sample()
	for i := range numbers(&n) {
		for _, other := range []int{-1, 0, 1, math.MaxInt, math.MinInt} {
			changed := with(func(p *api.Pool) { *numbers(p)[i] = other })
			equals(t, "one number", sample(), changed, *numbers(&n)[i] == other)
			equals(t, "itself", changed, changed, true)
		}
		for bit := range 64 {
			changed := with(func(p *api.Pool) { *numbers(p)[i] ^= 1 << bit })
			equals(t, "one bit", sample(), changed, false)
		}
	}
}

// P18.2: pools differ if one has devices, or mappings, that the other one lacks,
// or has them in another order or in another device.
func TestSameLists(t *testing.T) {
	for what, change := range map[string]func(p *api.Pool){
		"no devices":        func(p *api.Pool) { p.Devs = nil },
		"first device":      func(p *api.Pool) { p.Devs = p.Devs[1:] },
		"last device":       func(p *api.Pool) { p.Devs = p.Devs[:2] },
		"middle device":     func(p *api.Pool) { p.Devs = slices.Delete(slices.Clone(p.Devs), 1, 2) },
		"one device more":   func(p *api.Pool) { p.Devs = p.Devs[:4] },
		"a zero device":     func(p *api.Pool) { p.Devs = append(slices.Clone(p.Devs), api.Device{}) },
		"devices reversed":  func(p *api.Pool) { slices.Reverse(p.Devs) },
		"no mappings":       func(p *api.Pool) { p.Devs[0].Maps = nil },
		"first mapping":     func(p *api.Pool) { p.Devs[0].Maps = p.Devs[0].Maps[1:] },
		"last mapping":      func(p *api.Pool) { p.Devs[2].Maps = p.Devs[2].Maps[:2] },
		"one mapping more":  func(p *api.Pool) { p.Devs[2].Maps = p.Devs[2].Maps[:4] },
		"a zero mapping":    func(p *api.Pool) { p.Devs[1].Maps = many(0, 1) },
		"mappings reversed": func(p *api.Pool) { slices.Reverse(p.Devs[0].Maps) },
		"mappings swapped":  func(p *api.Pool) { p.Devs[0].Maps, p.Devs[2].Maps = p.Devs[2].Maps, p.Devs[0].Maps },
		"another device's":  func(p *api.Pool) { p.Devs[0].Maps, p.Devs[1].Maps = nil, p.Devs[0].Maps },
	} {
		equals(t, what, sample(), with(change), false)
		equals(t, what, with(change), with(change), true)
	}
	p := sample()
	p.Devs = p.Devs[:2]
	p.Devs[0].Maps = p.Devs[0].Maps[:2]
	q := sample()
	q.Devs = q.Devs[:2]
	q.Devs[1].Maps = p.Devs[0].Maps[2:3]
	q.Devs[0].Maps = q.Devs[0].Maps[:2]
	equals(t, "mappings moved", p, q, false)
}

// P18.2: nil and empty lists are the same.
func TestSameEmpty(t *testing.T) {
	equals(t, "zero pools", api.Pool{}, api.Pool{Devs: []api.Device{}}, true)
	equals(t, "a zero device", api.Pool{}, api.Pool{Devs: make([]api.Device, 1)}, false)
	equals(t, "no mappings", sample(), with(func(p *api.Pool) { p.Devs[1].Maps = []api.Map{} }), true)
	equals(t, "no mappings", sample(), with(func(p *api.Pool) { p.Devs[1].Maps = many(0, 3)[:0] }), true)
}

// wipe overwrites all that the slices of a pool reach.
func wipe(p api.Pool) {
	for i, d := range p.Devs[:cap(p.Devs)] {
		for k := range d.Maps[:cap(d.Maps)] {
			d.Maps[:cap(d.Maps)][k] = api.Map{V: -9, B: -9, T: -9}
		}
		p.Devs[:cap(p.Devs)][i] = api.Device{Id: -9}
	}
}

// copies checks that Copy returns an equal pool, and that neither of the two is
// changed with the other one.
func copies(t *testing.T, what string, p api.Pool) {
	t.Helper()
	same := keep(t, p)
	c := pool.Copy(p)
	same()
	if !pool.Same(p, c) || !slices.EqualFunc(p.Devs, c.Devs, func(a, b api.Device) bool {
		return slices.Equal(a.Maps, b.Maps)
	}) {
		t.Fatalf("%s: %v, not %v", what, c, p)
	}
	wipe(pool.Copy(p))
	same()
	if !pool.Same(p, c) {
		t.Fatalf("%s: two copies share memory", what)
	}
	last := pool.Copy(p)
	wipe(p)
	if !pool.Same(last, c) {
		t.Fatalf("%s: a copy shares memory with the pool", what)
	}
}

// P18.2: copies of pools that are valid, and of others.
func TestCopy(t *testing.T) {
	copies(t, "zero", api.Pool{})
	copies(t, "no devices", api.Pool{Tx: 1, Time: 2, Unit: 3, Data: 4})
	copies(t, "empty lists", api.Pool{Devs: []api.Device{{Maps: []api.Map{}}, {Maps: many(0, 4)[:0]}}})
	copies(t, "devices without mappings", api.Pool{Devs: devices(300)})
	copies(t, "too many devices", api.Pool{Devs: devices(maxDevs + 1)})
	copies(t, "too many mappings", api.Pool{Devs: []api.Device{{Maps: many(0, maxMaps+1)}}})
	copies(t, "sample", sample())
	for _, x := range flaws() {
		copies(t, x.what, with(x.make))
	}
	r := source(2)
	for range 300 {
		p := random(r)
		spoil(r, &p)
		copies(t, "random", p)
	}
	if p := pool.Copy(sample()); pool.Check(p) != api.OK || p.Devs[2].Maps[1] != (api.Map{V: 1 << 40, B: 7, T: 2}) {
		t.Errorf("%v", p)
	}
}

// P18.2: devices of a copy share no memory, even where those of the pool do.
func TestCopyApart(t *testing.T) {
	l := many(0, 8)
	p := api.Pool{Unit: 1, Data: 1, Devs: []api.Device{{Id: 1, Maps: l[:4]}, {Id: 2, Maps: l[:4]}, {Id: 3, Maps: l[2:6]}}}
	c := pool.Copy(p)
	if !pool.Same(p, c) {
		t.Fatalf("%v", c)
	}
	for i := range c.Devs {
		c := pool.Copy(p)
		d := c.Devs[i].Maps
		for k := range d[:cap(d)] {
			d[:cap(d)][k].V = -9
		}
		for k := range c.Devs {
			if k != i && !slices.Equal(c.Devs[k].Maps, p.Devs[k].Maps) {
				t.Errorf("device %d has changed with device %d", k, i)
			}
		}
	}
}

// P18.3: the number of all mappings, of valid pools and others.
func TestCount(t *testing.T) {
	counts := func(what string, p api.Pool, want int) {
		t.Helper()
		same := keep(t, p)
		if n := pool.Count(p); n != want {
			t.Fatalf("%s: %d, not %d", what, n, want)
		}
		same()
	}
	counts("zero", api.Pool{}, 0)
	counts("no mappings", api.Pool{Unit: 1, Devs: devices(7)}, 0)
	counts("sample", sample(), 6)
	counts("first device only", api.Pool{Devs: []api.Device{{Maps: many(0, 3)}, {}}}, 3)
	counts("last device only", api.Pool{Devs: []api.Device{{}, {Maps: many(0, 4)}}}, 4)
	counts("the same mapping", api.Pool{Devs: []api.Device{{Maps: maps(1, 1, 1, 1, 1, 1)}, {Maps: maps(1, 1, 1)}}}, 3)
	counts("most", api.Pool{Unit: 1, Data: 1, Devs: []api.Device{{Maps: many(0, maxMaps)}}}, maxMaps)
	counts("too many", api.Pool{Devs: []api.Device{{Maps: many(0, maxMaps+1)}, {Maps: many(0, 1<<17)}}}, maxMaps+1+1<<17)
	for _, x := range flaws() {
		if x.what != "mappings" {
			counts(x.what, with(x.make), 6)
		}
	}
}

// counted returns how often each data block is mapped.
func counted(p api.Pool) []int {
	l := make([]int, p.Data)
	for b := range l {
		for _, d := range p.Devs {
			for _, m := range d.Maps {
				if m.B == b {
					l[b]++
				}
			}
		}
	}
	return l
}

// P18.3: how often each data block is mapped.
func TestRefs(t *testing.T) {
	same := sample()
	unchanged := keep(t, same)
	want := make([]int, 40)
	want[0], want[7], want[12], want[39] = 1, 3, 1, 1
	if l := pool.Refs(same); !slices.Equal(l, want) {
		t.Errorf("sample: %v, not %v", l, want)
	}
	unchanged()
	r := source(3)
	for range 3000 {
		p := random(r)
		if l := pool.Refs(p); !slices.Equal(l, counted(p)) {
			t.Fatalf("%v: %v, not %v", p, l, counted(p))
		}
	}
}

// P18.3: no data blocks, as many as there may be, and one that all mappings have.
func TestRefsEdges(t *testing.T) {
	if l := pool.Refs(api.Pool{Unit: 1, Devs: devices(3)}); len(l) != 0 {
		t.Errorf("no data blocks: %v", l)
	}
	for _, data := range []int{1, 255, 256, 257, 14400, maxData} {
		want := make([]int, data)
		if l := pool.Refs(api.Pool{Unit: 1, Data: data}); !slices.Equal(l, want) {
			t.Errorf("no mappings: %d data blocks, not %d", len(l), data)
		}
		want[0]++
		want[data-1] += 2
		p := api.Pool{Unit: 1, Data: data, Devs: []api.Device{{Id: 1, Maps: maps(5, data-1, 0)}, {Id: 2, Maps: maps(5, data-1, 0, 6, 0, 0)}}}
		if l := pool.Refs(p); !slices.Equal(l, want) {
			t.Errorf("%d data blocks: another count", data)
		}
	}
	if l := pool.Refs(api.Pool{Unit: 1, Data: 2, Devs: []api.Device{{Maps: many(9, maxMaps)}}}); !slices.Equal(l, []int{maxMaps, 0}) {
		t.Errorf("most mappings: %v", l)
	}
}

// P18.3: no counts of a pool that is not valid.
func TestRefsInvalid(t *testing.T) {
	if l := pool.Refs(api.Pool{}); len(l) != 0 {
		t.Errorf("zero: %v", l)
	}
	for _, x := range flaws() {
		if l := pool.Refs(with(x.make)); len(l) != 0 {
			t.Errorf("%s: %v", x.what, l)
		}
	}
	for _, data := range []int{-1, math.MinInt, maxData + 1, 1<<32 + 1, math.MaxInt} {
		if l := pool.Refs(api.Pool{Unit: 1, Data: data}); len(l) != 0 {
			t.Errorf("%d data blocks: %v", data, l)
		}
	}
}

// P18.3: the counts are the caller's own.
func TestRefsOwn(t *testing.T) {
	l := pool.Refs(sample())
	for i := range l[:cap(l)] {
		l[:cap(l)][i] = -7
	}
	if l := pool.Refs(sample()); !slices.Equal(l, counted(sample())) {
		t.Errorf("%v", l)
	}
}

// P18.3: the greatest time, wherever it is, in valid pools and others.
func TestLatest(t *testing.T) {
	latest := func(what string, p api.Pool, want int) {
		t.Helper()
		same := keep(t, p)
		if n := pool.Latest(p); n != want {
			t.Fatalf("%s: %d, not %d", what, n, want)
		}
		same()
	}
	latest("zero", api.Pool{}, 0)
	latest("no mappings", api.Pool{Time: 8, Unit: 1, Devs: []api.Device{{Made: 7, Snapped: 6}}}, 0)
	latest("sample", sample(), 9)
	latest("times 0", api.Pool{Devs: []api.Device{{Maps: many(0, 5)}}}, 0)
	for _, i := range []int{0, 2} {
		for k := range 3 {
			for _, n := range []int{10, maxTime, maxTime + 1, 1 << 32, math.MaxInt} {
				latest("raised", with(func(p *api.Pool) { p.Devs[i].Maps[k].T = n }), n)
			}
			for _, n := range []int{-1, -1 << 32, math.MinInt} {
				want := 9
				if i == 2 && k == 2 {
					want = 5
				}
				latest("lowered", with(func(p *api.Pool) { p.Devs[i].Maps[k].T = n }), want)
			}
		}
	}
	latest("negative", api.Pool{Devs: []api.Device{{Maps: maps(1, 1, -1)}, {Maps: maps(1, 1, math.MinInt, 2, 2, -5)}}}, 0)
	latest("one is not negative", api.Pool{Devs: []api.Device{{Maps: maps(1, 1, -1, 2, 2, 3)}, {Maps: maps(1, 1, -9)}}}, 3)
	latest("in no order", api.Pool{Devs: []api.Device{{Id: 5, Maps: maps(7, 0, 4, 7, 0, 6, 1, -1, 5)}, {Id: 5}}}, 6)
	latest("most", api.Pool{Devs: []api.Device{{Maps: append(many(0, maxMaps), api.Map{T: 2})}}}, 2)
}

// finds checks the device with an Id, and that there is one.
func finds(t *testing.T, what string, p api.Pool, id int, want api.Device) {
	t.Helper()
	same := keep(t, p)
	d, ok := pool.Find(p, id)
	if !ok || !pool.Same(api.Pool{Devs: []api.Device{d}}, api.Pool{Devs: []api.Device{want}}) {
		t.Fatalf("%s: %v, %v, not %v", what, d, ok, want)
	}
	for k := range d.Maps[:cap(d.Maps)] {
		d.Maps[:cap(d.Maps)][k].V = -9
	}
	same()
}

// P18.3: each device is found, and is the caller's own.
func TestFind(t *testing.T) {
	finds(t, "first", sample(), 3, sample().Devs[0])
	finds(t, "no mappings", sample(), 4, sample().Devs[1])
	finds(t, "last", sample(), 90, sample().Devs[2])
	p := api.Pool{Unit: 1, Devs: devices(maxDevs + 1)}
	for _, id := range []int{0, 1, 255, 256, 2000, maxDevs - 1, maxDevs} {
		finds(t, "many", p, id, p.Devs[id])
	}
	for _, id := range []int{0, -1, maxDev, maxDev + 1, math.MaxInt, math.MinInt} {
		d := api.Device{Id: id, Tx: 4, Made: 5, Snapped: 6, Maps: maps(3, 2, 1, -3, -2, -1)}
		finds(t, "any Id", with(func(p *api.Pool) { p.Devs[1] = d }), id, d)
	}
}

// P18.3: of several devices with the Id, the first one.
func TestFindFirst(t *testing.T) {
	p := api.Pool{Devs: []api.Device{{Id: 2, Tx: 1}, {Id: 1, Tx: 2, Maps: many(4, 2)}, {Id: 1, Tx: 3, Maps: many(5, 3)}, {Id: 2, Tx: 4}, {Id: 1, Tx: 5}}}
	finds(t, "first", p, 1, api.Device{Id: 1, Tx: 2, Maps: many(4, 2)})
	finds(t, "first", p, 2, api.Device{Id: 2, Tx: 1})
}

// P18.3: no device has the Id.
func TestFindNone(t *testing.T) {
	for what, p := range map[string]api.Pool{"zero": {}, "sample": sample(), "no devices": {Unit: 1, Devs: []api.Device{}}} {
		for _, id := range []int{-1, 0, 1, 2, 5, 89, 91, 3 + 1<<8, 3 + 1<<16, 3 + 1<<24, 3 + 1<<32, -3, math.MaxInt, math.MinInt} {
			same := keep(t, p)
			if d, ok := pool.Find(p, id); ok || !reflect.DeepEqual(d, api.Device{}) {
				t.Errorf("%s: %d: %v, %v", what, id, d, ok)
			}
			same()
		}
	}
}

// P18.4: the counts of the data blocks add up to the number of mappings.
func TestSum(t *testing.T) {
	r := source(4)
	for range 2000 {
		p := random(r)
		sum := 0
		for _, n := range pool.Refs(p) {
			sum += n
		}
		if sum != pool.Count(p) || len(pool.Refs(p)) != p.Data {
			t.Fatalf("%v: the counts add up to %d, not %d", p, sum, pool.Count(p))
		}
	}
}
