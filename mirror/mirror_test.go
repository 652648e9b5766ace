package mirror_test

import (
	"bytes"
	"math"
	"slices"
	"testing"

	"kintsugi/api"
	"kintsugi/disk"
	"kintsugi/mirror"
	"kintsugi/ptr"
	"kintsugi/space"
)

// blocks is how many each disk of a rig has.
const blocks = 9

// rig is a mirror, and what it was made of.
type rig struct {
	m *mirror.Mirror
	d [2]*disk.Disk
	s *space.Space
	p *disk.Power
}

// made is a rig whose disks have noughts.
func made(t *testing.T) rig {
	t.Helper()
	r := rig{p: disk.On()}
	for i := range r.d {
		r.d[i], _ = disk.New(blocks, r.p)
	}
	r.s, _ = space.New(blocks, blocks)
	var e api.Errno
	r.m, e = mirror.New(r.d[0], r.d[1], r.s)
	if e != api.OK || r.m == nil {
		t.Fatalf("New: %v", e)
	}
	return r
}

// some is a block whose bytes differ from their neighbours, and from those of another seed.
func some(seed byte) []byte {
	b := make([]byte, api.Block)
	for i := range b {
		b[i] = byte(7*i) ^ byte(i/256*91) ^ seed
	}
	return b
}

// whole is bytes with the room behind their end.
func whole(b []byte) []byte { return b[:cap(b)] }

// off lets power end.
func off(p *disk.Power) {
	p.Fuse(0)
	p.Step()
}

// meta is a pointer that a block fits, with copies at these addresses.
func meta(block []byte, at ...uint16) api.Ptr {
	return ptr.Seal(api.Ptr{Kind: api.Meta, Obj: 3, Off: 1, Birth: 9, At: [4]uint16(at)}, block)
}

// stored is a rig whose disks have a block's copies, flushed, and its pointer.
func stored(t *testing.T, block []byte, at ...uint16) (rig, api.Ptr) {
	t.Helper()
	r := made(t)
	p := meta(block, at...)
	is(t, "Write", r.m.Write(p, block), api.OK)
	is(t, "Flush", r.m.Flush(), api.OK)
	return r, p
}

// is says where an error is not the one that is wanted.
func is(t *testing.T, what string, got, want api.Errno) {
	t.Helper()
	if got != want {
		t.Errorf("%s: %v, want %v", what, got, want)
	}
}

// reads says where Read does not answer a block.
func reads(t *testing.T, r rig, p api.Ptr, want []byte) {
	t.Helper()
	if b, e := r.m.Read(p); e != api.OK || !bytes.Equal(b, want) {
		t.Errorf("Read: %.8q.., %v, want %.8q..", b, e, want)
	}
}

// fails says where Read does not answer an error, and nothing beside it.
func fails(t *testing.T, r rig, p api.Ptr, want api.Errno) {
	t.Helper()
	if b, e := r.m.Read(p); e != want || len(b) > 0 {
		t.Errorf("Read: %d bytes, %v, want %v", len(b), e, want)
	}
}

// tells says where an address of a disk does not tell a block.
func tells(t *testing.T, d *disk.Disk, addr uint16, want []byte) {
	t.Helper()
	if b, ok := d.Look(addr); !ok || !bytes.Equal(b, want) {
		t.Errorf("%d tells %.8q.., %v, want %.8q..", addr, b, ok, want)
	}
}

// counts says where a disk's count is not the one that is wanted.
func counts(t *testing.T, r rig, on, found, mended int) {
	t.Helper()
	if got := r.m.Count(on); got != (mirror.Count{Found: found, Mended: mended}) {
		t.Errorf("Count(%d): %+v, want %d found, %d mended", on, got, found, mended)
	}
}

// cached says where a disk does not have so many writes that were not flushed.
func cached(t *testing.T, r rig, on, want int) {
	t.Helper()
	if got := r.d[on].Cached(); got != want {
		t.Errorf("%d writes in the cache of %d, want %d", got, on, want)
	}
}

// moves says where the moves are not these.
func moves(t *testing.T, r rig, want ...api.Ptr) {
	t.Helper()
	if got := r.m.Moves(); !slices.Equal(got, want) {
		t.Errorf("%d moves: %v, want %v", len(got), got, want)
	}
}

// sick says where the sick addresses are not these.
func sick(t *testing.T, r rig, want ...place) {
	t.Helper()
	var got []place
	for on := range 2 {
		for addr := range uint16(blocks) {
			if r.s.Is(on, addr) {
				got = append(got, place{on, addr})
			}
		}
	}
	if !slices.Equal(got, want) {
		t.Errorf("sick: %v, want %v", got, want)
	}
}

// The chapter's examples.
func TestExamples(t *testing.T) {
	r, p := stored(t, some(7), 1, 2, 3, 4)
	r.d[0].Rot(1, some(8))
	reads(t, r, p, some(7))
	tells(t, r.d[0], 1, some(7))
	counts(t, r, 0, 1, 1)
	moves(t, r)

	r, p = stored(t, some(7), 1, 2, 3, 4)
	r.d[0].Stick(1)
	reads(t, r, p, some(7))
	sick(t, r, place{0, 1})
	moves(t, r, p)

	r, p = stored(t, some(7), 1, 2, 3, 4)
	for _, c := range placesOf(p) {
		r.d[c.disk].Rot(c.addr, some(8))
	}
	fails(t, r, p, api.EIO)
}

// P8.1: a new mirror counted nothing, and has no moves.
func TestNew(t *testing.T) {
	r := made(t)
	for on := range 2 {
		counts(t, r, on, 0, 0)
		if h := r.m.Health(on); h != mirror.Good {
			t.Errorf("Health(%d): %d", on, h)
		}
	}
	moves(t, r)
	sick(t, r)
}

// P8.1: New's only error is ErrNil, of no disk or no space.
func TestNewNil(t *testing.T) {
	r := made(t)
	for i := range 7 {
		var a, b *disk.Disk
		var s *space.Space
		if i&1 != 0 {
			a = r.d[0]
		}
		if i&2 != 0 {
			b = r.d[1]
		}
		if i&4 != 0 {
			s = r.s
		}
		if m, e := mirror.New(a, b, s); m != nil || e != api.ErrNil {
			t.Errorf("New %03b: %v, %v", i, m, e)
		}
	}
	r.d[0].Die()
	off(r.p)
	small, _ := space.New(1, 1)
	if m, e := mirror.New(r.d[0], r.d[1], small); m == nil || e != api.OK {
		t.Errorf("New of a dead disk, without power: %v", e)
	}
}

// R1: on no mirror each call is ErrNil, ahead of ErrArg, or nothing.
func TestNil(t *testing.T) {
	var m *mirror.Mirror
	p := meta(some(1), 1, 2, 3, 4)
	for _, p := range []api.Ptr{p, {}} {
		for _, block := range [][]byte{some(1), some(2), nil} {
			is(t, "Write", m.Write(p, block), api.ErrNil)
		}
		is(t, "Check", m.Check(p), api.ErrNil)
		fails(t, rig{m: m}, p, api.ErrNil)
	}
	is(t, "Flush", m.Flush(), api.ErrNil)
	m.Clear()
	moves(t, rig{m: m})
	for _, on := range []int{-1, 0, 1, 2} {
		counts(t, rig{m: m}, on, 0, 0)
		if h := m.Health(on); h != mirror.Dead {
			t.Errorf("Health(%d): %d", on, h)
		}
	}
}

// wrongs are pointers that may not be; but for that, the block would fit them.
func wrongs(block []byte) []api.Ptr {
	all := []api.Ptr{
		{At: [4]uint16{1, 2, 3, 4}},
		{Kind: api.Meta},
		{Kind: api.Meta, At: [4]uint16{1, 1, 3, 4}},
		{Kind: api.Meta, At: [4]uint16{1, 2, 4, 4}},
		{Kind: api.Data, At: [4]uint16{1, 2, 3, 0}},
		{Kind: api.Data, At: [4]uint16{1, 0, 3, 4}},
		{Kind: api.Node, At: [4]uint16{1, 2, 3, 4}},
		{Kind: api.Node, Level: 3, At: [4]uint16{1, 2, 3, 4}},
		{Kind: api.Root, Level: 1, At: [4]uint16{1, 2, 3, 4}},
		{Kind: 6, At: [4]uint16{1, 2, 3, 4}},
		{Kind: 255, At: [4]uint16{1, 0, 3, 0}},
	}
	for i := range all {
		all[i] = ptr.Seal(all[i], block)
	}
	return append(all, api.Ptr{})
}

// P8.1 to P8.3, R4: a pointer that may not be is ErrArg, ahead of EIO; no copy is looked at or written.
func TestWrongPointer(t *testing.T) {
	for dead := range 2 {
		r := made(t)
		if dead == 1 {
			r.d[0].Die()
			r.d[1].Die()
		}
		r.p.Fuse(0)
		for _, p := range wrongs(some(1)) {
			fails(t, r, p, api.ErrArg)
			is(t, "Check", r.m.Check(p), api.ErrArg)
			is(t, "Write", r.m.Write(p, some(1)), api.ErrArg)
		}
		for on := range 2 {
			counts(t, r, on, 0, 0)
			cached(t, r, on, 0)
		}
		if !r.p.Is() {
			t.Error("a step was made")
		}
	}
}

// P8.3, R4: a block that does not fit is ErrArg, ahead of EIO, and written nowhere.
func TestWriteMisfit(t *testing.T) {
	p := meta(some(1), 1, 2, 3, 4)
	other := p
	other.Birth++
	for dead := range 2 {
		r := made(t)
		if dead == 1 {
			r.d[0].Die()
			r.d[1].Die()
		}
		r.p.Fuse(0)
		for _, block := range [][]byte{nil, {}, some(2), some(1)[:511], append(some(1), 0), make([]byte, api.Block)} {
			is(t, "Write", r.m.Write(p, block), api.ErrArg)
		}
		is(t, "Write under another tag", r.m.Write(other, some(1)), api.ErrArg)
		short := ptr.Seal(p, some(1)[:511])
		is(t, "Write of too few", r.m.Write(short, some(1)[:511]), api.ErrArg)
		for on := range 2 {
			cached(t, r, on, 0)
		}
		if !r.p.Is() {
			t.Error("a step was made")
		}
	}
}

// P8.3: a block is written to each copy's address, and nowhere else, and waits there for a flush; nothing is counted.
func TestWrite(t *testing.T) {
	for _, at := range ats() {
		for _, kind := range []uint8{api.Data, api.Meta, api.Node, api.Table, api.Root} {
			p := api.Ptr{Kind: kind, At: at, Birth: 1}
			if kind == api.Node {
				p.Level = 2
			}
			if !ptr.May(p) {
				continue
			}
			r := made(t)
			p = ptr.Seal(p, some(3))
			is(t, "Write", r.m.Write(p, some(3)), api.OK)
			var want [2]int
			for on, d := range r.d {
				for addr := range uint16(blocks) {
					if slices.Contains(placesOf(p), place{on, addr}) {
						want[on]++
						tells(t, d, addr, some(3))
					} else {
						tells(t, d, addr, make([]byte, api.Block))
					}
				}
				cached(t, r, on, want[on])
				counts(t, r, on, 0, 0)
			}
			reads(t, r, p, some(3))
		}
	}
}

// P8.3: the copies are written in order, a step each: where the power ends, those ahead of it are written.
func TestWriteInOrder(t *testing.T) {
	p := meta(some(1), 5, 2, 8, 3)
	for n := range 5 {
		r := made(t)
		r.p.Fuse(n)
		want := api.OK
		if n == 0 {
			want = api.EIO
		}
		is(t, "Write", r.m.Write(p, some(1)), want)
		if on := r.p.Is(); on != (n == 4) {
			t.Errorf("Fuse(%d): power %v", n, on)
		}
		for i, c := range placesOf(p) {
			block := some(1)
			if i >= n {
				block = make([]byte, api.Block)
			}
			tells(t, r.d[c.disk], c.addr, block)
		}
	}
}

// P8.3: one write that is OK is enough; none, and Write is EIO.
func TestWriteSome(t *testing.T) {
	for _, c := range []struct {
		dead string
		at   []uint16
		want api.Errno
		n    [2]int
	}{
		{"", []uint16{1, 2, 3, 4}, api.OK, [2]int{2, 2}},
		{"0", []uint16{1, 2, 3, 4}, api.OK, [2]int{0, 2}},
		{"1", []uint16{1, 2, 3, 4}, api.OK, [2]int{2, 0}},
		{"01", []uint16{1, 2, 3, 4}, api.EIO, [2]int{}},
		{"0", []uint16{1, 2, 0, 0}, api.EIO, [2]int{}},
		{"1", []uint16{1, 2, 0, 0}, api.OK, [2]int{2, 0}},
		{"", []uint16{blocks, 2, 0, 0}, api.OK, [2]int{1, 0}},
		{"", []uint16{2, blocks, 0, 0}, api.OK, [2]int{1, 0}},
		{"", []uint16{blocks, math.MaxUint16, blocks, 4}, api.OK, [2]int{0, 1}},
		{"", []uint16{1, math.MaxUint16, blocks, 0}, api.OK, [2]int{1, 0}},
		{"", []uint16{blocks, math.MaxUint16, blocks, 0}, api.EIO, [2]int{}},
		{"1", []uint16{blocks, 0, 3, 0}, api.EIO, [2]int{}},
	} {
		r := made(t)
		for _, on := range c.dead {
			r.d[on-'0'].Die()
		}
		is(t, "Write", r.m.Write(meta(some(1), c.at...), some(1)), c.want)
		for on := range 2 {
			cached(t, r, on, c.n[on])
			counts(t, r, on, 0, 0)
		}
		moves(t, r)
		sick(t, r)
	}
}

// P8.3: both disks are flushed, 0 first; one that is OK is enough.
func TestFlush(t *testing.T) {
	p := meta(some(1), 1, 2, 3, 4)
	for _, c := range []struct {
		dead string
		fuse int
		want api.Errno
		n    [2]int
	}{
		{"", -1, api.OK, [2]int{0, 0}},
		{"", 2, api.OK, [2]int{0, 0}},
		{"", 1, api.OK, [2]int{0, 2}},
		{"", 0, api.EIO, [2]int{2, 2}},
		{"0", -1, api.OK, [2]int{2, 0}},
		{"0", 1, api.OK, [2]int{2, 0}},
		{"0", 0, api.EIO, [2]int{2, 2}},
		{"1", -1, api.OK, [2]int{0, 2}},
		{"1", 0, api.EIO, [2]int{2, 2}},
		{"01", 0, api.EIO, [2]int{2, 2}},
	} {
		r := made(t)
		is(t, "Write", r.m.Write(p, some(1)), api.OK)
		for _, on := range c.dead {
			r.d[on-'0'].Die()
		}
		r.p.Fuse(c.fuse)
		is(t, "Flush", r.m.Flush(), c.want)
		for on := range 2 {
			cached(t, r, on, c.n[on])
			counts(t, r, on, 0, 0)
		}
	}
	r := made(t)
	off(r.p)
	is(t, "Flush without power", r.m.Flush(), api.EIO)
}

// P8.1, P8.2: a good copy is read, and no step is made.
func TestGoodIsNoStep(t *testing.T) {
	r, p := stored(t, some(1), 1, 2, 3, 4)
	r.p.Fuse(0)
	reads(t, r, p, some(1))
	is(t, "Check", r.m.Check(p), api.OK)
	if !r.p.Is() {
		t.Error("a step was made")
	}
	for on := range 2 {
		counts(t, r, on, 0, 0)
	}
}

// P8.1, P8.2: none good: EIO, the copies were found bad, and nothing is mended, or written.
func TestNoneGood(t *testing.T) {
	r, p := stored(t, some(1), 1, 2, 3, 4)
	r.d[0].Rot(1, some(2))
	r.d[0].Bad(2)
	r.d[1].Stick(3)
	r.d[1].Rot(4, make([]byte, api.Block))
	r.p.Fuse(0)
	fails(t, r, p, api.EIO)
	counts(t, r, 0, 2, 0)
	counts(t, r, 1, 2, 0)
	is(t, "Check", r.m.Check(p), api.EIO)
	counts(t, r, 0, 4, 0)
	counts(t, r, 1, 4, 0)
	moves(t, r)
	sick(t, r)
	if !r.p.Is() {
		t.Error("a step was made")
	}
	tells(t, r.d[0], 1, some(2))
	r.d[0].Die()
	fails(t, r, p, api.EIO)
	counts(t, r, 0, 4, 0) // a dead disk's copies are not found bad
	counts(t, r, 1, 6, 0)
}

// P8.5: a block that is read, but does not fit, is not told: neither one under another tag, nor another one under the same.
func TestMisfit(t *testing.T) {
	r, p := stored(t, some(1), 1, 2, 3, 4)
	older := p
	older.Birth--
	fails(t, r, older, api.EIO)
	is(t, "Check", r.m.Check(older), api.EIO)
	fails(t, r, meta(some(2), 1, 2, 3, 4), api.EIO)
	counts(t, r, 0, 6, 0)
	counts(t, r, 1, 6, 0)
	reads(t, r, p, some(1))
	counts(t, r, 0, 6, 0)
}

// P8.1, P8.2: the copies are mended in order, a step each: where the power ends, those ahead of it are mended; the others are sick, though the block is told.
func TestMendInOrder(t *testing.T) {
	for n := range 4 {
		for _, check := range []bool{false, true} {
			r, p := stored(t, some(1), 7, 2, 8, 3)
			bad := placesOf(p)[:3]
			for _, c := range bad {
				r.d[c.disk].Rot(c.addr, some(2))
			}
			r.p.Fuse(n)
			if check {
				is(t, "Check", r.m.Check(p), api.OK)
			} else {
				reads(t, r, p, some(1))
			}
			for i, c := range bad {
				block := some(1)
				if i >= n {
					block = some(2)
				}
				tells(t, r.d[c.disk], c.addr, block)
			}
			if on := r.p.Is(); on != (n == 3) {
				t.Errorf("Fuse(%d): power %v", n, on)
			}
			// Without power nothing is read, so that what was mended stays so, and what was not is sick.
			counts(t, r, 0, 2, min(n, 2))
			counts(t, r, 1, 1, max(n-2, 0))
			if n == 3 {
				moves(t, r)
			} else {
				moves(t, r, p)
			}
		}
	}
}

// P8.1: a mending write that is lost mends nothing: the first of the disk's, as they go in order.
func TestMendLost(t *testing.T) {
	r, p := stored(t, some(1), 7, 2, 8, 3)
	r.d[0].Rot(7, some(2))
	r.d[0].Rot(2, some(2))
	r.d[0].Lose()
	reads(t, r, p, some(1))
	tells(t, r.d[0], 7, some(2))
	tells(t, r.d[0], 2, some(1))
	counts(t, r, 0, 2, 1)
	sick(t, r, place{0, 7})
	moves(t, r, p)
}

// P8.2: what was found bad is mended, though a mending write went astray to it.
func TestMendAstray(t *testing.T) {
	r, p := stored(t, some(1), 7, 2, 8, 3)
	r.d[0].Rot(7, some(2))
	r.d[0].Rot(2, some(2))
	r.d[0].Astray(2)
	is(t, "Check", r.m.Check(p), api.OK)
	tells(t, r.d[0], 7, some(2))
	tells(t, r.d[0], 2, some(1))
	counts(t, r, 0, 2, 1)
	cached(t, r, 0, 2)
	sick(t, r, place{0, 7})
	moves(t, r, p)
}

// P8.1, P8.2: without power no copy is good; disks that have none are not dead.
func TestDark(t *testing.T) {
	r, p := stored(t, some(1), 1, 2, 3, 4)
	off(r.p)
	fails(t, r, p, api.EIO)
	counts(t, r, 0, 2, 0)
	counts(t, r, 1, 2, 0)
	is(t, "Check", r.m.Check(p), api.EIO)
	is(t, "Write", r.m.Write(p, some(1)), api.EIO)
	moves(t, r)
	r.p.Back()
	reads(t, r, p, some(1))
	if h := r.m.Health(0); h != mirror.Hurt {
		t.Errorf("Health: %d", h)
	}
}

// P8.1, P8.2: a copy at an address that there is not is found bad, and can't be mended; no address is sick by that.
func TestNoSuchAddress(t *testing.T) {
	r := made(t)
	p := meta(some(1), math.MaxUint16, blocks, blocks-1, 0)
	is(t, "Write", r.m.Write(p, some(1)), api.OK)
	reads(t, r, p, some(1))
	counts(t, r, 0, 2, 0)
	counts(t, r, 1, 0, 0)
	moves(t, r, p)
	sick(t, r)
	none := meta(some(1), math.MaxUint16, blocks, 0, 0)
	fails(t, r, none, api.EIO)
	is(t, "Check", r.m.Check(none), api.EIO)
	moves(t, r, p)
}

// P8.4: pointers are among the moves each once, in the order in which they came; unlike ones of one block are two.
func TestMoves(t *testing.T) {
	r := made(t)
	var all []api.Ptr
	for i := range uint16(4) {
		p := meta(some(byte(i)), i+1, 0, i+1, 0)
		is(t, "Write", r.m.Write(p, some(byte(i))), api.OK)
		r.d[0].Stick(i + 1)
		all = append(all, p)
	}
	twin := all[0]
	twin.At[1] = 8 // the digest is the same
	for _, p := range []api.Ptr{all[2], all[0], all[2], twin, all[3], all[0], twin, all[1]} {
		reads(t, r, p, some(byte(p.At[0]-1)))
	}
	moves(t, r, all[2], all[0], twin, all[3], all[1])
	sick(t, r, place{0, 1}, place{0, 2}, place{0, 3}, place{0, 4})
	r.m.Clear()
	moves(t, r)
	r.m.Clear()
	sick(t, r, place{0, 1}, place{0, 2}, place{0, 3}, place{0, 4})
	counts(t, r, 0, 9, 1) // the twin's other copy was found once, and mended
	is(t, "Check", r.m.Check(all[1]), api.OK)
	reads(t, r, all[0], some(0))
	moves(t, r, all[1], all[0]) // anew, as they are mended anew
	counts(t, r, 0, 11, 1)
	counts(t, r, 1, 0, 0)
}

// P8.2: a pointer of which two copies stick is among the moves once; both addresses are sick.
func TestMovesTwoCopies(t *testing.T) {
	r, p := stored(t, some(1), 1, 2, 3, 4)
	r.d[0].Stick(1)
	r.d[1].Stick(4)
	is(t, "Check", r.m.Check(p), api.OK)
	moves(t, r, p)
	sick(t, r, place{0, 1}, place{1, 4})
	counts(t, r, 0, 1, 0)
	counts(t, r, 1, 1, 0)
}

// P8.4: Health is Dead, if the disk is dead, whatever was found on it; else Hurt, if anything was found, mended or not; else Good.
func TestHealth(t *testing.T) {
	if mirror.Good != 0 || mirror.Hurt != 1 || mirror.Dead != 2 {
		t.Error("the numbers")
	}
	r, p := stored(t, some(1), 1, 2, 3, 4)
	health := func(what string, a, b uint8) {
		t.Helper()
		if got := [2]uint8{r.m.Health(0), r.m.Health(1)}; got != [2]uint8{a, b} {
			t.Errorf("%s: %v, want %v", what, got, [2]uint8{a, b})
		}
	}
	health("at first", mirror.Good, mirror.Good)
	r.d[1].Rot(4, some(2))
	health("not looked at", mirror.Good, mirror.Good)
	reads(t, r, p, some(1))
	health("not looked at", mirror.Good, mirror.Good)
	is(t, "Check", r.m.Check(p), api.OK)
	health("found, and mended", mirror.Good, mirror.Hurt)
	r.d[1].Die()
	health("dead, and hurt", mirror.Good, mirror.Dead)
	is(t, "Check", r.m.Check(p), api.OK)
	counts(t, r, 1, 1, 1)
	off(r.p)
	health("without power", mirror.Good, mirror.Dead)
	r.d[0].Die()
	health("both dead", mirror.Dead, mirror.Dead)
	for _, on := range []int{math.MinInt, -1, 2, 3, 1 << 32, math.MaxInt} {
		if h := r.m.Health(on); h != mirror.Dead {
			t.Errorf("Health(%d): %d", on, h)
		}
		counts(t, r, on, 0, 0)
	}
}

// R3: neither a block that was handed in nor one that was handed out shows later; the room behind what was handed in stays.
func TestMemory(t *testing.T) {
	r := made(t)
	p := meta(some(1), 1, 2, 3, 4)
	room := append(some(1), 5, 6, 7)
	is(t, "Write", r.m.Write(p, room[:api.Block]), api.OK)
	if !bytes.Equal(room, append(some(1), 5, 6, 7)) {
		t.Error("what was handed in was changed")
	}
	clear(room)
	r.d[0].Rot(1, some(2))
	b, _ := r.m.Read(p)
	clear(whole(b))
	tells(t, r.d[0], 1, some(1))
	tells(t, r.d[0], 2, some(1))
	reads(t, r, p, some(1))

	r.d[0].Stick(1)
	r.d[0].Stick(2)
	reads(t, r, p, some(1))
	got := r.m.Moves()
	clear(got[:cap(got)])
	moves(t, r, p)
	kept := r.m.Moves()
	r.m.Clear()
	other := meta(some(9), 1, 0, 5, 0)
	is(t, "Write", r.m.Write(other, some(9)), api.OK)
	reads(t, r, other, some(9))
	moves(t, r, other)
	if !slices.Equal(kept, []api.Ptr{p}) {
		t.Error("an older answer was changed")
	}
}

// R2: what one mirror counted is nothing to another, nor are its moves.
func TestApart(t *testing.T) {
	r, p := stored(t, some(1), 1, 2, 3, 4)
	other := made(t)
	r.d[0].Stick(1)
	reads(t, r, p, some(1))
	counts(t, other, 0, 0, 0)
	moves(t, other)
	sick(t, other)
	if h := other.m.Health(0); h != mirror.Good {
		t.Errorf("Health: %d", h)
	}
	fails(t, other, p, api.EIO)
}
