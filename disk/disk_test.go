package disk_test

import (
	"bytes"
	"math"
	"slices"
	"testing"

	"kintsugi/api"
	"kintsugi/disk"
)

// full is a block of one byte.
func full(c byte) []byte { return bytes.Repeat([]byte{c}, api.Block) }

// some is a block whose bytes differ from their neighbours, and from those of another seed.
func some(seed byte) []byte {
	b := make([]byte, api.Block)
	for i := range b {
		b[i] = byte(7*i) ^ byte(i/256*91) ^ seed
	}
	return b
}

// torn is a block of which so many of the first bytes are another's.
func torn(over, under []byte, n int) []byte {
	return append(slices.Clone(over[:n]), under[n:]...)
}

// whole is bytes with the room behind their end.
func whole(b []byte) []byte { return b[:cap(b)] }

// made is a disk under power that is on.
func made(t *testing.T, blocks int) (*disk.Disk, *disk.Power) {
	t.Helper()
	p := disk.On()
	d, e := disk.New(blocks, p)
	if e != api.OK || d == nil {
		t.Fatalf("New(%d): %v", blocks, e)
	}
	return d, p
}

// off lets power end.
func off(p *disk.Power) {
	p.Fuse(0)
	p.Step()
}

// is says where an error is not the one that is wanted.
func is(t *testing.T, what string, got, want api.Errno) {
	t.Helper()
	if got != want {
		t.Errorf("%s: %v, want %v", what, got, want)
	}
}

// tells says where an address does not tell what is wanted, when it is read and when it is looked at.
func tells(t *testing.T, d *disk.Disk, addr uint16, want []byte) {
	t.Helper()
	b, e := d.Read(addr)
	if e != api.OK || !bytes.Equal(b, want) {
		t.Errorf("Read(%d): %.8q.., %v, want %.8q..", addr, b, e, want)
	}
	b, ok := d.Look(addr)
	if !ok || !bytes.Equal(b, want) {
		t.Errorf("Look(%d): %.8q.., %v, want %.8q..", addr, b, ok, want)
	}
}

// silent says where an address tells anything.
func silent(t *testing.T, d *disk.Disk, addr uint16) {
	t.Helper()
	if b, e := d.Read(addr); e != api.ErrBad || len(b) > 0 {
		t.Errorf("Read(%d): %d bytes, %v, want ErrBad", addr, len(b), e)
	}
	if b, ok := d.Look(addr); ok || len(b) > 0 {
		t.Errorf("Look(%d): %d bytes, %v, want nothing", addr, len(b), ok)
	}
}

// cached says where there are not so many writes in the cache.
func cached(t *testing.T, d *disk.Disk, want int) {
	t.Helper()
	if got := d.Cached(); got != want {
		t.Errorf("%d writes in the cache, want %d", got, want)
	}
}

// put writes a block that must be taken.
func put(t *testing.T, d *disk.Disk, addr uint16, b []byte) {
	t.Helper()
	is(t, "Write", d.Write(addr, b), api.OK)
}

// flush flushes a disk that must be.
func flush(t *testing.T, d *disk.Disk) {
	t.Helper()
	is(t, "Flush", d.Flush(), api.OK)
}

// The chapter's examples.
func TestExamples(t *testing.T) {
	d, _ := made(t, 8)
	put(t, d, 3, full('a'))
	tells(t, d, 3, full('a'))
	d.Crash(nil)
	tells(t, d, 3, full(0))

	put(t, d, 3, full('a'))
	flush(t, d)
	put(t, d, 3, full('b'))
	d.Crash([]int{6})
	tells(t, d, 3, torn(full('b'), full('a'), 4))

	d, _ = made(t, 8)
	d.Lose()
	put(t, d, 3, full('a'))
	tells(t, d, 3, full(0))
}

// P4.1: power without a fuse ends by no step.
func TestOn(t *testing.T) {
	p := disk.On()
	for i := range 10000 {
		if !p.Is() || !p.Step() {
			t.Fatalf("off at step %d", i)
		}
	}
}

// P4.1: as many steps as the fuse says are made, and no more; it is off with the first that is not.
func TestFuse(t *testing.T) {
	for _, n := range []int{0, 1, 2, 3, 100} {
		p := disk.On()
		p.Fuse(n)
		for i := range n {
			if !p.Step() {
				t.Errorf("Fuse(%d): step %d not made", n, i)
			}
		}
		if !p.Is() {
			t.Errorf("Fuse(%d): off ahead of the step that is not made", n)
		}
		for range 3 {
			if p.Step() || p.Is() {
				t.Errorf("Fuse(%d): on behind its end", n)
			}
		}
	}
	p := disk.On()
	p.Fuse(math.MaxInt)
	for range 1000 {
		if !p.Step() {
			t.Fatal("the longest fuse ended")
		}
	}
}

// P4.1: a fuse below 0 is none, and takes away the one that was; another one stands in its place.
func TestFuseAnew(t *testing.T) {
	for _, n := range []int{-1, -2, math.MinInt} {
		p := disk.On()
		p.Fuse(1)
		p.Fuse(n)
		for range 100 {
			if !p.Step() {
				t.Fatalf("Fuse(%d) is a fuse", n)
			}
		}
	}
	p := disk.On()
	p.Fuse(0)
	p.Fuse(2)
	if !p.Step() || !p.Step() || p.Step() {
		t.Error("a longer fuse")
	}
	p = disk.On()
	p.Fuse(5)
	p.Step()
	p.Fuse(1)
	if !p.Step() || p.Step() {
		t.Error("a shorter fuse")
	}
}

// P4.1: power that is off takes no fuse; what comes back has none.
func TestBack(t *testing.T) {
	p := disk.On()
	off(p)
	for _, n := range []int{-1, 0, 1, 5} {
		p.Fuse(n)
		if p.Is() || p.Step() {
			t.Fatalf("Fuse(%d) brought it back", n)
		}
	}
	p.Fuse(0)
	p.Back()
	for range 100 {
		if !p.Is() || !p.Step() {
			t.Fatal("back with a fuse")
		}
	}
	p.Fuse(1)
	p.Back() // while it is on
	for range 100 {
		if !p.Step() {
			t.Fatal("back, while it was on, with its fuse")
		}
	}
}

// P4.1, R2: of two powers neither knows of the other.
func TestTwoPowers(t *testing.T) {
	p, q := disk.On(), disk.On()
	off(p)
	if p.Is() || !q.Is() || !q.Step() {
		t.Error("the other one")
	}
}

// P4.1, R1: of nil.
func TestNoPower(t *testing.T) {
	var p *disk.Power
	p.Fuse(3)
	p.Back()
	if p.Step() || p.Is() {
		t.Error("nil is on")
	}
}

// P4.2, P4.5: as many blocks as were asked for, all noughts.
func TestNew(t *testing.T) {
	for _, n := range []int{1, 2, 511, 512, 513, 4095, 4096} {
		d, _ := made(t, n)
		if d.Blocks() != n || d.Cached() != 0 || d.Dead() {
			t.Errorf("%d blocks: %d, %d cached, dead %v", n, d.Blocks(), d.Cached(), d.Dead())
		}
		tells(t, d, 0, full(0))
		tells(t, d, uint16(n-1), full(0))
		_, e := d.Read(uint16(n))
		is(t, "Read behind the end", e, api.ErrArg)
	}
	d, _ := made(t, 64)
	for a := range uint16(64) {
		tells(t, d, a, full(0))
	}
}

// P4.2: New's errors, in their order.
func TestNewErrors(t *testing.T) {
	dark := disk.On()
	off(dark)
	for _, c := range []struct {
		blocks int
		p      *disk.Power
		want   api.Errno
	}{
		{8, nil, api.ErrNil},
		{0, nil, api.ErrNil},
		{8, dark, api.ErrDead},
		{0, dark, api.ErrDead},
		{0, disk.On(), api.ErrArg},
		{-1, disk.On(), api.ErrArg},
		{math.MinInt, disk.On(), api.ErrArg},
		{4097, disk.On(), api.ErrArg},
		{1 << 16, disk.On(), api.ErrArg},
		{1<<16 + 1, disk.On(), api.ErrArg},
		{math.MaxInt, disk.On(), api.ErrArg},
	} {
		d, e := disk.New(c.blocks, c.p)
		if e != c.want || d != nil {
			t.Errorf("New(%d): %v, %v, want none, %v", c.blocks, d, e, c.want)
		}
	}
}

// P4.2: New is no step.
func TestNewIsNoStep(t *testing.T) {
	p := disk.On()
	p.Fuse(0)
	if _, e := disk.New(1, p); e != api.OK || !p.Is() {
		t.Error(e)
	}
}

// P4.2: each address has a block of its own, written to by its number, in the cache and behind a flush.
func TestAllAddresses(t *testing.T) {
	d, _ := made(t, api.MaxBlocks)
	blockOf := func(a uint16) []byte { return torn([]byte{byte(a), byte(a >> 8)}, some(1), 2) }
	for a := range uint16(api.MaxBlocks) {
		put(t, d, a, blockOf(a))
	}
	cached(t, d, api.MaxBlocks)
	for a := range uint16(api.MaxBlocks) {
		if a%97 == 0 || a > 4090 {
			tells(t, d, a, blockOf(a))
		}
	}
	flush(t, d)
	cached(t, d, 0)
	for a := range uint16(api.MaxBlocks) {
		tells(t, d, a, blockOf(a))
	}
}

// P4.2: what an address tells is the last write to it, in the cache, and behind a flush.
func TestLastWrite(t *testing.T) {
	d, _ := made(t, 4)
	put(t, d, 1, some(1))
	put(t, d, 2, some(2))
	put(t, d, 1, some(3))
	put(t, d, 3, some(4))
	put(t, d, 1, some(5))
	cached(t, d, 5)
	for range 2 {
		tells(t, d, 0, full(0))
		tells(t, d, 1, some(5))
		tells(t, d, 2, some(2))
		tells(t, d, 3, some(4))
		flush(t, d)
		cached(t, d, 0)
	}
	put(t, d, 1, full(0)) // noughts, over what there is
	tells(t, d, 1, full(0))
	flush(t, d)
	tells(t, d, 1, full(0))
}

// P4.2: an address that there is not; bytes that are not Block; nothing comes of it.
func TestWrongArguments(t *testing.T) {
	d, p := made(t, 4)
	put(t, d, 3, some(1))
	d.Lose()
	d.Astray(2)
	p.Fuse(2)
	for _, a := range []uint16{4, 5, 512, 4095, 4096, math.MaxUint16} {
		_, e := d.Read(a)
		is(t, "Read", e, api.ErrArg)
		is(t, "Write", d.Write(a, some(2)), api.ErrArg)
		is(t, "Write of too few", d.Write(a, nil), api.ErrArg)
		if b, ok := d.Look(a); ok || len(b) > 0 {
			t.Errorf("Look(%d) tells", a)
		}
	}
	for _, n := range []int{0, 1, 511, 513, 1024} {
		is(t, "Write", d.Write(3, make([]byte, n)), api.ErrArg)
	}
	is(t, "Write of nil", d.Write(3, nil), api.ErrArg)
	is(t, "Write with room", d.Write(3, make([]byte, 511, 512)), api.ErrArg)
	cached(t, d, 1)
	tells(t, d, 3, some(1))
	// It is armed as it was, and no step was made.
	put(t, d, 0, some(3))
	tells(t, d, 0, full(0))
	put(t, d, 0, some(4))
	tells(t, d, 2, some(4))
	is(t, "the third step", d.Write(0, some(5)), api.ErrDead)
}

// P4.2: a write and a flush are a step each, an empty one too; a read, a look and a fault are none.
func TestSteps(t *testing.T) {
	d, p := made(t, 4)
	p.Fuse(3)
	put(t, d, 1, some(1))
	flush(t, d)
	for range 5 {
		tells(t, d, 1, some(1))
		d.Rot(2, some(2))
		d.Bad(2)
		d.Stick(3)
		d.Lose()
		d.Crash(nil)
		d.Cached()
	}
	flush(t, d)
	if !p.Is() {
		t.Error("off")
	}
	is(t, "Flush", d.Flush(), api.ErrDead)
	if p.Is() {
		t.Error("on")
	}
}

// P4.2, R4: a write or a flush whose step is not made changes nothing but the power.
func TestStepNotMade(t *testing.T) {
	d, p := made(t, 4)
	put(t, d, 1, some(1))
	d.Lose()
	d.Astray(2)
	p.Fuse(0)
	is(t, "Write", d.Write(1, some(2)), api.ErrDead)
	p.Back()
	p.Fuse(0)
	is(t, "Flush", d.Flush(), api.ErrDead)
	p.Back()
	cached(t, d, 1)
	tells(t, d, 1, some(1))
	put(t, d, 0, some(3)) // lost, as it was armed
	cached(t, d, 1)
	put(t, d, 0, some(4)) // led astray, as it was armed
	tells(t, d, 2, some(4))
	tells(t, d, 0, full(0))
	d.Crash(nil)
	tells(t, d, 1, full(0)) // it was not flushed
}

// P4.2: disks under one power end together, and count their steps together.
func TestSharedPower(t *testing.T) {
	p := disk.On()
	c, _ := disk.New(2, p)
	d, _ := disk.New(3, p)
	p.Fuse(3)
	put(t, c, 0, some(1))
	put(t, d, 0, some(2))
	flush(t, c)
	is(t, "Write", d.Write(1, some(3)), api.ErrDead)
	for _, x := range []*disk.Disk{c, d} {
		_, e := x.Read(0)
		is(t, "Read", e, api.ErrDead)
		is(t, "Write", x.Write(0, some(4)), api.ErrDead)
		is(t, "Flush", x.Flush(), api.ErrDead)
	}
	p.Back()
	tells(t, c, 0, some(1))
	tells(t, d, 0, some(2))
	cached(t, c, 0)
	cached(t, d, 1)
	tells(t, d, 1, full(0))
	c.Die()
	tells(t, d, 0, some(2)) // the other one lives
}

// P4.2: the errors of Read, Write and Flush, in their order.
func TestErrorsOrder(t *testing.T) {
	var no *disk.Disk
	dead, _ := made(t, 4)
	dead.Bad(1)
	dead.Die()
	dark, p := made(t, 4)
	dark.Bad(1)
	off(p)
	for _, c := range []struct {
		what string
		d    *disk.Disk
		want api.Errno
	}{{"nil", no, api.ErrNil}, {"dead", dead, api.ErrDead}, {"dark", dark, api.ErrDead}} {
		for _, a := range []uint16{0, 1, 4} { // one that tells, one that does not, one that there is not
			b, e := c.d.Read(a)
			is(t, c.what+": Read", e, c.want)
			if len(b) > 0 {
				t.Errorf("%s: bytes beside the error", c.what)
			}
			is(t, c.what+": Write", c.d.Write(a, some(1)), c.want)
			is(t, c.what+": Write of too few", c.d.Write(a, nil), c.want)
		}
		is(t, c.what+": Flush", c.d.Flush(), c.want)
	}
	// A dead disk makes no step, nor does one that is asked for what there is not.
	d, p := made(t, 4)
	p.Fuse(0)
	is(t, "Write", d.Write(4, some(1)), api.ErrArg)
	is(t, "Write of too few", d.Write(0, nil), api.ErrArg)
	_, e := d.Read(4)
	is(t, "Read", e, api.ErrArg)
	d.Die()
	is(t, "Write to a dead one", d.Write(0, some(1)), api.ErrDead)
	is(t, "Flush of a dead one", d.Flush(), api.ErrDead)
	if !p.Is() {
		t.Error("a step")
	}
}

// P4.3: each pick: gone, there, torn at each place.
func TestPicks(t *testing.T) {
	for _, c := range []struct{ pick, n int }{
		{math.MinInt, 0}, {-1, 0}, {0, 0}, {1, 512}, {2, 0}, {3, 1}, {6, 4}, {257, 255}, {258, 256}, {259, 257}, {512, 510}, {513, 511},
		{514, 0}, {515, 1}, {1025, 511}, {1026, 0}, {1 << 20, (1<<20 - 2) % 512}, {math.MaxInt, (math.MaxInt - 2) % 512},
	} {
		d, _ := made(t, 4)
		put(t, d, 2, some(1))
		flush(t, d)
		put(t, d, 2, some(2))
		d.Crash([]int{c.pick})
		tells(t, d, 2, torn(some(2), some(1), c.n))
		cached(t, d, 0)
	}
	for n := range api.Block {
		d, _ := made(t, 1)
		put(t, d, 0, some(1))
		d.Crash([]int{n + 2})
		tells(t, d, 0, torn(some(1), full(0), n))
	}
}

// P4.3: each write has the pick of its place; where none is, it is gone; picks of no write are none.
func TestPickOfEach(t *testing.T) {
	d, _ := made(t, 8)
	for a := range uint16(5) {
		put(t, d, a, some(byte(a+1)))
	}
	d.Crash([]int{1, 0, 12, 1})
	tells(t, d, 0, some(1))
	tells(t, d, 1, full(0))
	tells(t, d, 2, torn(some(3), full(0), 10))
	tells(t, d, 3, some(4))
	tells(t, d, 4, full(0))
	cached(t, d, 0)

	put(t, d, 5, some(6))
	d.Crash([]int{0, 1, 1, 1})
	tells(t, d, 5, full(0))
	d.Crash([]int{1, 1, 1}) // with no write at all
	tells(t, d, 5, full(0))
	tells(t, d, 0, some(1))
}

// P4.3: writes to one address come to their block in order, over one another.
func TestCrashInOrder(t *testing.T) {
	for _, c := range []struct {
		picks []int
		want  []byte
	}{
		{[]int{1, 1, 1}, some(3)},
		{[]int{1, 1, 0}, some(2)},
		{[]int{1, 0, 102}, torn(some(3), some(1), 100)},
		{[]int{1, 202, 102}, torn(some(3), torn(some(2), some(1), 200), 100)},
		{[]int{1, 102, 202}, torn(some(3), some(1), 200)},
		{[]int{0, 102, 0}, torn(some(2), some(9), 100)},
		{[]int{1}, some(1)},
		{[]int{0, 0, 1}, some(3)},
		{nil, some(9)},
	} {
		d, _ := made(t, 2)
		put(t, d, 1, some(9))
		flush(t, d)
		for i := range byte(3) {
			put(t, d, 1, some(i+1))
		}
		d.Crash(c.picks)
		tells(t, d, 1, c.want)
	}
}

// P4.3: a write that comes, wholly or torn, even of no bytes, makes a bad address tell its block again; one that is gone does not.
func TestCrashMendsBad(t *testing.T) {
	for _, c := range []struct {
		pick int
		want []byte
	}{{0, nil}, {1, some(2)}, {2, some(1)}, {52, torn(some(2), some(1), 50)}} {
		d, _ := made(t, 2)
		put(t, d, 1, some(1))
		flush(t, d)
		is(t, "Bad", d.Bad(1), api.OK)
		silent(t, d, 1)
		put(t, d, 1, some(2))
		tells(t, d, 1, some(2))
		d.Crash([]int{c.pick})
		if c.want == nil {
			silent(t, d, 1)
		} else {
			tells(t, d, 1, c.want)
		}
	}
}

// P4.3: a crash disarms.
func TestCrashDisarms(t *testing.T) {
	d, _ := made(t, 4)
	d.Lose()
	d.Astray(2)
	d.Crash(nil)
	put(t, d, 1, some(1))
	put(t, d, 0, some(2))
	tells(t, d, 1, some(1))
	tells(t, d, 0, some(2))
	tells(t, d, 2, full(0))
}

// P4.3: a crash without power; it stays off.
func TestCrashDark(t *testing.T) {
	d, p := made(t, 4)
	put(t, d, 1, some(1))
	put(t, d, 2, some(2))
	off(p)
	cached(t, d, 2)
	d.Crash([]int{0, 1})
	cached(t, d, 0)
	if p.Is() {
		t.Error("the power is on")
	}
	if b, ok := d.Look(2); !ok || !bytes.Equal(b, some(2)) {
		t.Error("Look without power")
	}
	p.Back()
	tells(t, d, 1, full(0))
	tells(t, d, 2, some(2))
	d.Crash(nil)
	if !p.Is() {
		t.Error("a crash ends no power")
	}
}

// P4.3: of a dead disk nothing, nor of nil.
func TestCrashDead(t *testing.T) {
	d, _ := made(t, 4)
	put(t, d, 1, some(1))
	d.Die()
	d.Crash([]int{1})
	cached(t, d, 1)
	var no *disk.Disk
	no.Crash([]int{1})
}

// P4.4: a block that rots, again and again, and is written anew.
func TestRot(t *testing.T) {
	d, _ := made(t, 4)
	put(t, d, 1, some(1))
	flush(t, d)
	for i := range byte(3) {
		is(t, "Rot", d.Rot(1, some(i+2)), api.OK)
		tells(t, d, 1, some(i+2))
	}
	tells(t, d, 0, full(0))
	tells(t, d, 2, full(0))
	d.Crash(nil) // it rots what is flushed
	tells(t, d, 1, some(4))
	put(t, d, 1, some(5))
	flush(t, d)
	tells(t, d, 1, some(5))
}

// P4.4: a rotten address is bad as it was, stuck as it was, and its bytes are there when it is no more.
func TestRotOfBad(t *testing.T) {
	d, _ := made(t, 4)
	d.Bad(1)
	is(t, "Rot", d.Rot(1, some(1)), api.OK)
	silent(t, d, 1)
	put(t, d, 1, some(2))
	d.Crash([]int{2 + 30})
	tells(t, d, 1, torn(some(2), some(1), 30))
	d.Stick(2)
	is(t, "Rot", d.Rot(2, some(1)), api.OK)
	silent(t, d, 2)
}

// P4.4: a bad address tells nothing until it is written; what its block had is behind a torn write.
func TestBad(t *testing.T) {
	d, _ := made(t, 4)
	put(t, d, 1, some(1))
	flush(t, d)
	is(t, "Bad", d.Bad(1), api.OK)
	is(t, "Bad again", d.Bad(1), api.OK)
	silent(t, d, 1)
	tells(t, d, 0, full(0))
	tells(t, d, 2, full(0))
	flush(t, d) // with no write to it
	silent(t, d, 1)
	put(t, d, 1, some(2))
	tells(t, d, 1, some(2))
	d.Crash(nil)
	silent(t, d, 1) // it never came to its block
	put(t, d, 1, some(3))
	flush(t, d)
	tells(t, d, 1, some(3))
	d.Crash(nil)
	tells(t, d, 1, some(3))
}

// P4.4: a stuck address tells nothing any more, whatever is written, flushed, crashed or rots.
func TestStick(t *testing.T) {
	d, p := made(t, 4)
	put(t, d, 1, some(1))
	flush(t, d)
	is(t, "Stick", d.Stick(1), api.OK)
	silent(t, d, 1)
	put(t, d, 1, some(2))
	cached(t, d, 1)
	silent(t, d, 1)
	flush(t, d)
	cached(t, d, 0)
	silent(t, d, 1)
	put(t, d, 1, some(2))
	d.Crash([]int{1})
	silent(t, d, 1)
	d.Bad(1)
	d.Rot(1, some(3))
	d.Stick(1)
	off(p)
	p.Back()
	silent(t, d, 1)
	tells(t, d, 0, full(0))
	tells(t, d, 2, full(0))
}

// P4.4: writes to it, all of them, are gone from the cache; those to others stay, in their order.
func TestFaultForgetsWrites(t *testing.T) {
	for what, fault := range map[string]func(d *disk.Disk) api.Errno{
		"rot":   func(d *disk.Disk) api.Errno { return d.Rot(1, some(99)) },
		"bad":   func(d *disk.Disk) api.Errno { return d.Bad(1) },
		"stick": func(d *disk.Disk) api.Errno { return d.Stick(1) },
	} {
		d, _ := made(t, 4)
		put(t, d, 1, some(1))
		put(t, d, 2, some(2))
		put(t, d, 1, some(3))
		put(t, d, 3, some(4))
		put(t, d, 2, some(5))
		put(t, d, 1, some(6))
		is(t, what, fault(d), api.OK)
		cached(t, d, 3)
		tells(t, d, 2, some(5))
		tells(t, d, 3, some(4))
		if what == "rot" {
			tells(t, d, 1, some(99))
		} else {
			silent(t, d, 1)
		}
		put(t, d, 0, some(7))
		d.Crash([]int{1, 12, 22, 1}) // of the writes that are left
		tells(t, d, 3, torn(some(4), full(0), 10))
		tells(t, d, 2, torn(some(5), some(2), 20))
		tells(t, d, 0, some(7))
	}
}

// P4.4: the errors of a fault, in their order; nothing comes of it.
func TestFaultErrors(t *testing.T) {
	var no *disk.Disk
	for _, a := range []uint16{0, 9} {
		is(t, "Rot of nil", no.Rot(a, nil), api.ErrNil)
		is(t, "Bad of nil", no.Bad(a), api.ErrNil)
		is(t, "Stick of nil", no.Stick(a), api.ErrNil)
	}
	no.Lose()
	no.Astray(0)
	no.Die()
	d, _ := made(t, 4)
	put(t, d, 3, some(1))
	for _, a := range []uint16{4, 5, 4096, math.MaxUint16} {
		is(t, "Rot", d.Rot(a, some(2)), api.ErrArg)
		is(t, "Rot by too few", d.Rot(a, nil), api.ErrArg)
		is(t, "Bad", d.Bad(a), api.ErrArg)
		is(t, "Stick", d.Stick(a), api.ErrArg)
	}
	for _, n := range []int{0, 1, 511, 513} {
		is(t, "Rot", d.Rot(3, make([]byte, n)), api.ErrArg)
	}
	cached(t, d, 1)
	tells(t, d, 3, some(1))
}

// P4.4: faults without power.
func TestFaultsDark(t *testing.T) {
	d, p := made(t, 6)
	put(t, d, 1, some(1))
	put(t, d, 2, some(2))
	off(p)
	is(t, "Rot", d.Rot(1, some(3)), api.OK)
	is(t, "Bad", d.Bad(2), api.OK)
	is(t, "Stick", d.Stick(3), api.OK)
	d.Lose()
	d.Astray(5)
	cached(t, d, 0)
	p.Back()
	tells(t, d, 1, some(3))
	silent(t, d, 2)
	silent(t, d, 3)
	put(t, d, 4, some(4)) // lost
	cached(t, d, 0)
	put(t, d, 4, some(4)) // astray
	tells(t, d, 4, full(0))
	tells(t, d, 5, some(4))
	off(p)
	d.Die()
	p.Back()
	if !d.Dead() {
		t.Error("it lives")
	}
}

// P4.4: a dead disk takes faults, too: their only errors are ErrNil and ErrArg.
func TestFaultsOfDead(t *testing.T) {
	d, _ := made(t, 4)
	put(t, d, 1, some(1))
	put(t, d, 2, some(2))
	d.Die()
	is(t, "Rot", d.Rot(1, some(3)), api.OK)
	is(t, "Bad", d.Bad(2), api.OK)
	is(t, "Stick", d.Stick(3), api.OK)
	is(t, "Rot", d.Rot(4, some(3)), api.ErrArg)
	cached(t, d, 0)
}

// P4.2, P4.4: one write is lost, however often it was armed; the next one is not.
func TestLose(t *testing.T) {
	d, _ := made(t, 4)
	put(t, d, 1, some(1))
	d.Lose()
	d.Lose()
	flush(t, d) // is no write
	put(t, d, 1, some(2))
	cached(t, d, 0)
	tells(t, d, 1, some(1))
	put(t, d, 1, some(3))
	cached(t, d, 1)
	tells(t, d, 1, some(3))
}

// P4.2, P4.4: one write is led astray, to the address that was named last; the next one is not.
func TestAstray(t *testing.T) {
	d, _ := made(t, 6)
	put(t, d, 1, some(1))
	put(t, d, 3, some(3))
	flush(t, d)
	d.Astray(2)
	d.Astray(3)
	put(t, d, 1, some(4))
	cached(t, d, 1)
	tells(t, d, 1, some(1))
	tells(t, d, 2, full(0))
	tells(t, d, 3, some(4))
	put(t, d, 1, some(5))
	cached(t, d, 2)
	tells(t, d, 1, some(5))
	tells(t, d, 3, some(4))
	d.Crash([]int{12}) // torn over there
	tells(t, d, 1, some(1))
	tells(t, d, 3, torn(some(4), some(3), 10))
	d.Astray(0) // the first, and the last
	put(t, d, 1, some(6))
	tells(t, d, 0, some(6))
	d.Astray(5)
	put(t, d, 1, some(7))
	tells(t, d, 5, some(7))
	d.Astray(1) // to where it goes
	put(t, d, 1, some(8))
	tells(t, d, 1, some(8))
}

// P4.2: a write that is led to an address that there is not, is nowhere, and is OK.
func TestAstrayNowhere(t *testing.T) {
	for _, to := range []uint16{4, 5, 4096, math.MaxUint16} {
		d, _ := made(t, 4)
		d.Astray(to)
		put(t, d, 1, some(1))
		cached(t, d, 0)
		for a := range uint16(4) {
			tells(t, d, a, full(0))
		}
		put(t, d, 1, some(2))
		tells(t, d, 1, some(2))
	}
}

// P4.2: armed for both: the first write is lost, the second led astray, the third is as it should be.
func TestLoseThenAstray(t *testing.T) {
	for _, arm := range []func(d *disk.Disk){
		func(d *disk.Disk) { d.Lose(); d.Astray(2) },
		func(d *disk.Disk) { d.Astray(2); d.Lose() },
	} {
		d, _ := made(t, 4)
		arm(d)
		put(t, d, 1, some(1))
		cached(t, d, 0)
		put(t, d, 1, some(2))
		cached(t, d, 1)
		tells(t, d, 1, full(0))
		tells(t, d, 2, some(2))
		put(t, d, 1, some(3))
		tells(t, d, 1, some(3))
		tells(t, d, 2, some(2))
	}
}

// P4.4, P4.5: it is dead for good, and tells nothing; it has its blocks and its cache.
func TestDie(t *testing.T) {
	d, p := made(t, 4)
	put(t, d, 1, some(1))
	flush(t, d)
	put(t, d, 2, some(2))
	d.Die()
	for range 2 {
		if !d.Dead() || d.Blocks() != 4 || d.Cached() != 1 {
			t.Error(d.Dead(), d.Blocks(), d.Cached())
		}
		for a := range uint16(5) {
			if b, ok := d.Look(a); ok || len(b) > 0 {
				t.Errorf("Look(%d) of a dead disk tells", a)
			}
		}
		_, e := d.Read(1)
		is(t, "Read", e, api.ErrDead)
		is(t, "Write", d.Write(1, some(3)), api.ErrDead)
		is(t, "Flush", d.Flush(), api.ErrDead)
		off(p)
		p.Back()
		d.Crash(nil)
		d.Die()
	}
}

// P4.5: looking without power, and asking.
func TestLookDark(t *testing.T) {
	d, p := made(t, 4)
	put(t, d, 1, some(1))
	flush(t, d)
	put(t, d, 2, some(2))
	d.Bad(0)
	d.Stick(3)
	off(p)
	for a, want := range map[uint16][]byte{0: nil, 1: some(1), 2: some(2), 3: nil, 4: nil} {
		b, ok := d.Look(a)
		if ok != (want != nil) || !bytes.Equal(b, want) {
			t.Errorf("Look(%d): %d bytes, %v", a, len(b), ok)
		}
	}
	if d.Dead() || d.Blocks() != 4 || d.Cached() != 1 || p.Is() {
		t.Error(d.Dead(), d.Blocks(), d.Cached(), p.Is())
	}
}

// P4.5, R1: of nil.
func TestNil(t *testing.T) {
	var d *disk.Disk
	if !d.Dead() || d.Blocks() != 0 || d.Cached() != 0 {
		t.Error(d.Dead(), d.Blocks(), d.Cached())
	}
	if b, ok := d.Look(0); ok || b != nil {
		t.Error("Look")
	}
	b, e := d.Read(0)
	if b != nil {
		t.Error("Read")
	}
	is(t, "Read", e, api.ErrNil)
	is(t, "Write", d.Write(0, some(1)), api.ErrNil)
	is(t, "Flush", d.Flush(), api.ErrNil)
}

// R1: objects that no call made do not panic.
func TestZero(t *testing.T) {
	var p disk.Power
	p.Fuse(1)
	p.Step()
	p.Back()
	d := &disk.Disk{}
	d.Lose()
	d.Astray(0)
	d.Crash([]int{1})
	is(t, "Write", d.Write(0, some(1)), api.ErrNil)
	is(t, "Flush", d.Flush(), api.ErrNil)
	is(t, "Rot", d.Rot(0, some(1)), api.ErrNil)
	is(t, "Stick", d.Stick(0), api.ErrNil)
	if _, ok := d.Look(0); ok {
		t.Error("Look")
	}
	d.Die()
}

// R3: what is handed in is not kept, nor changed, with the room behind its end.
func TestHandedIn(t *testing.T) {
	d, _ := made(t, 4)
	room := append(some(1), full('x')...)
	b := room[:api.Block]
	put(t, d, 1, b)
	flush(t, d)
	put(t, d, 2, b)
	is(t, "Rot", d.Rot(3, b), api.OK)
	picks := []int{100, 200, 300}
	put(t, d, 1, some(5))
	d.Crash(picks[:2])
	if !bytes.Equal(room, append(some(1), full('x')...)) {
		t.Error("the bytes were changed")
	}
	if !slices.Equal(picks, []int{100, 200, 300}) {
		t.Error("the picks were changed")
	}
	put(t, d, 0, b)
	clear(room)
	tells(t, d, 0, some(1))
	tells(t, d, 1, torn(some(5), some(1), 198))
	tells(t, d, 2, torn(some(1), full(0), 98))
	tells(t, d, 3, some(1))
	flush(t, d)
	tells(t, d, 0, some(1))
}

// R3: what is handed out is the caller's own, with the room behind its end, from the cache, from a block, from one that was never written.
func TestHandedOut(t *testing.T) {
	d, _ := made(t, 4)
	put(t, d, 1, some(1))
	flush(t, d)
	put(t, d, 2, some(2))
	for a, want := range [][]byte{full(0), some(1), some(2)} {
		at := uint16(a)
		first, _ := d.Read(at)
		second, _ := d.Look(at)
		third, _ := d.Read(at)
		for _, b := range [][]byte{first, second} {
			for i := range whole(b) {
				whole(b)[i] = 'y'
			}
		}
		if !bytes.Equal(third, want) {
			t.Errorf("two answers of %d share memory", a)
		}
		tells(t, d, at, want)
	}
	flush(t, d)
	tells(t, d, 2, some(2))
}

// P4.2: a cache of many writes, over and over: what was drained is not written over, what comes behind it is its own.
func TestCacheAnew(t *testing.T) {
	d, _ := made(t, 64)
	for round := range byte(20) {
		for a := range uint16(round) + 1 {
			put(t, d, a, some(round*3+byte(a)))
		}
		switch round % 3 {
		case 0:
			flush(t, d)
		case 1:
			d.Crash(slices.Repeat([]int{1}, int(round)+1))
		default:
			d.Rot(uint16(round), some(round*3+round))
			flush(t, d)
		}
		cached(t, d, 0)
		for a := range uint16(round) + 1 {
			tells(t, d, a, some(round*3+byte(a)))
		}
	}
}
