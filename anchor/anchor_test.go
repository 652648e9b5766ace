package anchor_test

import (
	"bytes"
	"encoding/binary"
	"fmt"
	"math"
	"testing"

	"kintsugi/anchor"
	"kintsugi/api"
	"kintsugi/disk"
)

// Where an anchor's parts stand in its bytes.
const (
	hashAt = 8
	addrAt = 40
	restAt = 48
)

// some is an anchor whose bytes differ from their neighbours, and from those of another generation.
func some(gen uint64) anchor.Anchor {
	a := anchor.Anchor{Gen: gen}
	for i := range a.Hash {
		a.Hash[i] = byte(7*i+1) ^ byte(gen)
	}
	for i := range a.At {
		a.At[i] = uint16(0x1234*(i+1)) ^ uint16(gen)
	}
	return a
}

// bytesOf is an anchor's bytes, as the chapter's words tell them.
func bytesOf(a anchor.Anchor) [64]byte {
	b := binary.LittleEndian.AppendUint64(nil, a.Gen)
	b = append(b, a.Hash[:]...)
	for _, addr := range a.At {
		b = binary.LittleEndian.AppendUint16(b, addr)
	}
	return [64]byte(append(b, make([]byte, 16)...))
}

// anchors are the least, the greatest, and such as have one bit alone.
func anchors() []anchor.Anchor {
	all := []anchor.Anchor{
		{},
		some(1), some(2), some(258), some(math.MaxUint64),
		{Gen: math.MaxUint64, Hash: [32]byte(bytes.Repeat([]byte{255}, 32)), At: [4]uint16{math.MaxUint16, math.MaxUint16, math.MaxUint16, math.MaxUint16}},
		{Gen: 1}, {Hash: [32]byte{31: 1}}, {At: [4]uint16{3: 1}},
	}
	for i := range 64 {
		all = append(all, anchor.Anchor{Gen: 1 << i})
	}
	for i := range 256 {
		a := anchor.Anchor{}
		a.Hash[i/8] = 1 << (i % 8)
		all = append(all, a)
	}
	for i := range 64 {
		a := anchor.Anchor{}
		a.At[i/16] = 1 << (i % 16)
		all = append(all, a)
	}
	return all
}

// made is a cell under power that is on.
func made(t *testing.T) (*anchor.Cell, *disk.Power) {
	t.Helper()
	p := disk.On()
	c, e := anchor.New(p)
	if e != api.OK || c == nil {
		t.Fatalf("New: %v", e)
	}
	return c, p
}

// off lets power end.
func off(p *disk.Power) {
	p.Fuse(0)
	p.Step()
}

// is says where an error is not the one that is wanted.
func is(t *testing.T, what string, got, want api.Errno) {
	t.Helper()
	if got != want {
		t.Errorf("%s: %v, want %v", what, got, want)
	}
}

// tells says where a cell does not tell the anchor that is wanted, or its bytes.
func tells(t *testing.T, c *anchor.Cell, want anchor.Anchor) {
	t.Helper()
	if got := c.Load(); got != want {
		t.Errorf("Load: %v, want %v", got, want)
	}
	if got := c.Bytes(); got != bytesOf(want) {
		t.Errorf("Bytes: % x, want % x", got, bytesOf(want))
	}
}

// store stores an anchor that must be taken.
func store(t *testing.T, c *anchor.Cell, a anchor.Anchor) {
	t.Helper()
	is(t, fmt.Sprintf("Store of %d", a.Gen), c.Store(a), api.OK)
	tells(t, c, a)
}

// refuses stores an anchor that may not be taken, for that reason.
func refuses(t *testing.T, c *anchor.Cell, a anchor.Anchor, want api.Errno) {
	t.Helper()
	was := c.Load()
	is(t, fmt.Sprintf("Store of %d over %d", a.Gen, was.Gen), c.Store(a), want)
	tells(t, c, was)
}

// P5.2: the chapter's examples.
func TestExamples(t *testing.T) {
	c, p := made(t)
	tells(t, c, anchor.Anchor{})
	is(t, "Store of 1", c.Store(some(1)), api.OK)
	is(t, "Store of it again", c.Store(some(1)), api.ErrArg)
	p.Fuse(0)
	is(t, "Store of 2", c.Store(some(2)), api.ErrDead)
	if got := c.Load(); got != some(1) {
		t.Errorf("Load: %v", got)
	}
}

// P5.1: each part where it belongs, the lowest digit first; noughts behind them.
func TestPut(t *testing.T) {
	for _, a := range anchors() {
		if got := anchor.Put(a); got != bytesOf(a) {
			t.Errorf("Put(%v): % x, want % x", a, got, bytesOf(a))
		}
	}
	a := anchor.Anchor{
		Gen:  0x0807060504030201,
		Hash: [32]byte{9, 10, 11, 12, 13, 14, 15, 16, 17, 18, 19, 20, 21, 22, 23, 24, 25, 26, 27, 28, 29, 30, 31, 32, 33, 34, 35, 36, 37, 38, 39, 40},
		At:   [4]uint16{0x2a29, 0x2c2b, 0x2e2d, 0x302f},
	}
	for i, x := range anchor.Put(a) {
		want := byte(i + 1)
		if i >= restAt {
			want = 0
		}
		if x != want {
			t.Errorf("byte %d is %d, want %d", i, x, want)
		}
	}
}

// P5.1: what was put is taken, and what was taken is put.
func TestTake(t *testing.T) {
	for _, want := range anchors() {
		got, e := anchor.Take(bytesOf(want))
		if e != api.OK || got != want {
			t.Errorf("Take: %v, %v, want %v", got, e, want)
		}
		got, e = anchor.Take(anchor.Put(want))
		if e != api.OK || got != want {
			t.Errorf("Take(Put): %v, %v, want %v", got, e, want)
		}
	}
}

// P5.1: any bytes up to the addresses' end are an anchor's, and it has those.
func TestTakeAnyBytes(t *testing.T) {
	for i := range restAt {
		for x := range 256 {
			b := bytesOf(some(77))
			b[i] = byte(x)
			a, e := anchor.Take(b)
			if e != api.OK || bytesOf(a) != b {
				t.Errorf("byte %d is %d: %v, %v", i, x, a, e)
			}
		}
	}
}

// P5.1, R4: a byte behind the addresses that is no nought is ErrForm, and the anchor beside it is zero.
func TestTakeForm(t *testing.T) {
	for _, a := range []anchor.Anchor{{}, some(1), some(math.MaxUint64)} {
		for i := restAt; i < 64; i++ {
			for _, x := range []byte{1, 2, 128, 255} {
				b := bytesOf(a)
				b[i] = x
				got, e := anchor.Take(b)
				if e != api.ErrForm || got != (anchor.Anchor{}) {
					t.Errorf("byte %d is %d: %v, %v", i, x, got, e)
				}
			}
		}
	}
	got, e := anchor.Take([64]byte(bytes.Repeat([]byte{255}, 64)))
	if e != api.ErrForm || got != (anchor.Anchor{}) {
		t.Errorf("no noughts at all: %v, %v", got, e)
	}
	// Two that would make a nought, if they were put together.
	b := [64]byte{}
	b[restAt], b[63] = 0x55, 0x55
	if _, e := anchor.Take(b); e != api.ErrForm {
		t.Errorf("two alike: %v", e)
	}
}

// P5.2: a cell of noughts, of power that is on; its making is no step.
func TestNew(t *testing.T) {
	p := disk.On()
	p.Fuse(0)
	c, e := anchor.New(p)
	if e != api.OK || !p.Is() {
		t.Fatal(e)
	}
	tells(t, c, anchor.Anchor{})
	if c.Bytes() != [64]byte{} {
		t.Error("no noughts")
	}
}

// P5.2: New's errors.
func TestNewErrors(t *testing.T) {
	dark := disk.On()
	off(dark)
	for _, x := range []struct {
		p    *disk.Power
		want api.Errno
	}{{nil, api.ErrNil}, {dark, api.ErrDead}} {
		c, e := anchor.New(x.p)
		if e != x.want || c != nil {
			t.Errorf("New: %v, %v, want none, %v", c, e, x.want)
		}
	}
	dark.Back()
	if _, e := anchor.New(dark); e != api.OK {
		t.Errorf("New, when it is back: %v", e)
	}
}

// P5.2: any anchor of a greater generation is stored, in place of all that was there.
func TestStore(t *testing.T) {
	c, _ := made(t)
	for _, gen := range []uint64{1, 2, 3, 255, 256, 65536, math.MaxInt64, 1 << 63, math.MaxUint64 - 1, math.MaxUint64} {
		store(t, c, some(gen))
	}
	for _, a := range anchors() {
		c, _ := made(t)
		if a.Gen == 0 {
			a.Gen = 1
		}
		store(t, c, a)
		if a.Gen < math.MaxUint64 {
			store(t, c, anchor.Anchor{Gen: a.Gen + 1}) // of noughts else
		}
	}
}

// P5.2: a generation that is not above the cell's is ErrArg, whatever else the anchor has; nothing is stored.
func TestStoreNotAbove(t *testing.T) {
	c, _ := made(t)
	refuses(t, c, anchor.Anchor{}, api.ErrArg)
	refuses(t, c, some(0), api.ErrArg)
	for _, at := range []uint64{1, 2, 256, math.MaxInt64, 1 << 63, math.MaxUint64} {
		c, _ := made(t)
		store(t, c, some(at))
		for _, gen := range []uint64{0, 1, 255, at / 2, at - 1, at} {
			if gen <= at {
				refuses(t, c, some(gen), api.ErrArg)
				refuses(t, c, anchor.Anchor{Gen: gen, Hash: [32]byte{1}}, api.ErrArg)
			}
		}
	}
}

// P5.2: the order of generations is that of the numbers, not of a part of their digits, nor of numbers with signs.
func TestStoreOrder(t *testing.T) {
	for _, x := range []struct{ low, high uint64 }{
		{1, 2}, {255, 256}, {0x01ff, 0x0200}, {math.MaxUint32, 1 << 32}, {1<<32 - 1, 1<<32 + 1}, {math.MaxInt64, 1 << 63}, {1, math.MaxUint64},
	} {
		c, _ := made(t)
		store(t, c, some(x.low))
		store(t, c, some(x.high))
		refuses(t, c, some(x.low), api.ErrArg)
	}
}

// P5.2: an anchor is stored by one step; what is refused makes none, nor does what only tells.
func TestSteps(t *testing.T) {
	c, p := made(t)
	p.Fuse(3)
	for gen := range uint64(3) {
		store(t, c, some(gen+1))
		refuses(t, c, some(gen+1), api.ErrArg)
		refuses(t, c, some(0), api.ErrArg)
	}
	if !p.Is() {
		t.Error("off ahead of the step that is not made")
	}
	refuses(t, c, some(4), api.ErrDead)
	if p.Is() {
		t.Error("on behind its end")
	}
	p.Back()
	store(t, c, some(4)) // the same that was not stored
}

// P5.2: without power nothing is stored, and yet it tells; when it is back, it stores again.
func TestDark(t *testing.T) {
	c, p := made(t)
	store(t, c, some(5))
	off(p)
	tells(t, c, some(5))
	for gen := uint64(6); gen < 9; gen++ {
		refuses(t, c, some(gen), api.ErrDead)
	}
	if p.Is() {
		t.Error("it brought the power back")
	}
	p.Back()
	tells(t, c, some(5))
	store(t, c, some(6))
}

// R5: a generation that is not above is answered ahead of power that is off, and of a step that is not made.
func TestErrorsOrder(t *testing.T) {
	c, p := made(t)
	store(t, c, some(5))
	p.Fuse(0)
	refuses(t, c, some(5), api.ErrArg)
	if !p.Is() {
		t.Error("a step for what is refused")
	}
	refuses(t, c, some(6), api.ErrDead)
	refuses(t, c, some(5), api.ErrArg)
	refuses(t, c, anchor.Anchor{}, api.ErrArg)
	refuses(t, c, some(6), api.ErrDead)
}

// P5.2, R1: of nil; of a cell that has no power.
func TestNil(t *testing.T) {
	var no *anchor.Cell
	bare := &anchor.Cell{}
	for _, c := range []*anchor.Cell{no, bare} {
		tells(t, c, anchor.Anchor{})
		for _, a := range []anchor.Anchor{{}, some(1), some(math.MaxUint64)} {
			refuses(t, c, a, api.ErrNil)
		}
	}
}

// P5.2: a cell and a disk under one power end together, and count their steps together.
func TestSharedPower(t *testing.T) {
	c, p := made(t)
	d, e := disk.New(4, p)
	is(t, "disk.New", e, api.OK)
	p.Fuse(3)
	is(t, "Write", d.Write(1, make([]byte, api.Block)), api.OK)
	is(t, "Flush", d.Flush(), api.OK)
	store(t, c, some(1))
	is(t, "Flush", d.Flush(), api.ErrDead)
	refuses(t, c, some(2), api.ErrDead)
	p.Back()
	p.Fuse(1)
	store(t, c, some(2))
	refuses(t, c, some(3), api.ErrDead)
	is(t, "Flush", d.Flush(), api.ErrDead)
}

// P5.2: the power's methods are the cell's, and that power is the one that was handed in.
func TestPowerOfCell(t *testing.T) {
	c, p := made(t)
	if !c.Is() {
		t.Error("off")
	}
	c.Fuse(1)
	if !p.Step() || c.Step() || p.Is() || c.Is() {
		t.Error("another power's fuse")
	}
	c.Back()
	if !p.Is() {
		t.Error("not back")
	}
}

// P5.2, R2: of two cells under one power, neither knows what the other one tells.
func TestTwoCells(t *testing.T) {
	c, p := made(t)
	d, e := anchor.New(p)
	is(t, "New", e, api.OK)
	store(t, c, some(7))
	tells(t, d, anchor.Anchor{})
	store(t, d, some(1))
	tells(t, c, some(7))
}

// R3: what is handed in and out is the caller's own.
func TestOwn(t *testing.T) {
	c, _ := made(t)
	a := some(3)
	store(t, c, a)
	a.Hash[0]++
	a.At[0]++
	got := c.Load()
	got.Gen, got.Hash[1], got.At[1] = 0, 0, 0
	b := c.Bytes()
	clear(b[:])
	tells(t, c, some(3))
	b = bytesOf(some(4))
	anchor.Take(b)
	if b != bytesOf(some(4)) {
		t.Error("Take changed what it was handed")
	}
}

// plain is a cell and its power, as the chapter's words tell them.
type plain struct {
	on   bool
	fuse int // below 0: none
	last anchor.Anchor
}

// store is what Store answers.
func (m *plain) store(a anchor.Anchor) api.Errno {
	switch {
	case a.Gen <= m.last.Gen:
		return api.ErrArg
	case !m.on || m.fuse == 0:
		m.on, m.fuse = false, -1
		return api.ErrDead
	case m.fuse > 0:
		m.fuse--
	}
	m.last = a
	return api.OK
}

// draws are numbers below n that are the same with the same seed.
func draws(seed uint32) func(n int) int {
	return func(n int) int {
		seed = seed*1664525 + 1013904223
		return int(seed>>8) % n
	}
}

// P5.3: wherever the power ends, a cell tells what was stored last, wholly; its generation rises with each Store.
func TestLastStored(t *testing.T) {
	draw := draws(1)
	for range 300 {
		c, p := made(t)
		m := &plain{on: true, fuse: -1}
		for act := range 100 {
			was := c.Load()
			var e api.Errno = api.ErrArg
			switch n := draw(4); draw(4) {
			case 0:
				p.Fuse(n)
				if m.on {
					m.fuse = n
				}
			case 1:
				p.Back()
				m.on, m.fuse = true, -1
			default:
				a := some(max(m.last.Gen+uint64(n), 1) - 1) // one below, the same, and above
				a.Hash[9] = byte(act)
				want := m.store(a)
				e = c.Store(a)
				is(t, fmt.Sprintf("act %d", act), e, want)
			}
			tells(t, c, m.last)
			if p.Is() != m.on {
				t.Fatalf("act %d: the power is on: %v", act, p.Is())
			}
			if now := c.Load(); (e == api.OK) != (now.Gen > was.Gen) || e != api.OK && now != was {
				t.Fatalf("act %d: %v behind %v, %v", act, now, was, e)
			}
		}
	}
}

// P5.3: at each end of the power, of a row of stores those are told that were OK, and the others may be stored again.
func TestEachEnd(t *testing.T) {
	const rows = 6
	for n := range rows + 1 {
		c, p := made(t)
		p.Fuse(n)
		for gen := uint64(1); gen <= rows; gen++ {
			want := api.OK
			if gen > uint64(n) {
				want = api.ErrDead
			}
			is(t, "Store", c.Store(some(gen)), want)
		}
		last := anchor.Anchor{}
		if n > 0 {
			last = some(uint64(n))
		}
		tells(t, c, last)
		p.Back()
		tells(t, c, last)
		store(t, c, some(uint64(n)+1))
	}
}
