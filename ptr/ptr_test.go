package ptr_test

import (
	"bytes"
	"crypto/sha256"
	"encoding/binary"
	"fmt"
	"math"
	"slices"
	"testing"

	"kintsugi/api"
	"kintsugi/ptr"
	"kintsugi/wire"
)

// Where a pointer's parts stand in its bytes.
const (
	hashAt = 16
	addrAt = 48
	restAt = 56
	size   = 64
)

// some is so many bytes that differ from their neighbours, and from those of another seed.
func some(n, seed int) []byte {
	b := make([]byte, n)
	for i := range b {
		b[i] = byte(7*i+1) ^ byte(31*seed) ^ byte(i/256)
	}
	return b
}

// whole is bytes with the room behind their end.
func whole(b []byte) []byte { return b[:cap(b)] }

// tagOf is the tag, as the chapter's words tell it.
func tagOf(p api.Ptr) []byte {
	b := binary.LittleEndian.AppendUint16([]byte{p.Kind, p.Level}, p.Obj)
	return binary.LittleEndian.AppendUint64(binary.LittleEndian.AppendUint32(b, p.Off), p.Birth)
}

// bytesOf is a pointer's bytes, as the chapter's words tell them.
func bytesOf(p api.Ptr) []byte {
	b := append(tagOf(p), p.Hash[:]...)
	for _, addr := range p.At {
		b = binary.LittleEndian.AppendUint16(b, addr)
	}
	return append(b, make([]byte, size-restAt)...)
}

// may is whether a pointer may be, as the chapter's words tell it.
func may(p api.Ptr) bool {
	switch p.Kind {
	case api.Node:
		if p.Level != 1 && p.Level != 2 {
			return false
		}
	case api.Data, api.Meta, api.Table, api.Root:
		if p.Level != 0 {
			return false
		}
	default:
		return false
	}
	if p.Kind == api.Data && (p.At[1] != 0 || p.At[3] != 0) {
		return false
	}
	if p.At[0] == p.At[1] && p.At[0] != 0 || p.At[2] == p.At[3] && p.At[2] != 0 {
		return false
	}
	return p.At[0] != 0 || p.At[1] != 0 || p.At[2] != 0 || p.At[3] != 0
}

// digestOf is the digest that a block fits, as the chapter's words tell it.
func digestOf(p api.Ptr, block []byte) [32]byte {
	return sha256.Sum256(append(tagOf(p), block...))
}

// ats are addresses at all places, each of them none, the least, the next, or the greatest.
func ats() [][4]uint16 {
	var all [][4]uint16
	of := []uint16{0, 1, 2, math.MaxUint16}
	for _, a := range of {
		for _, b := range of {
			for _, c := range of {
				for _, d := range of {
					all = append(all, [4]uint16{a, b, c, d})
				}
			}
		}
	}
	return all
}

// mays are pointers that may be: of each kind and level, with all addresses that these may have, and the greatest numbers.
func mays() []api.Ptr {
	var all []api.Ptr
	for _, p := range []api.Ptr{
		{Kind: api.Data, Obj: 1, Off: 63, Birth: 7},
		{Kind: api.Meta, Obj: math.MaxUint16, Off: math.MaxUint32, Birth: math.MaxUint64},
		{Kind: api.Node, Level: 1, Obj: 0x0201, Off: 0x06050403, Birth: 0x0e0d0c0b0a090807},
		{Kind: api.Node, Level: 2, Birth: 1},
		{Kind: api.Table},
		{Kind: api.Root, Birth: 1 << 63},
	} {
		for _, at := range ats() {
			p.At = at
			p.Hash = [32]byte(some(32, len(all)))
			if may(p) {
				all = append(all, p)
			}
		}
	}
	return all
}

// mayNots are pointers that may not be, and are no holes; each breaks one rule alone.
func mayNots() []api.Ptr {
	full := [4]uint16{1, 2, 3, 4}
	data := [4]uint16{1, 0, 3, 0}
	return []api.Ptr{
		{At: full}, {Birth: 1, At: data},
		{Kind: 6, At: full}, {Kind: 6, At: data}, {Kind: 255, At: data}, {Kind: 128 + api.Meta, At: full},
		{Kind: api.Data, Level: 1, At: data}, {Kind: api.Data, Level: 255, At: data},
		{Kind: api.Meta, Level: 1, At: full}, {Kind: api.Table, Level: 2, At: full}, {Kind: api.Root, Level: 1, At: full},
		{Kind: api.Node, At: full}, {Kind: api.Node, Level: 3, At: full}, {Kind: api.Node, Level: 255, At: full},
		{Kind: api.Data}, {Kind: api.Meta}, {Kind: api.Node, Level: 1}, {Kind: api.Table}, {Kind: api.Root},
		{Kind: api.Root, Obj: 1, Off: 2, Birth: 3, Hash: [32]byte{4}},
		{Kind: api.Meta, At: [4]uint16{1, 1, 3, 4}}, {Kind: api.Meta, At: [4]uint16{1, 2, 3, 3}}, {Kind: api.Root, At: [4]uint16{9, 9}}, {Kind: api.Table, At: [4]uint16{2: 9, 3: 9}},
		{Kind: api.Data, At: [4]uint16{1, 2}}, {Kind: api.Data, At: [4]uint16{1: 1}}, {Kind: api.Data, At: [4]uint16{3: 1}}, {Kind: api.Data, At: [4]uint16{1, 0, 1, 2}},
		{Off: 1}, {Obj: 1}, {Birth: 1}, {Level: 1}, {Hash: [32]byte{31: 1}}, {At: [4]uint16{3: 1}},
	}
}

// taken says where a reader's pointer is not the one that is wanted, or its error.
func taken(t *testing.T, what string, r *wire.Reader, want api.Ptr, e api.Errno) {
	t.Helper()
	if got := ptr.Take(r); got != want || r.Err() != e {
		t.Errorf("%s: %v, %v, want %v, %v", what, got, r.Err(), want, e)
	}
}

// copies are what Copies goes through.
func copies(p api.Ptr) [][2]int {
	var all [][2]int
	for disk, addr := range ptr.Copies(p) {
		all = append(all, [2]int{disk, int(addr)})
	}
	return all
}

// P6.1, P6.3: the chapter's examples.
func TestExamples(t *testing.T) {
	p := api.Ptr{Kind: api.Data, At: [4]uint16{1, 0, 1, 0}}
	if !ptr.May(p) {
		t.Error("Data with an address on each disk may not be")
	}
	if got := copies(p); !slices.Equal(got, [][2]int{{0, 1}, {1, 1}}) {
		t.Errorf("Copies: %v", got)
	}
	if ptr.May(api.Ptr{Kind: api.Data, At: [4]uint16{1, 2, 0, 0}}) {
		t.Error("Data with two addresses on a disk may be")
	}
	if ptr.May(api.Ptr{Kind: api.Node, At: [4]uint16{1, 2, 3, 4}}) {
		t.Error("a Node of level 0 may be")
	}
}

// P6.1: each kind and level there is or is not, with some addresses.
func TestMayKindsAndLevels(t *testing.T) {
	for kind := range 256 {
		for level := range 256 {
			for _, at := range [][4]uint16{{}, {1}, {1, 0, 1, 0}, {1, 2, 3, 4}, {2: 1}} {
				p := api.Ptr{Kind: uint8(kind), Level: uint8(level), At: at}
				if got := ptr.May(p); got != may(p) {
					t.Errorf("%v: %v", p, got)
				}
			}
		}
	}
}

// P6.1: each kind, with all addresses.
func TestMayAddresses(t *testing.T) {
	for kind := range uint8(8) {
		for level := range uint8(4) {
			for _, at := range ats() {
				p := api.Ptr{Kind: kind, Level: level, At: at}
				if got := ptr.May(p); got != may(p) {
					t.Errorf("%v: %v", p, got)
				}
			}
		}
	}
}

// P6.1: these may be, whatever their other parts, and those may not.
func TestMay(t *testing.T) {
	if n := len(mays()); n < 600 {
		t.Fatalf("%d pointers", n)
	}
	for _, p := range mays() {
		if !ptr.May(p) {
			t.Errorf("%v may not be", p)
		}
	}
	for _, p := range append(mayNots(), api.Ptr{}) {
		if ptr.May(p) {
			t.Errorf("%v may be", p)
		}
	}
}

// P6.1: each part where it belongs, the lowest digit first; noughts behind them.
func TestPutPlaces(t *testing.T) {
	p := api.Ptr{Kind: 1, Level: 2, Obj: 0x0403, Off: 0x08070605, Birth: 0x100f0e0d0c0b0a09, At: [4]uint16{0x3231, 0x3433, 0x3635, 0x3837}}
	for i := range p.Hash {
		p.Hash[i] = byte(hashAt + i + 1)
	}
	got := ptr.Put(nil, p)
	if len(got) != size {
		t.Fatalf("%d bytes", len(got))
	}
	for i, x := range got {
		want := byte(i + 1)
		if i >= restAt {
			want = 0
		}
		if x != want {
			t.Errorf("byte %d is %d, want %d", i, x, want)
		}
	}
}

// P6.1: a pointer's bytes stand behind some, whether it may be or not.
func TestPut(t *testing.T) {
	for _, p := range append(append(mays(), mayNots()...), api.Ptr{}) {
		for _, ahead := range [][]byte{nil, {}, some(1, 1), some(size, 2), some(100, 3)} {
			want := append(slices.Clone(ahead), bytesOf(p)...)
			if got := ptr.Put(ahead, p); !bytes.Equal(got, want) {
				t.Errorf("%v behind %d bytes: % x, want % x", p, len(ahead), got, want)
			}
		}
	}
}

// P6.1, P6.4: what was put is read as itself, and nothing is left.
func TestTake(t *testing.T) {
	for _, p := range append(mays(), api.Ptr{}) {
		r := wire.New(bytesOf(p))
		taken(t, "of the chapter's bytes", r, p, api.OK)
		if e := r.End(); e != api.OK {
			t.Errorf("%v: the end is %v", p, e)
		}
		r = wire.New(ptr.Put(nil, p))
		taken(t, "of what was put", r, p, api.OK)
		if e := r.End(); e != api.OK {
			t.Errorf("%v: the end is %v", p, e)
		}
	}
}

// P6.1, P6.4: what was put behind one another is read so, holes among them, and no byte more.
func TestTakeInARow(t *testing.T) {
	var b []byte
	var all []api.Ptr
	for i, p := range mays() {
		all = append(all, p)
		b = ptr.Put(b, p)
		if i%3 == 0 {
			all = append(all, api.Ptr{})
			b = ptr.Put(b, api.Ptr{})
		}
	}
	r := wire.New(append(b, 1, 2, 3))
	for _, p := range all {
		taken(t, "in a row", r, p, api.OK)
	}
	if r.Left() != 3 || r.U8() != 1 {
		t.Errorf("%d are left", r.Left())
	}
}

// P6.1: bytes of a pointer that may not be, and of no hole, are ErrForm.
func TestTakeMayNot(t *testing.T) {
	for _, p := range mayNots() {
		r := wire.New(append(bytesOf(p), some(9, 1)...))
		taken(t, fmt.Sprintf("%v", p), r, api.Ptr{}, api.ErrForm)
		if r.Left() != 0 {
			t.Errorf("%v: %d are left", p, r.Left())
		}
	}
	for kind := range 256 {
		for level := range 256 {
			p := api.Ptr{Kind: uint8(kind), Level: uint8(level), At: [4]uint16{1, 0, 1, 0}}
			want, e := p, api.OK
			if !may(p) {
				want, e = api.Ptr{}, api.ErrForm
			}
			taken(t, "of a kind and a level", wire.New(bytesOf(p)), want, e)
		}
	}
}

// P6.1: what must be noughts and is not is ErrForm, behind a pointer and behind a hole.
func TestTakeNoughts(t *testing.T) {
	all := mays()
	for _, p := range []api.Ptr{{}, all[0], all[len(all)-1]} {
		for i := restAt; i < size; i++ {
			for _, x := range []byte{1, 128, 255} {
				b := bytesOf(p)
				b[i] = x
				taken(t, fmt.Sprintf("byte %d is %d", i, x), wire.New(b), api.Ptr{}, api.ErrForm)
			}
		}
	}
}

// P6.1: noughts with one other byte among them are no hole's, and no pointer's.
func TestTakeAlmostHole(t *testing.T) {
	for i := range size {
		for x := 1; x < 256; x++ {
			b := make([]byte, size)
			b[i] = byte(x)
			taken(t, fmt.Sprintf("byte %d is %d", i, x), wire.New(b), api.Ptr{}, api.ErrForm)
		}
	}
}

// P6.1: fewer bytes are ErrShort, whatever they are.
func TestTakeShort(t *testing.T) {
	all := append(mayNots(), api.Ptr{}, mays()[0])
	for _, p := range all {
		b := bytesOf(p)
		for n := range size {
			r := wire.New(b[:n])
			taken(t, fmt.Sprintf("%d bytes of %v", n, p), r, api.Ptr{}, api.ErrShort)
			if r.Left() != 0 {
				t.Errorf("%d are left", r.Left())
			}
		}
	}
	for n := range size {
		taken(t, "no noughts", wire.New(bytes.Repeat([]byte{255}, n)), api.Ptr{}, api.ErrShort)
	}
	taken(t, "none", wire.New(nil), api.Ptr{}, api.ErrShort)
}

// P6.1: a reader's first error stays; from then on holes are read.
func TestTakeFirstError(t *testing.T) {
	good := mays()[0]
	b := append(append(bytesOf(good), bytesOf(mayNots()[0])...), bytesOf(good)...)
	r := wire.New(b)
	taken(t, "ahead of it", r, good, api.OK)
	taken(t, "at it", r, api.Ptr{}, api.ErrForm)
	taken(t, "behind it", r, api.Ptr{}, api.ErrForm)

	r = wire.New(bytesOf(good))
	r.Raw(size + 1)
	taken(t, "behind ErrShort", r, api.Ptr{}, api.ErrShort)
	r = wire.New(bytesOf(good)[:size-1])
	r.Bad()
	taken(t, "behind ErrForm", r, api.Ptr{}, api.ErrForm)
	taken(t, "of no reader", nil, api.Ptr{}, api.ErrNil)
}

// P6.2: the digest is that of the tag and the block; all else stays.
func TestSeal(t *testing.T) {
	for i, p := range append(append(mays(), mayNots()...), api.Ptr{}) {
		block := some(api.Block, i)
		want := p
		want.Hash = digestOf(p, block)
		got := ptr.Seal(p, block)
		if got != want {
			t.Errorf("Seal(%v): %v, want %v", p, got, want)
		}
		if !ptr.Fits(got, block) {
			t.Errorf("the block doesn't fit %v", got)
		}
		// The digest that was there is of no account.
		p.Hash = [32]byte{}
		if ptr.Seal(p, block) != want || ptr.Seal(got, block) != want {
			t.Errorf("Seal(%v) hangs on the digest", p)
		}
	}
}

// P6.2: the tag's bytes, written out.
func TestSealWritten(t *testing.T) {
	block := make([]byte, api.Block)
	p := api.Ptr{Kind: api.Data, Obj: 1, Off: 2, Birth: 3, At: [4]uint16{4, 0, 5, 0}}
	want := sha256.Sum256(append([]byte{1, 0, 1, 0, 2, 0, 0, 0, 3, 0, 0, 0, 0, 0, 0, 0}, block...))
	if got := ptr.Seal(p, block).Hash; got != want {
		t.Errorf("%x, want %x", got, want)
	}
	p.Hash = want
	if !ptr.Fits(p, block) {
		t.Error("it doesn't fit")
	}
}

// P6.2: what has not Block bytes fits nothing, not even a digest of it.
func TestFitsLength(t *testing.T) {
	p := mays()[0]
	for _, n := range []int{0, 1, 16, 64, api.Block - 1, api.Block, api.Block + 1, 2 * api.Block, 4096} {
		b := some(n, 1)
		q := p
		q.Hash = digestOf(p, b)
		if got := ptr.Fits(q, b); got != (n == api.Block) {
			t.Errorf("%d bytes: %v", n, got)
		}
		if got := ptr.Fits(ptr.Seal(p, b), b); got != (n == api.Block) {
			t.Errorf("%d sealed bytes: %v", n, got)
		}
	}
	if ptr.Fits(p, nil) || ptr.Fits(api.Ptr{}, nil) || ptr.Fits(ptr.Seal(p, nil), nil) {
		t.Error("no bytes fit")
	}
	// No place of the cut between the tag and the block gives another block of these bytes.
	b := some(api.Block, 2)
	q := ptr.Seal(p, b)
	if ptr.Fits(q, b[:api.Block-1]) || ptr.Fits(q, append(slices.Clone(b), 0)) {
		t.Error("a byte less or more fits")
	}
}

// P6.2: a digest that is another one by a bit is no digest of the block.
func TestFitsDigest(t *testing.T) {
	block := some(api.Block, 3)
	p := ptr.Seal(mays()[0], block)
	for i := range 256 {
		q := p
		q.Hash[i/8] ^= 1 << (i % 8)
		if ptr.Fits(q, block) {
			t.Errorf("bit %d", i)
		}
	}
	if ptr.Fits(api.Ptr{}, make([]byte, api.Block)) {
		t.Error("noughts fit a hole")
	}
	// The digest of the block alone, and of the pointer's other bytes, is none.
	for _, b := range [][]byte{block, append(bytesOf(p), block...), append(slices.Clone(block), tagOf(p)...)} {
		q := p
		q.Hash = sha256.Sum256(b)
		if ptr.Fits(q, block) {
			t.Errorf("the digest of %d bytes", len(b))
		}
	}
}

// P6.4: a block fits no pointer whose tag is another one.
func TestFitsTag(t *testing.T) {
	block := some(api.Block, 4)
	all := mays()
	for _, p := range []api.Ptr{all[0], all[len(all)/2], all[len(all)-1]} {
		p = ptr.Seal(p, block)
		var others []api.Ptr
		for i := range 8 {
			a, b := p, p
			a.Kind ^= 1 << i
			b.Level ^= 1 << i
			others = append(others, a, b)
		}
		for i := range 64 {
			a, b, c := p, p, p
			a.Obj ^= 1 << (i % 16)
			b.Off ^= 1 << (i % 32)
			c.Birth ^= 1 << i
			others = append(others, a, b, c)
		}
		for _, q := range others {
			if ptr.Fits(q, block) {
				t.Errorf("fits %v, and %v", p, q)
			}
		}
	}
}

// P6.2: addresses are not of the tag.
func TestFitsAddresses(t *testing.T) {
	block := some(api.Block, 5)
	p := ptr.Seal(mays()[0], block)
	for _, at := range ats() {
		p.At = at
		if !ptr.Fits(p, block) {
			t.Errorf("%v", at)
		}
	}
}

// P6.4: no other block fits: of each bit one.
func TestFitsOtherBlocks(t *testing.T) {
	block := some(api.Block, 6)
	p := ptr.Seal(mays()[0], block)
	for i := range 8 * api.Block {
		block[i/8] ^= 1 << (i % 8)
		if ptr.Fits(p, block) {
			t.Errorf("bit %d", i)
		}
		block[i/8] ^= 1 << (i % 8)
	}
	if !ptr.Fits(p, block) {
		t.Error("itself")
	}
	block[0], block[1] = block[1], block[0]
	if ptr.Fits(p, block) {
		t.Error("two bytes in one another's place")
	}
}

// P6.3: of each address that is not 0, in order, the disk and the address; whether the pointer may be or not.
func TestCopies(t *testing.T) {
	for kind := range uint8(8) {
		for _, at := range ats() {
			var want [][2]int
			for i, addr := range at {
				if addr != 0 {
					want = append(want, [2]int{[]int{0, 0, 1, 1}[i], int(addr)})
				}
			}
			if got := copies(api.Ptr{Kind: kind, At: at}); !slices.Equal(got, want) {
				t.Errorf("kind %d, %v: %v, want %v", kind, at, got, want)
			}
		}
	}
	if got := copies(api.Ptr{At: [4]uint16{5, 0, 6, 7}}); !slices.Equal(got, [][2]int{{0, 5}, {1, 6}, {1, 7}}) {
		t.Errorf("%v", got)
	}
}

// P6.3: it may be left at each copy, and nothing is told behind that.
func TestCopiesLeft(t *testing.T) {
	p := api.Ptr{At: [4]uint16{5, 6, 7, 8}}
	for stop := 1; stop <= 4; stop++ {
		n := 0
		ptr.Copies(p)(func(disk int, addr uint16) bool {
			n++
			if disk != (n-1)/2 || int(addr) != 4+n {
				t.Errorf("copy %d: %d, %d", n, disk, addr)
			}
			return n < stop
		})
		if n != stop {
			t.Errorf("left at %d: told %d", stop, n)
		}
	}
}

// P6.3, R2: it may be gone through again, and within itself.
func TestCopiesAgain(t *testing.T) {
	p := api.Ptr{At: [4]uint16{5, 0, 0, 8}}
	all := ptr.Copies(p)
	p.At[0] = 99
	for range 2 {
		var got []uint16
		for _, a := range all {
			for _, b := range all {
				got = append(got, a, b)
			}
		}
		if !slices.Equal(got, []uint16{5, 5, 5, 8, 8, 5, 8, 8}) {
			t.Errorf("%v", got)
		}
	}
}

// R1: handed nothing to tell the copies to, it ends.
func TestCopiesNothing(t *testing.T) {
	ptr.Copies(api.Ptr{})(nil)
	ptr.Copies(api.Ptr{At: [4]uint16{5, 6, 7, 8}})(nil)
}

// P6.3: of each number that is a kind, or none.
func TestWide(t *testing.T) {
	for kind := range 256 {
		want := 0
		switch uint8(kind) {
		case api.Data:
			want = 1
		case api.Meta, api.Node, api.Table, api.Root:
			want = 2
		}
		if got := ptr.Wide(uint8(kind)); got != want {
			t.Errorf("Wide(%d): %d, want %d", kind, got, want)
		}
	}
}

// R3: what is handed in is not changed, nor the room behind its end.
func TestNotChanged(t *testing.T) {
	p := mays()[0]
	for _, n := range []int{0, 1, 100} {
		room := some(n+200, 7)
		ptr.Put(room[:n], p)
		if !bytes.Equal(room, some(n+200, 7)) {
			t.Errorf("Put behind %d bytes", n)
		}
	}
	room := some(api.Block+200, 8)
	ptr.Fits(ptr.Seal(p, room[:api.Block]), room[:api.Block])
	if !bytes.Equal(room, some(api.Block+200, 8)) {
		t.Error("Seal, Fits")
	}
}

// R3: what is handed out is the caller's own, and so is the room behind it.
func TestOwn(t *testing.T) {
	p := mays()[0]
	room := make([]byte, 300)
	ahead := room[:10]
	one := ptr.Put(ahead, p)
	two := ptr.Put(ahead, p)
	none := ptr.Put(nil, p)
	clear(whole(none))
	for i := range whole(one) {
		whole(one)[i] = 0xee
	}
	if !bytes.Equal(two, append(make([]byte, 10), bytesOf(p)...)) || !bytes.Equal(room, make([]byte, 300)) {
		t.Error("it shares memory")
	}
	if got := ptr.Put(nil, p); !bytes.Equal(got, bytesOf(p)) {
		t.Errorf("a later one: % x", got)
	}
}
