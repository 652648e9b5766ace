package inode_test

import (
	"bytes"
	"math"
	"testing"

	"kintsugi/api"
	"kintsugi/inode"
)

// The kinds are numbers that stand on the disks.
func TestKinds(t *testing.T) {
	if inode.None != 0 || inode.File != 1 || inode.Dir != 2 || inode.Link != 3 {
		t.Error(inode.None, inode.File, inode.Dir, inode.Link)
	}
}

// P11.1, P11.3: the chapter's examples.
func TestExamples(t *testing.T) {
	if n := (inode.Inode{Kind: inode.File, Links: 1}); !n.May() {
		t.Errorf("%v may not be", n)
	}
	if n := (inode.Inode{Kind: inode.Link}); n.May() {
		t.Errorf("%v may be", n)
	}
	for size, want := range map[uint32]int{0: 0, 1: 1, 512: 1, 513: 2} {
		if got := inode.Count(size); got != want {
			t.Errorf("Count(%d): %d", size, got)
		}
	}
}

// P11.1: inodes that may be, of each kind, at the edges of their sizes, with roots of all sorts; how many links is of no account.
func TestMay(t *testing.T) {
	for _, n := range mays() {
		if !n.May() {
			t.Errorf("%v may not be", n)
		}
	}
}

// P11.1: inodes that may not be: each breaks one rule.
func TestMayNot(t *testing.T) {
	for _, n := range mayNots() {
		if n.May() {
			t.Errorf("%v may be", n)
		}
	}
}

// P11.1: each kind there can be, with each size up to past the greatest, without links or a root.
func TestMayOfKindsAndSizes(t *testing.T) {
	for kind := range 256 {
		for size := range uint32(32768 + 600) {
			n := inode.Inode{Kind: uint8(kind), Size: size}
			if n.May() != plainMay(n) {
				t.Fatalf("%v: %v", n, n.May())
			}
		}
	}
}

// P11.1: what has no kind is the zero inode, or may not be.
func TestMayOfNone(t *testing.T) {
	if !(inode.Inode{}).May() {
		t.Error("the zero inode may not be")
	}
	for _, n := range []inode.Inode{{Links: 1}, {Links: 256}, {Size: 1}, {Size: 1 << 31}, {Root: roots()[1]}, {Root: api.Ptr{Birth: 1}}} {
		if n.May() {
			t.Errorf("%v may be", n)
		}
	}
}

// P11.2: a block byte by byte, in each place: kind, a nought, links, size, the root's bytes, noughts.
func TestBytes(t *testing.T) {
	n := inode.Inode{Kind: inode.File, Links: 0x0201, Size: 0x0403, Root: api.Ptr{Kind: api.Node, Level: 2, Obj: 0x0605, Off: 0x0a090807, Birth: 0x1211100f0e0d0c0b, Hash: [32]byte(some(32, 1)), At: [4]uint16{0x1413, 0x1615, 0x1817, 0x1a19}}}
	own := []byte{1, 0, 1, 2, 3, 4, 0, 0, 3, 2, 5, 6, 7, 8, 9, 10, 11, 12, 13, 14, 15, 16, 17, 18}
	own = append(own, some(32, 1)...)
	own = append(own, 19, 20, 21, 22, 23, 24, 25, 26)
	own = append(own, make([]byte, 64)...)
	for i := range api.Inodes {
		var b inode.Block
		b[i] = n
		want := make([]byte, 512)
		copy(want[128*i:], own)
		puts(t, b, want)
		takes(t, want, b)
	}
	four := inode.Block{n, n, n, n}
	puts(t, four, bytes.Repeat(own, 4))
	takes(t, bytes.Repeat(own, 4), four)
	puts(t, inode.Block{}, make([]byte, 512))
	takes(t, make([]byte, 512), inode.Block{})
}

// P11.2, P11.4: each inode that may be, at each place, alone.
func TestOneInode(t *testing.T) {
	for _, n := range mays() {
		for i := range api.Inodes {
			var b inode.Block
			b[i] = n
			want := make([]byte, api.Block)
			copy(want[width*i:], plainPut(n))
			puts(t, b, want)
			takes(t, want, b)
		}
	}
}

// P11.2, P11.4: blocks of all sorts are put, and taken as themselves.
func TestPutAndTake(t *testing.T) {
	for _, b := range blocks() {
		puts(t, b, blockOf(b))
		takes(t, blockOf(b), b)
	}
}

// P11.2: an inode that may not be, at any place, alone or among those that may be: no bytes, and ErrForm; and so are its bytes.
func TestErrForm(t *testing.T) {
	wrong, among := mayNots(), blocks()[:3]
	for _, n := range wrong {
		for i := range api.Inodes {
			for _, b := range among {
				b[i] = n
				putRefused(t, b)
				takeRefused(t, "an inode that may not be", blockOf(b))
			}
		}
	}
	four := inode.Block(wrong[:4])
	putRefused(t, four)
	takeRefused(t, "four that may not be", blockOf(four))
	takeRefused(t, "bytes of 255", bytes.Repeat([]byte{255}, api.Block))
	takeRefused(t, "bytes of 1", bytes.Repeat([]byte{1}, api.Block))
}

// P11.2: bytes that are no Block are ErrForm: none, fewer, more, those of whole inodes too.
func TestTakeNoBlock(t *testing.T) {
	full := blockOf(blocks()[1])
	long := append(append([]byte{}, full...), full...)
	takeRefused(t, "nil", nil)
	for n := range 2*api.Block + 1 {
		if n == api.Block {
			continue
		}
		takeRefused(t, "noughts", make([]byte, n))
		takeRefused(t, "inodes", long[:n])
		takeRefused(t, "no inodes", bytes.Repeat([]byte{255}, n))
	}
	takeRefused(t, "many", make([]byte, 8*api.Block))
}

// P11.2: what must be noughts, and is not, is ErrForm: behind the kind, at the root's end, at the inode's; in zero inodes too.
func TestTakeNoughts(t *testing.T) {
	places := []int{noughtAt}
	for at := rootAt + 56; at < width; at++ {
		places = append(places, at)
	}
	for _, b := range blocks() {
		for i := range api.Inodes {
			for _, at := range places {
				block := blockOf(b)
				block[width*i+at] = 1 << (at % 8)
				takeRefused(t, "no nought", block)
			}
		}
	}
}

// P11.2, P11.4: each byte of a block counts: one that is changed is another block of inodes, or none.
func TestEachByte(t *testing.T) {
	for _, b := range blocks()[:6] {
		for i := range api.Block {
			for _, x := range []byte{1, 2, 3, 128, 255} {
				block := blockOf(b)
				block[i] ^= x
				got, e := inode.Take(block)
				if want, ok := plainTake(block); got != want || ok != (e == api.OK) || e != api.OK && e != api.ErrForm || ok && got == b {
					t.Errorf("byte %d by %d: %v, %v", i, x, got, e)
				}
			}
		}
	}
}

// P11.3: the kind of the leaves of each kind there can be.
func TestLeaf(t *testing.T) {
	for kind := range 256 {
		want := uint8(0)
		switch kind {
		case 1:
			want = 1
		case 2, 3:
			want = 2
		}
		if got := inode.Leaf(uint8(kind)); got != want {
			t.Errorf("Leaf(%d): %d", kind, got)
		}
	}
}

// P11.3: how many leaves each size has, up to past the greatest of an object, and at the edges of 32 bits.
func TestCount(t *testing.T) {
	leaves := 0
	for size := range uint32(api.MaxFile + 2*api.Block) {
		if size%512 == 1 {
			leaves++
		}
		if got := inode.Count(size); got != leaves {
			t.Fatalf("Count(%d): %d, want %d", size, got, leaves)
		}
	}
	if got := inode.Count(api.MaxFile); got != api.Leaves {
		t.Errorf("the greatest object has %d leaves", got)
	}
	for size, want := range map[uint32]int{1<<31 - 1: 1 << 22, 1 << 31: 1 << 22, 1<<31 + 1: 1<<22 + 1, math.MaxUint32 - 511: 1<<23 - 1, math.MaxUint32 - 510: 1 << 23, math.MaxUint32: 1 << 23} {
		if got := inode.Count(size); got != want {
			t.Errorf("Count(%d): %d, want %d", size, got, want)
		}
	}
}

// R3, R4: Take changes nothing of its block, nor of the room behind it, and keeps none of it; Put hands out new memory each time, and changes nothing of its inodes.
func TestNothingShared(t *testing.T) {
	b := blocks()[1]
	room := append(blockOf(b), some(100, 3)...)
	was := append([]byte{}, room...)
	got, e := inode.Take(room[:api.Block])
	if e != api.OK || got != b || !bytes.Equal(room, was) {
		t.Errorf("%v; its bytes changed: %v", e, !bytes.Equal(room, was))
	}
	for i := range room {
		room[i] = 255
	}
	if got != b {
		t.Error("the inodes hang on the block's memory")
	}
	first, _ := b.Put()
	second, _ := b.Put()
	for i, x := range whole(first) {
		whole(first)[i] = x ^ 255
	}
	if !bytes.Equal(second, blockOf(b)) {
		t.Error("two blocks share memory")
	}
	puts(t, b, blockOf(b))

	wrong := b
	wrong[2].Size = api.MaxFile + 1
	kept := wrong
	putRefused(t, wrong)
	if wrong != kept || wrong[2].May() || b != blocks()[1] {
		t.Error("Put or May changed the inodes")
	}
}
