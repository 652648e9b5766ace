package inode_test

import (
	"bytes"
	"encoding/binary"
	"math"
	"testing"

	"kintsugi/api"
	"kintsugi/inode"
)

// Where an inode's parts stand in its bytes.
const (
	noughtAt = 1
	linksAt  = 2
	sizeAt   = 4
	rootAt   = 8
	restAt   = 72
	width    = 128
)

// some is so many bytes that differ from their neighbours, and from those of another seed.
func some(n, seed int) []byte {
	b := make([]byte, n)
	for i := range b {
		b[i] = byte(7*i+1) ^ byte(31*seed) ^ byte(i/256)
	}
	return b
}

// whole is bytes with the room behind their end.
func whole(b []byte) []byte { return b[:cap(b)] }

// puts says where a block's bytes are not the ones that are wanted.
func puts(t *testing.T, b inode.Block, want []byte) {
	t.Helper()
	if x, e := b.Put(); !bytes.Equal(x, want) || e != api.OK {
		t.Errorf("Put of %v: % x, %v, want % x", b, x, e, want)
	}
}

// putRefused says where inodes are put that may not be.
func putRefused(t *testing.T, b inode.Block) {
	t.Helper()
	if x, e := b.Put(); len(x) != 0 || e != api.ErrForm {
		t.Errorf("Put of %v: %d bytes, %v", b, len(x), e)
	}
}

// takes says where a block's inodes are not the ones that are wanted.
func takes(t *testing.T, block []byte, want inode.Block) {
	t.Helper()
	if b, e := inode.Take(block); b != want || e != api.OK {
		t.Errorf("Take of % x: %v, %v, want %v", block, b, e, want)
	}
}

// takeRefused says where bytes are taken for inodes.
func takeRefused(t *testing.T, what string, block []byte) {
	t.Helper()
	if b, e := inode.Take(block); b != (inode.Block{}) || e != api.ErrForm {
		t.Errorf("%s, %d bytes: %v, %v", what, len(block), b, e)
	}
}

// ptrBytes is a pointer's bytes, as chapter 6 tells them.
func ptrBytes(p api.Ptr) []byte {
	b := binary.LittleEndian.AppendUint16([]byte{p.Kind, p.Level}, p.Obj)
	b = binary.LittleEndian.AppendUint32(b, p.Off)
	b = binary.LittleEndian.AppendUint64(b, p.Birth)
	b = append(b, p.Hash[:]...)
	for _, addr := range p.At {
		b = binary.LittleEndian.AppendUint16(b, addr)
	}
	return append(b, make([]byte, 8)...)
}

// plainPut is an inode's bytes, as the chapter's words tell them.
func plainPut(n inode.Inode) []byte {
	b := binary.LittleEndian.AppendUint16([]byte{n.Kind, 0}, n.Links)
	b = binary.LittleEndian.AppendUint32(b, n.Size)
	b = append(b, ptrBytes(n.Root)...)
	return append(b, make([]byte, width-restAt)...)
}

// blockOf is a block's bytes, as the chapter's words tell them.
func blockOf(b inode.Block) []byte {
	var all []byte
	for _, n := range b {
		all = append(all, plainPut(n)...)
	}
	return all
}

// rootMay is whether a pointer is a hole, or one of a Node of level 2 that may be.
func rootMay(p api.Ptr) bool {
	if p == (api.Ptr{}) {
		return true
	}
	if p.Kind != 3 || p.Level != 2 || p.At == [4]uint16{} {
		return false
	}
	return (p.At[0] == 0 || p.At[0] != p.At[1]) && (p.At[2] == 0 || p.At[2] != p.At[3])
}

// plainMay is whether an inode may be, as the chapter's words tell it.
func plainMay(n inode.Inode) bool {
	if n == (inode.Inode{}) {
		return true
	}
	low, high := uint32(0), uint32(32768)
	if n.Kind == 3 {
		low, high = 1, 128
	}
	return n.Kind >= 1 && n.Kind <= 3 && n.Size >= low && n.Size <= high && rootMay(n.Root)
}

// plainTake is the inodes of a block, as the chapters' words tell them, and whether there are some.
func plainTake(block []byte) (inode.Block, bool) {
	var all inode.Block
	if len(block) != 512 {
		return inode.Block{}, false
	}
	for i := range all {
		b := block[width*i : width*i+width]
		n := inode.Inode{Kind: b[0], Links: binary.LittleEndian.Uint16(b[linksAt:]), Size: binary.LittleEndian.Uint32(b[sizeAt:])}
		n.Root = plainRoot(b[rootAt:restAt])
		if !plainMay(n) || !bytes.Equal(b, plainPut(n)) {
			return inode.Block{}, false
		}
		all[i] = n
	}
	return all, true
}

// plainRoot is what stands in a pointer's bytes, be it one or not.
func plainRoot(b []byte) api.Ptr {
	p := api.Ptr{Kind: b[0], Level: b[1], Obj: binary.LittleEndian.Uint16(b[2:]), Off: binary.LittleEndian.Uint32(b[4:]), Birth: binary.LittleEndian.Uint64(b[8:])}
	copy(p.Hash[:], b[16:48])
	for i := range p.At {
		p.At[i] = binary.LittleEndian.Uint16(b[48+2*i:])
	}
	return p
}

// roots are a hole, and pointers that a root may be, of the least and the greatest numbers.
func roots() []api.Ptr {
	all := []api.Ptr{
		{},
		{Kind: api.Node, Level: 2, At: [4]uint16{1}},
		{Kind: api.Node, Level: 2, At: [4]uint16{3: 1}},
		{Kind: api.Node, Level: 2, Obj: 255, Off: 63, Birth: 7, At: [4]uint16{1, 2, 1, 2}},
		{Kind: api.Node, Level: 2, Obj: math.MaxUint16, Off: math.MaxUint32, Birth: math.MaxUint64, At: [4]uint16{math.MaxUint16, 1, 2, math.MaxUint16}},
		{Kind: api.Node, Level: 2, Obj: 0x0201, Off: 0x06050403, Birth: 0x0e0d0c0b0a090807, At: [4]uint16{0x0201, 0x0403, 0x0605, 0x0807}},
	}
	for i := 2; i < len(all); i++ {
		all[i].Hash = [32]byte(some(32, i))
	}
	return all
}

// otherPtrs are pointers that may be, but that no root may be.
func otherPtrs() []api.Ptr {
	full := [4]uint16{1, 2, 3, 4}
	return []api.Ptr{
		{Kind: api.Data, At: [4]uint16{1, 0, 3}},
		{Kind: api.Meta, At: full},
		{Kind: api.Node, Level: 1, At: full},
		{Kind: api.Table, At: full},
		{Kind: api.Root, At: full},
	}
}

// brokenPtrs are pointers that may not be, and are no holes; each breaks one rule alone.
func brokenPtrs() []api.Ptr {
	full := [4]uint16{1, 2, 3, 4}
	return []api.Ptr{
		{Kind: api.Node, Level: 2},
		{Kind: api.Node, Level: 2, Obj: 1, Off: 2, Birth: 3, Hash: [32]byte{4}},
		{Kind: api.Node, Level: 2, At: [4]uint16{1, 1, 3, 4}},
		{Kind: api.Node, Level: 2, At: [4]uint16{2: 9, 3: 9}},
		{Kind: api.Node, Level: 0, At: full}, {Kind: api.Node, Level: 3, At: full}, {Kind: api.Node, Level: 255, At: full},
		{Kind: api.Data, Level: 2, At: [4]uint16{1}}, {Kind: api.Table, Level: 2, At: full}, {Kind: api.Root, Level: 2, At: full},
		{Kind: 6, Level: 2, At: full}, {Kind: 128 + api.Node, Level: 2, At: full}, {Level: 2, At: full},
		{Level: 1}, {Obj: 1}, {Off: 1}, {Birth: 1}, {Hash: [32]byte{31: 1}}, {At: [4]uint16{3: 1}},
	}
}

// inodes are all of these links, sizes and roots, of a kind.
func inodes(kind uint8, sizes []uint32, ps []api.Ptr) []inode.Inode {
	var all []inode.Inode
	for _, links := range []uint16{0, 1, 100, 101, 0x0201, math.MaxUint16} {
		for _, size := range sizes {
			for _, p := range ps {
				all = append(all, inode.Inode{Kind: kind, Links: links, Size: size, Root: p})
			}
		}
	}
	return all
}

// mays are inodes that may be, of each kind, with the edges of their sizes.
func mays() []inode.Inode {
	all := []inode.Inode{{}}
	for _, kind := range []uint8{inode.File, inode.Dir} {
		all = append(all, inodes(kind, []uint32{0, 1, 127, 128, 129, 255, 256, 511, 512, 513, 0x0201, 32767, 32768}, roots())...)
	}
	return append(all, inodes(inode.Link, []uint32{1, 2, 127, 128}, roots())...)
}

// mayNots are inodes that may not be; each breaks one rule alone.
func mayNots() []inode.Inode {
	var all []inode.Inode
	over := []uint32{32769, 65535, 65536, 1 << 24, 1<<31 - 1, 1 << 31, 1<<31 + 1, math.MaxUint32}
	bad := append(otherPtrs(), brokenPtrs()...)
	for _, kind := range []uint8{inode.File, inode.Dir} {
		all = append(all, inodes(kind, over, roots())...)
		all = append(all, inodes(kind, []uint32{0, 1000}, bad)...)
	}
	all = append(all, inodes(inode.Link, append(over, 0, 129, 256, 257, 512, 32768), roots())...)
	all = append(all, inodes(inode.Link, []uint32{1, 128}, bad)...)
	for _, kind := range []uint8{4, 5, 127, 128, 129, 130, 131, 255} {
		all = append(all, inodes(kind, []uint32{0, 1, 128}, roots())...)
	}
	for _, n := range inodes(inode.None, []uint32{0, 1, 128, math.MaxUint32}, append(roots(), bad...)) {
		if n != (inode.Inode{}) {
			all = append(all, n)
		}
	}
	return all
}

// blocks are of all sorts: one of zero inodes, one of each kind, full ones, sparse ones, and one of four times the same.
func blocks() []inode.Block {
	of := mays()
	ps := roots()
	all := []inode.Block{
		{},
		{{}, {Kind: inode.File, Links: 1, Size: 7, Root: ps[3]}, {Kind: inode.Dir, Links: 2, Size: 32768, Root: ps[4]}, {Kind: inode.Link, Links: 3, Size: 128, Root: ps[5]}},
		{{Kind: inode.Link, Links: 0x0807, Size: 11, Root: ps[5]}, {Kind: inode.Dir}, {}, {Kind: inode.File, Links: 65535, Size: 0x0605, Root: ps[2]}},
		{3: {Kind: inode.File, Links: 1}},
		{0: {Kind: inode.Dir, Root: ps[1]}},
		{},
	}
	for i := range all[5] {
		all[5][i] = inode.Inode{Kind: inode.Dir, Links: 1, Size: 1000, Root: ps[4]}
	}
	draw := draws(5)
	for range 100 {
		var b inode.Block
		for i := range b {
			b[i] = of[draw(len(of))]
		}
		all = append(all, b)
	}
	return all
}

// draws hands out numbers below n, the same ones for the same seed.
func draws(seed uint32) func(n int) int {
	return func(n int) int {
		seed = seed*1664525 + 1013904223
		return int(seed>>8) % n
	}
}

// P11.1: the plain words and the cases of these tests are of one mind.
func TestCases(t *testing.T) {
	for _, n := range mays() {
		if !plainMay(n) {
			t.Errorf("%v may not be", n)
		}
	}
	for _, n := range mayNots() {
		if plainMay(n) {
			t.Errorf("%v may be", n)
		}
	}
}

// P11.2, P11.4: blocks of which a few bytes were drawn, held against the plain words: what is read is put as the block that it was.
func TestDrawnBlocks(t *testing.T) {
	draw := draws(9)
	all := blocks()
	read := 0
	for range 20000 {
		b := blockOf(all[draw(len(all))])
		for range 1 + draw(3) {
			b[width*draw(api.Inodes)+draw(restAt+2)] = byte(draw(256))
		}
		want, ok := plainTake(b)
		got, e := inode.Take(b)
		if got != want || ok && e != api.OK || !ok && e != api.ErrForm {
			t.Fatalf("Take of % x: %v, %v, want %v, %v", b, got, e, want, ok)
		}
		if ok {
			read++
			puts(t, got, b)
		}
	}
	if read < 2000 || read > 18000 {
		t.Errorf("%d of 20000 were read", read)
	}
}

// P11.1, P11.2, P11.4: blocks of drawn inodes, that may be and may not: put just if all may be, and then taken as themselves.
func TestDrawnInodes(t *testing.T) {
	draw := draws(3)
	fine, wrong := mays(), mayNots()
	put := 0
	for range 20000 {
		var b inode.Block
		may := true
		for i := range b {
			b[i] = fine[draw(len(fine))]
			if draw(6) == 0 {
				b[i], may = wrong[draw(len(wrong))], false
			}
		}
		if !may {
			putRefused(t, b)
			takeRefused(t, "an inode that may not be", blockOf(b))
			continue
		}
		put++
		puts(t, b, blockOf(b))
		takes(t, blockOf(b), b)
	}
	if put < 2000 || put > 18000 {
		t.Errorf("%d of 20000 were put", put)
	}
}
