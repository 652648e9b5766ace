package node_test

import (
	"bytes"
	"encoding/binary"
	"math"
	"testing"

	"kintsugi/api"
	"kintsugi/node"
)

// Where a pointer's parts stand in its bytes.
const (
	hashAt = 16
	addrAt = 48
	restAt = 56
	size   = 64
)

// some is so many bytes that differ from their neighbours, and from those of another seed.
func some(n, seed int) []byte {
	b := make([]byte, n)
	for i := range b {
		b[i] = byte(7*i+1) ^ byte(31*seed) ^ byte(i/256)
	}
	return b
}

// whole is bytes with the room behind their end.
func whole(b []byte) []byte { return b[:cap(b)] }

// puts says where a node's block is not the one that is wanted.
func puts(t *testing.T, n node.Node, want []byte) {
	t.Helper()
	if b, e := n.Put(); !bytes.Equal(b, want) || e != api.OK {
		t.Errorf("Put of %v: % x, %v, want % x", n, b, e, want)
	}
}

// takes says where a block's node is not the one that is wanted.
func takes(t *testing.T, block []byte, want node.Node) {
	t.Helper()
	if n, e := node.Take(block); n != want || e != api.OK {
		t.Errorf("Take of % x: %v, %v, want %v", block, n, e, want)
	}
}

// refused says where bytes are taken for a node's.
func refused(t *testing.T, what string, block []byte) {
	t.Helper()
	if n, e := node.Take(block); n != (node.Node{}) || e != api.ErrForm {
		t.Errorf("%s, %d bytes: %v, %v", what, len(block), n, e)
	}
}

// bytesOf is a pointer's bytes, as chapter 6 tells them.
func bytesOf(p api.Ptr) []byte {
	b := binary.LittleEndian.AppendUint16([]byte{p.Kind, p.Level}, p.Obj)
	b = binary.LittleEndian.AppendUint32(b, p.Off)
	b = binary.LittleEndian.AppendUint64(b, p.Birth)
	b = append(b, p.Hash[:]...)
	for _, addr := range p.At {
		b = binary.LittleEndian.AppendUint16(b, addr)
	}
	return append(b, make([]byte, size-restAt)...)
}

// blockOf is a node's block, as the chapter's words tell it.
func blockOf(n node.Node) []byte {
	var b []byte
	for _, p := range n {
		b = append(b, bytesOf(p)...)
	}
	return b
}

// may is whether a pointer may be, as chapter 6 tells it.
func may(p api.Ptr) bool {
	switch {
	case p.Kind < 1 || p.Kind > 5, p.At == [4]uint16{}:
		return false
	case p.Kind == api.Node && p.Level != 1 && p.Level != 2, p.Kind != api.Node && p.Level != 0:
		return false
	case p.Kind == api.Data && (p.At[1] != 0 || p.At[3] != 0):
		return false
	}
	return (p.At[0] == 0 || p.At[0] != p.At[1]) && (p.At[2] == 0 || p.At[2] != p.At[3])
}

// plainTake is a block's node, as the chapters' words tell it, and whether there is one.
func plainTake(block []byte) (node.Node, bool) {
	var n node.Node
	if len(block) != 512 {
		return node.Node{}, false
	}
	for i := range n {
		b := block[size*i : size*i+size]
		p := api.Ptr{Kind: b[0], Level: b[1], Obj: binary.LittleEndian.Uint16(b[2:]), Off: binary.LittleEndian.Uint32(b[4:]), Birth: binary.LittleEndian.Uint64(b[8:])}
		copy(p.Hash[:], b[hashAt:addrAt])
		for j := range p.At {
			p.At[j] = binary.LittleEndian.Uint16(b[addrAt+2*j:])
		}
		if !bytes.Equal(b[restAt:], make([]byte, 8)) || p != (api.Ptr{}) && !may(p) {
			return node.Node{}, false
		}
		n[i] = p
	}
	return n, true
}

// mays are pointers that may be, of each kind and level, and of the least and the greatest numbers.
func mays() []api.Ptr {
	all := []api.Ptr{
		{Kind: api.Data, At: [4]uint16{1}},
		{Kind: api.Data, Obj: 1, Off: 63, Birth: 7, At: [4]uint16{5, 0, 5, 0}},
		{Kind: api.Data, Obj: 255, At: [4]uint16{2: 9}},
		{Kind: api.Meta, Obj: math.MaxUint16, Off: math.MaxUint32, Birth: math.MaxUint64, At: [4]uint16{math.MaxUint16, 1, 2, math.MaxUint16}},
		{Kind: api.Node, Level: 1, Obj: 0x0201, Off: 0x06050403, Birth: 0x0e0d0c0b0a090807, At: [4]uint16{0x0201, 0x0403, 0x0605, 0x0807}},
		{Kind: api.Node, Level: 2, Birth: 1, At: [4]uint16{1: 3}},
		{Kind: api.Table, At: [4]uint16{1, 2, 1, 2}},
		{Kind: api.Root, Birth: 1 << 63, At: [4]uint16{3: 4}},
	}
	for i := range all {
		all[i].Hash = [32]byte(some(32, i))
	}
	return append(all, api.Ptr{Kind: api.Root, At: [4]uint16{4, 3, 2, 1}})
}

// mayNots are pointers that may not be, and are no holes; each breaks one rule alone.
func mayNots() []api.Ptr {
	full := [4]uint16{1, 2, 3, 4}
	data := [4]uint16{1, 0, 3, 0}
	return []api.Ptr{
		{At: full}, {Birth: 1, At: data},
		{Kind: 6, At: full}, {Kind: 255, At: data}, {Kind: 128 + api.Meta, At: full},
		{Kind: api.Data, Level: 1, At: data}, {Kind: api.Meta, Level: 1, At: full}, {Kind: api.Table, Level: 2, At: full}, {Kind: api.Root, Level: 255, At: full},
		{Kind: api.Node, At: full}, {Kind: api.Node, Level: 3, At: full},
		{Kind: api.Data}, {Kind: api.Node, Level: 1}, {Kind: api.Root, Obj: 1, Off: 2, Birth: 3, Hash: [32]byte{4}},
		{Kind: api.Meta, At: [4]uint16{1, 1, 3, 4}}, {Kind: api.Table, At: [4]uint16{2: 9, 3: 9}},
		{Kind: api.Data, At: [4]uint16{1, 2}}, {Kind: api.Data, At: [4]uint16{3: 1}},
		{Off: 1}, {Obj: 1}, {Birth: 1}, {Level: 1}, {Hash: [32]byte{31: 1}}, {At: [4]uint16{3: 1}},
	}
}

// nodes are of all sorts: one with a hole and all kinds, full ones, sparse ones, and one of eight times the same.
func nodes() []node.Node {
	of := mays()
	all := []node.Node{{3: of[4]}, {}, {}, {7: of[0]}, {0: of[3], 7: of[6]}, {}}
	for i := range api.Fan {
		all[1][i] = of[i]
		all[2][i] = of[len(of)-1-i]
		all[5][i] = of[4]
	}
	draw := draws(5)
	for range 20 {
		var n node.Node
		for i := range n {
			if draw(2) == 0 {
				n[i] = of[draw(len(of))]
			}
		}
		all = append(all, n)
	}
	return all
}

// draws hands out numbers below n, the same ones for the same seed.
func draws(seed uint32) func(n int) int {
	return func(n int) int {
		seed = seed*1664525 + 1013904223
		return int(seed>>8) % n
	}
}

// P9.1: the plain words and the cases of these tests are of one mind.
func TestCases(t *testing.T) {
	for _, p := range mays() {
		if !may(p) {
			t.Errorf("%v may not be", p)
		}
	}
	for _, p := range mayNots() {
		if may(p) || p == (api.Ptr{}) {
			t.Errorf("%v may be", p)
		}
	}
}

// P9.1 to P9.3: blocks of which a few bytes were drawn, held against the plain words: what is read is put as the block that it was.
func TestDrawnBlocks(t *testing.T) {
	draw := draws(9)
	read := 0
	for range 20000 {
		b := blockOf(nodes()[draw(6)])
		for range 1 + draw(3) {
			b[size*draw(api.Fan)+draw(size)] = byte(draw(256))
		}
		want, ok := plainTake(b)
		got, e := node.Take(b)
		if got != want || ok != (e == api.OK) {
			t.Fatalf("Take of % x: %v, %v, want %v, %v", b, got, e, want, ok)
		}
		if ok {
			read++
			puts(t, got, b)
		}
	}
	if read < 2000 || read > 18000 {
		t.Errorf("%d of 20000 were read", read)
	}
}

// P9.1 to P9.3: long scripts of With, held against a plain list of pointers.
func TestScripts(t *testing.T) {
	draw := draws(1)
	of := append(append(mays(), mayNots()[:3]...), api.Ptr{}, api.Ptr{}, api.Ptr{})
	for range 200 {
		var n node.Node
		list := make([]api.Ptr, 8)
		for range 60 {
			i, p := draw(12)-2, of[draw(len(of))]
			n = n.With(i, p)
			if i >= 0 && i < 8 {
				list[i] = p
			}
			count, fine := 0, true
			for _, q := range list {
				if q != (api.Ptr{}) {
					count++
					fine = fine && may(q)
				}
			}
			b, e := n.Put()
			switch {
			case n != node.Node(list), n.Len() != count, n.Empty() != (count == 0), fine != (e == api.OK):
				t.Fatalf("%v, want %v", n, list)
			case fine:
				takes(t, b, n)
			case len(b) != 0 || e != api.ErrForm:
				t.Fatalf("%d bytes, %v", len(b), e)
			}
		}
	}
}
