package table_test

import (
	"bytes"
	"crypto/sha256"
	"encoding/binary"
	"fmt"
	"maps"
	"math"
	"slices"
	"testing"

	"kintsugi/api"
	"kintsugi/inode"
	"kintsugi/table"
	"kintsugi/tree"
)

// event is what a sink was asked, or told.
type event struct {
	what  string // read, new, old
	p     api.Ptr
	block string // of new
}

// String tells it without the block's bytes, that nobody can read.
func (e event) String() string {
	return fmt.Sprintf("%s %v (%d bytes)", e.what, e.p, len(e.block))
}

// answer is one of a sink.
type answer struct {
	p     api.Ptr
	block []byte
	e     api.Errno
}

// store is a sink in memory; each of its blocks is at an address of its own.
type store struct {
	blocks map[api.Ptr][]byte
	log    []event
	asked  int                                     // how many answers were given
	ill    func(n int, what string) (bool, answer) // what is answered in the place of the n-th answer, if it is
}

// fresh is a store of no blocks.
func fresh() *store { return &store{blocks: map[api.Ptr][]byte{}} }

// twin is another store of the same blocks.
func (s *store) twin() *store { return &store{blocks: maps.Clone(s.blocks)} }

// turn counts an answer, and is what stands in its place, if there is something.
func (s *store) turn(what string) (bool, answer) {
	s.asked++
	if s.ill == nil {
		return false, answer{}
	}
	return s.ill(s.asked, what)
}

func (s *store) Read(p api.Ptr) ([]byte, api.Errno) {
	s.log = append(s.log, event{"read", p, ""})
	if ill, a := s.turn("read"); ill {
		return a.block, a.e
	}
	if b, ok := s.blocks[p]; ok {
		return b, api.OK
	}
	return nil, api.ErrDead
}

func (s *store) New(p api.Ptr, block []byte) (api.Ptr, api.Errno) {
	s.log = append(s.log, event{"new", p, string(block)})
	if ill, a := s.turn("new"); ill {
		return a.p, a.e
	}
	p = sealed(p, len(s.blocks)+1, string(block))
	s.blocks[p] = bytes.Clone(block)
	// What a sink does with the block that it was handed is its own matter.
	for i := range block {
		block[i] = 0xee
	}
	return p, api.OK
}

func (s *store) Old(p api.Ptr) { s.log = append(s.log, event{"old", p, ""}) }

// told is what the store was asked and told since it was asked for that last.
func (s *store) told() []event {
	log := s.log
	s.log = nil
	return log
}

// put is the pointer of a block that the store has from now on, whoever made it.
func (s *store) put(p api.Ptr, block string) api.Ptr {
	p = sealed(p, len(s.blocks)+1, block)
	s.blocks[p] = []byte(block)
	return p
}

// sealed is the whole pointer of a store's n-th block.
func sealed(p api.Ptr, n int, block string) api.Ptr {
	p.Birth, p.At = uint64(1000+n), [4]uint16{uint16(n), uint16(n + 1), uint16(n), uint16(n + 1)}
	p.Hash = sha256.Sum256([]byte(block))
	return p
}

// The tags of the blocks that a table is made of.
func leafTag(off uint32) api.Ptr { return api.Ptr{Kind: 4, Off: off} }
func midTag(off uint32) api.Ptr  { return api.Ptr{Kind: 3, Level: 1, Off: off} }
func rootTag() api.Ptr           { return api.Ptr{Kind: 3, Level: 2} }

// ptrBytes is a pointer's bytes, as chapter 6 tells them.
func ptrBytes(p api.Ptr) []byte {
	b := binary.LittleEndian.AppendUint16([]byte{p.Kind, p.Level}, p.Obj)
	b = binary.LittleEndian.AppendUint32(b, p.Off)
	b = binary.LittleEndian.AppendUint64(b, p.Birth)
	b = append(b, p.Hash[:]...)
	for _, addr := range p.At {
		b = binary.LittleEndian.AppendUint16(b, addr)
	}
	return append(b, make([]byte, 8)...)
}

// topBytes is a top's block, as the chapter's words tell it.
func topBytes(t table.Top) []byte {
	b := binary.LittleEndian.AppendUint64(nil, t.Gen)
	b = append(b, ptrBytes(t.Table)...)
	return append(b, make([]byte, 512-72)...)
}

// inodeBytes is a table block, as chapter 11 tells it.
func inodeBytes(four ...inode.Inode) string {
	var all []byte
	for _, n := range four {
		b := binary.LittleEndian.AppendUint16([]byte{n.Kind, 0}, n.Links)
		b = binary.LittleEndian.AppendUint32(b, n.Size)
		b = append(b, ptrBytes(n.Root)...)
		all = append(all, append(b, make([]byte, 128-72)...)...)
	}
	return string(all)
}

// nodeBytes is the block of a node of which these pointers stand at these places, as chapter 9 tells it.
func nodeBytes(at map[int]api.Ptr) string {
	var b []byte
	for i := range 8 {
		b = append(b, ptrBytes(at[i])...)
	}
	return string(b)
}

// file is an inode, another one of each number.
func file(n int) inode.Inode {
	return inode.Inode{Kind: inode.File, Links: uint16(n%7 + 1), Size: uint32(n)}
}

// inodes are some that may be, of each kind, at the edges.
func inodes() []inode.Inode {
	root := api.Ptr{Kind: api.Node, Level: 2, Obj: 9, Birth: 7, Hash: [32]byte{3, 31: 4}, At: [4]uint16{5, 6, 7, 8}}
	return []inode.Inode{
		{Kind: inode.File}, {Kind: inode.File, Links: math.MaxUint16, Size: api.MaxFile, Root: root},
		{Kind: inode.Dir}, {Kind: inode.Dir, Links: 2, Size: 100, Root: root},
		{Kind: inode.Link, Size: 1}, {Kind: inode.Link, Links: 1, Size: api.MaxTarget, Root: root},
	}
}

// notInodes are some that may not be; each breaks one rule alone.
func notInodes() []inode.Inode {
	return []inode.Inode{
		{Kind: 4}, {Kind: 7}, {Kind: 255, Links: 1}, {Links: 1}, {Size: 1}, {Root: api.Ptr{Kind: api.Node, Level: 2, At: [4]uint16{1}}},
		{Kind: inode.File, Size: api.MaxFile + 1}, {Kind: inode.Dir, Size: math.MaxUint32}, {Kind: inode.Link}, {Kind: inode.Link, Size: api.MaxTarget + 1},
		{Kind: inode.File, Root: api.Ptr{Kind: api.Node, Level: 1, At: [4]uint16{1}}}, {Kind: inode.Dir, Root: api.Ptr{Kind: api.Node, Level: 2}},
		{Kind: inode.File, Root: api.Ptr{Kind: api.Data, At: [4]uint16{1}}}, {Kind: inode.File, Root: api.Ptr{Birth: 1}},
	}
}

// pointers are some that may be, of each kind and level, and of the least and the greatest numbers.
func pointers() []api.Ptr {
	return []api.Ptr{
		{Kind: api.Data, At: [4]uint16{1}},
		{Kind: api.Data, Obj: 255, Off: 63, Birth: 7, At: [4]uint16{2: 9}},
		{Kind: api.Meta, Obj: math.MaxUint16, Off: math.MaxUint32, Birth: math.MaxUint64, At: [4]uint16{math.MaxUint16, 1, 2, math.MaxUint16}},
		{Kind: api.Node, Level: 1, Obj: 0x0201, Off: 0x06050403, At: [4]uint16{1, 2, 3, 4}},
		{Kind: api.Node, Level: 2, Birth: 1, At: [4]uint16{1: 3}},
		{Kind: api.Node, Level: 2, Obj: 3, Hash: [32]byte{1, 31: 2}, At: [4]uint16{math.MaxUint16, 1, 2, 3}},
		{Kind: api.Table, Hash: [32]byte{1, 31: 2}, At: [4]uint16{1, 2, 1, 2}},
		{Kind: api.Root, Birth: 1 << 63, At: [4]uint16{3: 4}},
	}
}

// notPointers are some that may not be, and are no holes; each breaks one rule alone.
func notPointers() []api.Ptr {
	full := [4]uint16{1, 2, 3, 4}
	return []api.Ptr{
		{At: full}, {Kind: 6, At: full}, {Kind: 255, At: [4]uint16{1, 0, 3, 0}},
		{Kind: api.Data, Level: 1, At: [4]uint16{1, 0, 3, 0}}, {Kind: api.Table, Level: 2, At: full},
		{Kind: api.Node, At: full}, {Kind: api.Node, Level: 3, At: full},
		{Kind: api.Data}, {Kind: api.Node, Level: 1}, {Kind: api.Node, Level: 2, Birth: 3, Hash: [32]byte{4}},
		{Kind: api.Node, Level: 2, At: [4]uint16{1, 1, 3, 4}}, {Kind: api.Node, Level: 2, At: [4]uint16{2: 9, 3: 9}},
		{Kind: api.Data, At: [4]uint16{1, 2}}, {Kind: api.Data, At: [4]uint16{3: 1}},
		{Off: 1}, {Obj: 1}, {Birth: 1}, {Level: 2}, {Hash: [32]byte{31: 1}}, {At: [4]uint16{3: 1}},
	}
}

// plain is a table as the list of its inodes, and its root beside them.
type plain struct {
	root api.Ptr
	ins  [256]inode.Inode // at 0 always the zero one
}

// items are the inodes that are not zero.
func (w plain) items() []table.Item {
	var l []table.Item
	for num, n := range w.ins {
		if n != (inode.Inode{}) {
			l = append(l, table.Item{Num: uint16(num), In: n})
		}
	}
	return l
}

// leaf is the block of a leaf of an offset.
func (w plain) leaf(off uint32) string {
	return inodeBytes(w.ins[4*off], w.ins[4*off+1], w.ins[4*off+2], w.ins[4*off+3])
}

// set is what the table becomes by these items, on a store, in the chapter's words; a tree is set by its own layer.
func (w plain) set(t *testing.T, s *store, l []table.Item) plain {
	t.Helper()
	next := w
	for _, x := range l {
		next.ins[x.Num] = x.In
	}
	var leaves []tree.Leaf
	for off := range uint32(64) {
		if !slices.ContainsFunc(l, func(x table.Item) bool { return uint32(x.Num)/4 == off }) {
			continue
		}
		p, e := tree.Get(s, w.root, off)
		if e != api.OK {
			t.Fatal(e)
		}
		if p != (api.Ptr{}) {
			s.Read(p)
		}
		block := next.leaf(off)
		if block == w.leaf(off) {
			continue
		}
		p = api.Ptr{}
		if block != string(make([]byte, 512)) {
			p, _ = s.New(leafTag(off), []byte(block))
		}
		leaves = append(leaves, tree.Leaf{Off: off, P: p})
	}
	var e api.Errno
	if next.root, e = tree.Set(s, w.root, 0, leaves); e != api.OK {
		t.Fatal(e)
	}
	return next
}

// draws hands out numbers below n, the same ones for the same seed.
func draws(seed uint32) func(n int) int {
	return func(n int) int {
		seed = seed*1664525 + 1013904223
		return int(seed>>8) % n
	}
}

// drawn are items to set, by rising numbers; some are what the table has there, some are zero.
func drawn(draw func(n int) int, w plain) []table.Item {
	var l []table.Item
	often, zeros := 1+draw(120), 1+draw(6)
	low, high := draw(256), draw(256)
	some := inodes()
	for num := 1; num < 256; num++ {
		if draw(often) > 0 || draw(2) == 0 && (num < low || num > high) {
			continue
		}
		x := table.Item{Num: uint16(num)}
		switch draw(3 + zeros) {
		case 0:
			x.In = w.ins[num]
		case 1:
			x.In = some[draw(len(some))]
		case 2:
			x.In = file(draw(30000))
		}
		l = append(l, x)
	}
	return l
}

// looksLike says where a store's table is not the plain one; All reads the nodes first, then the leaves, Get the way to its leaf.
func looksLike(t *testing.T, s *store, w plain) {
	t.Helper()
	leaves, blocks, e := tree.All(s, w.root)
	if e != api.OK {
		t.Fatal(e)
	}
	at := map[uint32]api.Ptr{}
	for _, x := range leaves {
		at[x.Off] = x.P
		blocks = append(blocks, x.P)
	}
	s.told()
	l, got, e := table.All(s, w.root)
	if e != api.OK || !slices.Equal(l, w.items()) || !slices.Equal(got, blocks) {
		t.Fatalf("All: %v, %v, %v, want %v, %v", l, got, e, w.items(), blocks)
	}
	reads(t, s, blocks...)
	for num := uint16(1); num < 256; num++ {
		n, e := table.Get(s, w.root, num)
		if e != api.OK || n != w.ins[num] {
			t.Fatalf("Get(%d): %v, %v, want %v", num, n, e, w.ins[num])
		}
		log := s.told()
		_, _ = tree.Get(s, w.root, uint32(num)/4)
		want := s.told()
		if p := at[uint32(num)/4]; p != (api.Ptr{}) {
			want = append(want, event{"read", p, ""})
		}
		if !slices.Equal(log, want) {
			t.Fatalf("Get(%d): asked and told %v, want %v", num, log, want)
		}
	}
}

// reads says where a store was not asked for just these blocks, in order, and nothing else.
func reads(t *testing.T, s *store, want ...api.Ptr) {
	t.Helper()
	var log []event
	for _, p := range want {
		log = append(log, event{"read", p, ""})
	}
	tells(t, s, log...)
}

// tells says where what a store was asked and told is not this.
func tells(t *testing.T, s *store, want ...event) {
	t.Helper()
	if got := s.told(); !slices.Equal(got, want) {
		t.Errorf("asked and told %v, want %v", got, want)
	}
}

// P12.2 to P12.5: long scripts, each Set held against the plain table, with all that the sink is asked and told; and at the end every table that was made is what it was.
func TestScripts(t *testing.T) {
	for seed := range uint32(12) {
		draw := draws(seed)
		s := fresh()
		all := []plain{{}}
		for range 20 {
			w := all[len(all)-1]
			if draw(9) == 0 {
				w = all[draw(len(all))]
			}
			l := drawn(draw, w)
			twin := s.twin()
			want := w.set(t, twin, l)
			s.told()
			root, e := table.Set(s, w.root, l)
			if e != api.OK || root != want.root {
				t.Fatalf("Set %v: %v, %v, want %v", l, root, e, want.root)
			}
			tells(t, s, twin.told()...)
			looksLike(t, s, want)
			all = append(all, want)
		}
		for _, w := range all {
			looksLike(t, s, w)
		}
	}
}

// P12.5: a table that comes to have the inodes that another one has tells the same, by whatever steps it came there.
func TestWaysToTheSame(t *testing.T) {
	draw := draws(8)
	for range 40 {
		l := drawn(draw, plain{})
		once := plain{}.set(t, fresh(), l)
		s := fresh()
		var root api.Ptr
		for len(l) > 0 {
			i := draw(len(l))
			var e api.Errno
			if root, e = table.Set(s, root, l[i:i+1]); e != api.OK {
				t.Fatal(e)
			}
			l = slices.Delete(l, i, i+1)
		}
		looksLike(t, s, plain{root, once.ins})
	}
}
