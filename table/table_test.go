package table_test

import (
	"bytes"
	"math"
	"slices"
	"testing"

	"kintsugi/api"
	"kintsugi/disk"
	"kintsugi/inode"
	"kintsugi/mirror"
	"kintsugi/ptr"
	"kintsugi/space"
	"kintsugi/table"
	"kintsugi/tree"
)

// grown is a store with a table of these numbers, which is told, too, as a plain one.
func grown(t *testing.T, nums ...int) (*store, plain) {
	t.Helper()
	s := fresh()
	var l []table.Item
	for _, num := range nums {
		l = append(l, table.Item{Num: uint16(num), In: file(num)})
	}
	root, e := table.Set(s, api.Ptr{}, l)
	w := plain{}.set(t, fresh(), l)
	if e != api.OK || root != w.root {
		t.Fatalf("Set %v: %v, %v, want %v", nums, root, e, w.root)
	}
	s.told()
	return s, w
}

// each are all numbers.
func each() []int {
	var nums []int
	for num := 1; num <= 255; num++ {
		nums = append(nums, num)
	}
	return nums
}

// way are the pointers of what is read on the way to a leaf, itself the last.
func way(t *testing.T, s *store, root api.Ptr, off uint32) []api.Ptr {
	t.Helper()
	twin := s.twin()
	p, e := tree.Get(twin, root, off)
	if e != api.OK {
		t.Fatal(e)
	}
	var ps []api.Ptr
	for _, x := range twin.told() {
		ps = append(ps, x.p)
	}
	if p != (api.Ptr{}) {
		ps = append(ps, p)
	}
	return ps
}

// sets says where Set does not answer a root, and OK.
func sets(t *testing.T, s tree.Sink, root api.Ptr, l []table.Item, want api.Ptr) {
	t.Helper()
	if got, e := table.Set(s, root, l); got != want || e != api.OK {
		t.Errorf("Set %v: %v, %v, want %v", l, got, e, want)
	}
}

// gets says where Get does not answer an inode, and OK.
func gets(t *testing.T, s tree.Source, root api.Ptr, num uint16, want inode.Inode) {
	t.Helper()
	if got, e := table.Get(s, root, num); got != want || e != api.OK {
		t.Errorf("Get(%d): %v, %v, want %v", num, got, e, want)
	}
}

// tops says where a top is not put as a block, and taken as itself.
func tops(t *testing.T, top table.Top, want []byte) {
	t.Helper()
	if b := table.PutTop(top); !bytes.Equal(b, want) {
		t.Errorf("PutTop of %v: % x, want % x", top, b, want)
	}
	if got, e := table.TakeTop(want); got != top || e != api.OK {
		t.Errorf("TakeTop: %v, %v, want %v", got, e, top)
	}
}

// noTop says where bytes are taken for a top.
func noTop(t *testing.T, what string, block []byte) {
	t.Helper()
	if got, e := table.TakeTop(block); got != (table.Top{}) || e != api.ErrForm {
		t.Errorf("%s, %d bytes: %v, %v", what, len(block), got, e)
	}
}

// call is one of the package's calls on a table, and whether it answered nothing but its error.
type call struct {
	name string
	do   func(s tree.Sink, root api.Ptr) (api.Errno, bool)
}

// calls are all of them: of an inode that is there, and of one that is set.
func calls(num uint16) []call {
	set := func(in inode.Inode) func(s tree.Sink, root api.Ptr) (api.Errno, bool) {
		return func(s tree.Sink, root api.Ptr) (api.Errno, bool) {
			p, e := table.Set(s, root, []table.Item{{Num: num, In: in}})
			return e, p == api.Ptr{}
		}
	}
	return []call{
		{"Get", func(s tree.Sink, root api.Ptr) (api.Errno, bool) {
			n, e := table.Get(s, root, num)
			return e, n == inode.Inode{}
		}},
		{"All", func(s tree.Sink, root api.Ptr) (api.Errno, bool) {
			l, blocks, e := table.All(s, root)
			return e, len(l) == 0 && len(blocks) == 0
		}},
		{"Set", set(file(9999))},
		{"Set the zero one", set(inode.Inode{})},
	}
}

// The chapter's examples.
func TestExamples(t *testing.T) {
	s := fresh()
	root, e := table.Set(s, api.Ptr{}, []table.Item{{Num: 1, In: file(1)}, {Num: 5, In: file(5)}})
	var made []api.Ptr
	for _, x := range s.told() {
		made = append(made, x.p)
		if x.what != "new" {
			t.Errorf("%v", x)
		}
	}
	if want := []api.Ptr{leafTag(0), leafTag(1), midTag(0), rootTag()}; e != api.OK || !slices.Equal(made, want) {
		t.Errorf("made %v, want %v; %v", made, want, e)
	}
	gets(t, s, root, 1, file(1))
	gets(t, s, root, 2, inode.Inode{})
}

// P12.1: a top byte by byte: the generation, the pointer's bytes, noughts.
func TestTopBytes(t *testing.T) {
	top := table.Top{Gen: 0x0807060504030201, Table: api.Ptr{Kind: api.Node, Level: 2, Obj: 0x0a09, Off: 0x0e0d0c0b, Birth: 0x161514131211100f, At: [4]uint16{0x1817, 0x1a19, 0x1c1b, 0x1e1d}}}
	want := make([]byte, 512)
	copy(want, []byte{1, 2, 3, 4, 5, 6, 7, 8, 3, 2, 9, 10, 11, 12, 13, 14, 15, 16, 17, 18, 19, 20, 21, 22})
	for i := range top.Table.Hash {
		top.Table.Hash[i] = byte(100 + i)
		want[24+i] = byte(100 + i)
	}
	copy(want[56:], []byte{23, 24, 25, 26, 27, 28, 29, 30})
	tops(t, top, want)
	tops(t, table.Top{}, make([]byte, 512))
	tops(t, table.Top{Gen: 258}, append([]byte{2, 1}, make([]byte, 510)...))
}

// P12.1: tops of each pointer that may be, of a hole, and of generations at the edges.
func TestTops(t *testing.T) {
	for _, gen := range []uint64{0, 1, 255, 256, 1 << 32, 1<<63 - 1, 1 << 63, math.MaxUint64} {
		for _, p := range append(pointers(), api.Ptr{}) {
			top := table.Top{Gen: gen, Table: p}
			tops(t, top, topBytes(top))
		}
	}
}

// P12.1: of a pointer that may not be, the block has it as it is, and is no top's.
func TestTopOfNoPointer(t *testing.T) {
	for _, p := range notPointers() {
		top := table.Top{Gen: 7, Table: p}
		if b := table.PutTop(top); !bytes.Equal(b, topBytes(top)) {
			t.Errorf("PutTop of %v: % x", top, b)
		}
		noTop(t, "a pointer that may not be", topBytes(top))
	}
}

// P12.1: bytes that are no Block are no top's: none, fewer, more, those of whole tops too.
func TestTopLengths(t *testing.T) {
	long := bytes.Repeat(topBytes(table.Top{Gen: 3, Table: pointers()[4]}), 3)
	noTop(t, "nil", nil)
	for n := range 2*api.Block + 1 {
		if n == api.Block {
			continue
		}
		noTop(t, "noughts", make([]byte, n))
		noTop(t, "tops", long[:n])
		noTop(t, "a top, and noughts", append(slices.Clone(long[:min(n, 512)]), make([]byte, max(0, n-512))...))
	}
	noTop(t, "bytes of 255", bytes.Repeat([]byte{255}, api.Block))
}

// P12.1: what must be noughts, in the pointer and behind it, is asked to be, each byte of it.
func TestTopNoughts(t *testing.T) {
	for _, p := range append(pointers(), api.Ptr{}) {
		for at := 64; at < 512; at++ {
			b := topBytes(table.Top{Gen: 5, Table: p})
			b[at] = 1 << (at % 8)
			noTop(t, "no nought", b)
		}
	}
}

// P12.1: a byte that is changed makes another top, or none; what is taken is put as the block that it was.
func TestTopBytesCount(t *testing.T) {
	for _, p := range append(pointers(), api.Ptr{}) {
		top := table.Top{Gen: 5, Table: p}
		for at := range 80 {
			for _, x := range []byte{1, 2, 4, 128, 255} {
				b := topBytes(top)
				b[at] ^= x
				got, e := table.TakeTop(b)
				if e == api.OK && (got == top || !bytes.Equal(table.PutTop(got), b)) {
					t.Errorf("byte %d by %d: %v", at, x, got)
				}
				if e != api.OK && (e != api.ErrForm || at < 8 || got != table.Top{}) {
					t.Errorf("byte %d by %d: %v, %v", at, x, got, e)
				}
			}
		}
	}
}

// P12.2, P12.3: an inode alone, of each number: it is got, at every other number there is the zero one; what is read is the way to the leaf.
func TestGet(t *testing.T) {
	for at := 1; at < 256; at += 1 + at%5 {
		s, w := grown(t, at)
		if w.ins[at] != file(at) || len(w.items()) != 1 || len(s.blocks) != 3 {
			t.Fatalf("%d: %v, %d blocks", at, w.items(), len(s.blocks))
		}
		looksLike(t, s, w)
	}
	s, w := grown(t, 255)
	gets(t, s, w.root, 255, file(255))
	reads(t, s, way(t, s, w.root, 63)...)
	gets(t, s, w.root, 254, inode.Inode{})
	reads(t, s, way(t, s, w.root, 63)...)
	gets(t, s, w.root, 223, inode.Inode{})
	reads(t, s, w.root)
}

// P12.2, P12.3: of a hole: the zero inode of each number, no inodes, no blocks, and nothing is read.
func TestHole(t *testing.T) {
	s := fresh()
	looksLike(t, s, plain{})
	if s.asked != 0 {
		t.Errorf("%d blocks were read", s.asked)
	}
}

// P12.3: inodes by numbers; the pointers of the nodes, the root first, then of the leaves; read in that order.
func TestAll(t *testing.T) {
	for _, nums := range [][]int{each(), {1}, {3}, {4}, {255}, {1, 255}, {3, 4}, {31, 32}, {1, 2, 3}, {252, 253, 254, 255}, {4, 8, 12, 16, 20, 24, 28, 32}, {40, 41, 43, 200}} {
		s, w := grown(t, nums...)
		items := w.items()
		if len(items) != len(nums) {
			t.Fatalf("%v: %v", nums, items)
		}
		for i, num := range nums {
			if items[i] != (table.Item{Num: uint16(num), In: file(num)}) {
				t.Errorf("%v: %v", nums, items[i])
			}
		}
		looksLike(t, s, w)
	}
	s, w := grown(t, 1, 40, 41, 44)
	_, blocks, e := table.All(s, w.root)
	var tags []api.Ptr
	for _, p := range blocks {
		tags = append(tags, api.Ptr{Kind: p.Kind, Level: p.Level, Obj: p.Obj, Off: p.Off})
	}
	if want := []api.Ptr{rootTag(), midTag(0), midTag(1), leafTag(0), leafTag(10), leafTag(11)}; e != api.OK || !slices.Equal(tags, want) {
		t.Errorf("%v, %v, want %v", tags, e, want)
	}
}

// P12.4, by hand: leaf by leaf, each one's way read, then the leaf, then its new block; one that stays, one that becomes a hole, one under a hole; and at the end the tree is set.
func TestSetOrder(t *testing.T) {
	s, w := grown(t, 1, 3, 8, 100, 255)
	at := map[uint32]api.Ptr{}
	leaves, nodes, _ := tree.All(s, w.root)
	for _, x := range leaves {
		at[x.Off] = x.P
	}
	root, low, mid, high := nodes[0], nodes[1], nodes[2], nodes[3]
	s.told()
	x, y, z := file(1001), file(1002), file(1003)
	l := []table.Item{{Num: 1, In: x}, {Num: 2, In: y}, {Num: 8}, {Num: 9}, {Num: 20, In: z}, {Num: 21}, {Num: 22, In: x}, {Num: 100, In: file(100)}, {Num: 101}, {Num: 255}}
	first, third := inodeBytes(inode.Inode{}, x, y, file(3)), inodeBytes(z, inode.Inode{}, x, inode.Inode{})
	newFirst, newThird := sealed(leafTag(0), 9, first), sealed(leafTag(5), 10, third)
	lower := nodeBytes(map[int]api.Ptr{0: newFirst, 5: newThird})
	newLow := sealed(midTag(0), 11, lower)
	top := nodeBytes(map[int]api.Ptr{0: newLow, 3: mid})
	read := func(p api.Ptr) event { return event{"read", p, ""} }
	old := func(p api.Ptr) event { return event{"old", p, ""} }
	sets(t, s, root, l, sealed(rootTag(), 12, top))
	tells(t, s,
		read(root), read(low), read(at[0]), event{"new", leafTag(0), first},
		read(root), read(low), read(at[2]),
		read(root), read(low), event{"new", leafTag(5), third},
		read(root), read(mid), read(at[25]),
		read(root), read(high), read(at[63]),
		read(root),
		read(low), old(at[0]), old(at[2]), old(low), event{"new", midTag(0), lower},
		read(high), old(at[63]), old(high),
		old(root), event{"new", rootTag(), top},
	)
}

// P12.4: what changes nothing reads just the leaves that it comes to, and makes and tells nothing: the root is the root.
func TestSetSame(t *testing.T) {
	s, w := grown(t, 1, 9, 10, 255)
	for _, l := range [][]table.Item{
		{{Num: 9, In: file(9)}},
		{{Num: 8}},
		{{Num: 8}, {Num: 9, In: file(9)}, {Num: 10, In: file(10)}, {Num: 11}},
	} {
		sets(t, s, w.root, l, w.root)
		reads(t, s, way(t, s, w.root, 2)...)
	}
	sets(t, s, w.root, []table.Item{{Num: 128}, {Num: 195}}, w.root)
	reads(t, s, w.root, w.root)
	sets(t, s, w.root, w.items(), w.root)
	reads(t, s, slices.Concat(way(t, s, w.root, 0), way(t, s, w.root, 2), way(t, s, w.root, 63))...)
	sets(t, s, api.Ptr{}, []table.Item{{Num: 1}, {Num: 255}}, api.Ptr{})
	tells(t, s)
}

// P12.4, R6: where no inodes are set, nothing is come to: the root is the root, be it readable or not.
func TestSetNone(t *testing.T) {
	s, w := grown(t, 1, 2)
	for _, root := range []api.Ptr{{}, w.root, {Kind: api.Node, Level: 2, At: [4]uint16{77}}} {
		sets(t, s, root, nil, root)
		sets(t, s, root, []table.Item{}, root)
	}
	tells(t, s)
}

// P12.4: a leaf of which all inodes go becomes a hole, at whatever place the last one stands, and at the end the root.
func TestSetHoles(t *testing.T) {
	s, w := grown(t, each()...)
	for off := range 64 {
		for _, i := range []int{off, off + 1, off + 2, off + 3} {
			num := 4*off + i%4
			if num == 0 {
				continue
			}
			twin := s.twin()
			want := w.set(t, twin, []table.Item{{Num: uint16(num)}})
			sets(t, s, w.root, []table.Item{{Num: uint16(num)}}, want.root)
			tells(t, s, twin.told()...)
			w = want
		}
		_, blocks, e := table.All(s, w.root)
		if e != api.OK || slices.ContainsFunc(blocks, func(p api.Ptr) bool { return p.Kind == api.Table && p.Off <= uint32(off) }) {
			t.Errorf("%d: %v, %v", off, blocks, e)
		}
		s.told()
	}
	if w.root != (api.Ptr{}) {
		t.Errorf("the root: %v", w.root)
	}
}

// P12.4, P12.5: inodes of each kind, at each place of a leaf, are got as they were set, beside what was there.
func TestKindsOfInodes(t *testing.T) {
	for _, in := range inodes() {
		for _, num := range []uint16{1, 2, 3, 4, 7, 128, 252, 255} {
			s, w := grown(t, 1, 2, 3, 5, 6, 129, 130, 253)
			root, e := table.Set(s, w.root, []table.Item{{Num: num, In: in}})
			if e != api.OK {
				t.Fatal(e)
			}
			next := w
			next.root, next.ins[num] = root, in
			looksLike(t, s, next)
			looksLike(t, s, w)
		}
	}
}

// P12.4: the new blocks are of the object 0, though the table's own blocks were of another one.
func TestObj(t *testing.T) {
	s := fresh()
	leaf := s.put(api.Ptr{Kind: api.Table, Obj: 7, Off: 9}, inodeBytes(file(0), file(1), file(2), file(3)))
	mid := s.put(api.Ptr{Kind: api.Node, Level: 1, Obj: 7, Off: 9}, nodeBytes(map[int]api.Ptr{1: leaf}))
	root := s.put(api.Ptr{Kind: api.Node, Level: 2, Obj: 7, Off: 9}, nodeBytes(map[int]api.Ptr{0: mid}))
	next, e := table.Set(s, root, []table.Item{{Num: 6, In: file(60)}})
	if e != api.OK {
		t.Fatal(e)
	}
	var made []api.Ptr
	for _, x := range s.told() {
		if x.what == "new" {
			made = append(made, x.p)
		}
	}
	if want := []api.Ptr{leafTag(1), midTag(0), rootTag()}; !slices.Equal(made, want) {
		t.Errorf("made %v, want %v", made, want)
	}
	looksLike(t, s, plain{next, [256]inode.Inode{4: file(0), file(1), file(60), file(3)}})
}

// P12.3, P12.4: a leaf of zero inodes alone, which no Set makes, is a leaf as others are, until it comes to have other inodes.
func TestZeroLeaf(t *testing.T) {
	s := fresh()
	leaf := s.put(leafTag(2), string(make([]byte, 512)))
	mid := s.put(midTag(0), nodeBytes(map[int]api.Ptr{2: leaf}))
	root := s.put(rootTag(), nodeBytes(map[int]api.Ptr{0: mid}))
	looksLike(t, s, plain{root: root})
	sets(t, s, root, []table.Item{{Num: 8}, {Num: 11}}, root)
	reads(t, s, root, mid, leaf)
	w := plain{root: root}
	want := w.set(t, s.twin(), []table.Item{{Num: 11, In: file(1)}})
	sets(t, s, root, []table.Item{{Num: 11, In: file(1)}}, want.root)
	looksLike(t, s, want)
}

// P12.2 to P12.4: the number 0 has no inode, whatever a block has in its place: it is not told, and not touched.
func TestPlaceOfNought(t *testing.T) {
	s := fresh()
	leaf := s.put(leafTag(0), inodeBytes(file(70), file(71), inode.Inode{}, inode.Inode{}))
	mid := s.put(midTag(0), nodeBytes(map[int]api.Ptr{0: leaf}))
	root := s.put(rootTag(), nodeBytes(map[int]api.Ptr{0: mid}))
	looksLike(t, s, plain{root, [256]inode.Inode{1: file(71)}})
	if n, e := table.Get(s, root, 0); n != (inode.Inode{}) || e != api.ErrArg {
		t.Errorf("Get(0): %v, %v", n, e)
	}
	sets(t, s, root, []table.Item{{Num: 1, In: file(71)}}, root)
	s.told()
	next, e := table.Set(s, root, []table.Item{{Num: 1}, {Num: 2, In: file(72)}})
	if e != api.OK {
		t.Fatal(e)
	}
	if want := (event{"new", leafTag(0), inodeBytes(file(70), inode.Inode{}, file(72), inode.Inode{})}); s.told()[3] != want {
		t.Errorf("the leaf was not made as %v", want)
	}
	looksLike(t, s, plain{next, [256]inode.Inode{2: file(72)}})
}

// No source, no sink: ErrNil, ahead of all that else is wrong.
func TestErrNil(t *testing.T) {
	for _, root := range append(notPointers(), pointers()...) {
		for _, num := range []uint16{0, 1, 255, 256} {
			if n, e := table.Get(nil, root, num); n != (inode.Inode{}) || e != api.ErrNil {
				t.Errorf("Get: %v, %v", n, e)
			}
			for _, l := range [][]table.Item{nil, {{Num: num}}, {{Num: num}, {Num: 0, In: notInodes()[0]}}} {
				if p, e := table.Set(nil, root, l); p != (api.Ptr{}) || e != api.ErrNil {
					t.Errorf("Set: %v, %v", p, e)
				}
			}
		}
		if l, blocks, e := table.All(nil, root); len(l) > 0 || len(blocks) > 0 || e != api.ErrNil {
			t.Errorf("All: %v, %v, %v", l, blocks, e)
		}
	}
	var none tree.Sink
	if _, e := table.Get(none, api.Ptr{}, 1); e != api.ErrNil {
		t.Errorf("Get: %v", e)
	}
}

// R1: a nil mirror is a source, which tells so itself where it is asked.
func TestNilMirror(t *testing.T) {
	var m *mirror.Mirror
	gets(t, m, api.Ptr{}, 3, inode.Inode{})
	if n, e := table.Get(m, pointers()[4], 3); n != (inode.Inode{}) || e != api.ErrNil {
		t.Errorf("%v, %v", n, e)
	}
}

// A root that is neither a hole nor a pointer that may be, of a Node of level 2: ErrArg, and nothing is asked or told.
func TestRootErrArg(t *testing.T) {
	for _, root := range append(notPointers(), pointers()...) {
		if root.Kind == api.Node && root.Level == 2 && ptr.May(root) {
			continue
		}
		s := fresh()
		for _, c := range calls(3) {
			if e, alone := c.do(s, root); e != api.ErrArg || !alone {
				t.Errorf("%s of %v: %v, %v", c.name, root, e, alone)
			}
		}
		if p, e := table.Set(s, root, nil); p != (api.Ptr{}) || e != api.ErrArg {
			t.Errorf("Set nothing of %v: %v, %v", root, p, e)
		}
		tells(t, s)
	}
}

// Numbers that are 0 or above MaxObject: ErrArg, ahead of what can't be read, and nothing is asked or told; those at the edges are numbers.
func TestNumErrArg(t *testing.T) {
	s, w := grown(t, 1, 255)
	unread := api.Ptr{Kind: api.Node, Level: 2, At: [4]uint16{99}}
	for _, num := range []uint16{0, 256, 257, 259, 260, 511, 512, 1 << 15, math.MaxUint16 - 1, math.MaxUint16} {
		for _, root := range []api.Ptr{{}, w.root, unread} {
			if n, e := table.Get(s, root, num); n != (inode.Inode{}) || e != api.ErrArg {
				t.Errorf("Get(%d): %v, %v", num, n, e)
			}
			for _, in := range []inode.Inode{{}, file(3)} {
				for _, l := range [][]table.Item{{{Num: num, In: in}}, {{Num: 1, In: in}, {Num: num, In: in}}, {{Num: num, In: in}, {Num: 255, In: in}}} {
					if p, e := table.Set(s, root, l); p != (api.Ptr{}) || e != api.ErrArg {
						t.Errorf("Set %v: %v, %v", l, p, e)
					}
				}
			}
		}
	}
	tells(t, s)
	gets(t, s, w.root, 1, file(1))
	gets(t, s, w.root, 255, file(255))
}

// Items whose numbers do not rise, or whose inodes may not be, at any place: ErrArg, ahead of what can't be read, and nothing is asked or told.
func TestSetErrArg(t *testing.T) {
	s, w := grown(t, 1, 255)
	refused := func(l []table.Item) {
		t.Helper()
		for _, root := range []api.Ptr{{}, w.root, {Kind: api.Node, Level: 2, At: [4]uint16{99}}} {
			if p, e := table.Set(s, root, l); p != (api.Ptr{}) || e != api.ErrArg {
				t.Errorf("Set %v: %v, %v", l, p, e)
			}
		}
		tells(t, s)
	}
	var l []table.Item
	for _, num := range each() {
		l = append(l, table.Item{Num: uint16(num), In: file(num)})
	}
	for i := range l {
		if i > 0 {
			equal, falling := slices.Clone(l), slices.Clone(l)
			equal[i].Num = equal[i-1].Num
			falling[i-1], falling[i] = falling[i], falling[i-1]
			refused(equal)
			refused(falling)
		}
		for _, in := range notInodes() {
			wrong := slices.Clone(l)
			wrong[i].In = in
			refused(wrong)
			refused(wrong[i : i+1])
		}
	}
	refused([]table.Item{{Num: 3}, {Num: 3}})
	refused([]table.Item{{Num: 255}, {Num: 1}})
	refused(append(slices.Clone(l), l[254]))
}

// faults are what a source may answer in the place of a block, and what the calls answer then, whether it was a node's or a leaf's.
func faults() map[api.Errno][]answer {
	all := map[api.Errno][]answer{api.EIO: {
		{}, {block: []byte{}}, {block: make([]byte, 511)}, {block: make([]byte, 513)}, {block: make([]byte, 128)}, {block: make([]byte, 1024)},
		{block: bytes.Repeat([]byte{255}, 512)}, {block: append([]byte{9}, make([]byte, 511)...)}, {block: append(make([]byte, 511), 1)},
	}}
	for _, e := range []api.Errno{api.ErrArg, api.ErrNil, api.ErrDead, api.ErrBad, api.ErrForm, api.EIO, api.EROFS, 999, -1} {
		all[e] = append(all[e], answer{e: e}, answer{e: e, block: make([]byte, 512)}, answer{e: e, block: []byte{1}})
	}
	return all
}

// P12.2 to P12.4, R4: whichever block on the way can't be read, or is not what it must be, the calls answer the source's error, or EIO, alone, and read no more.
func TestReadErrors(t *testing.T) {
	s, w := grown(t, each()...)
	for want, answers := range faults() {
		for _, a := range answers {
			for _, c := range calls(77) {
				last := 3
				if c.name == "All" {
					last = 9 + 64
				}
				for n := 1; n <= last; n++ {
					s.asked = 0
					s.ill = func(i int, what string) (bool, answer) { return i == n, a }
					if e, alone := c.do(s, w.root); e != want || !alone {
						t.Errorf("%s, read %d is %v: %v, %v, want %v", c.name, n, a, e, alone, want)
					}
					if s.asked != n {
						t.Errorf("%s, read %d is %v: %d were asked", c.name, n, a, s.asked)
					}
				}
			}
		}
	}
}

// A leaf's block that is no table block is EIO of all that read it, and of nothing else.
func TestLeafIsNoTableBlock(t *testing.T) {
	for _, in := range notInodes() {
		s := fresh()
		good := s.put(leafTag(1), inodeBytes(file(4), file(5), file(6), file(7)))
		wrong := s.put(leafTag(2), inodeBytes(file(8), in, file(10), file(11)))
		mid := s.put(midTag(0), nodeBytes(map[int]api.Ptr{1: good, 2: wrong}))
		root := s.put(rootTag(), nodeBytes(map[int]api.Ptr{0: mid}))
		for _, num := range []uint16{8, 9, 10, 11} {
			for _, c := range calls(num) {
				if e, alone := c.do(s, root); e != api.EIO || !alone {
					t.Errorf("%v: %s: %v, %v", in, c.name, e, alone)
				}
			}
		}
		gets(t, s, root, 7, file(7))
		gets(t, s, root, 12, inode.Inode{})
		if _, e := table.Set(s, root, []table.Item{{Num: 4}, {Num: 12, In: file(1)}}); e != api.OK {
			t.Errorf("%v: %v", in, e)
		}
	}
}

// P12.4, R4: whatever goes wrong behind the first leaf: its error alone, and no more is asked for: the way, the leaf, its new block, and then the tree's own.
func TestSetErrors(t *testing.T) {
	l := []table.Item{{Num: 1, In: file(501)}, {Num: 32, In: file(502)}, {Num: 255}}
	s, w := grown(t, each()...)
	twin := s.twin()
	if _, e := table.Set(twin, w.root, l); e != api.OK {
		t.Fatal(e)
	}
	var asked []string
	for _, x := range twin.told() {
		if x.what != "old" {
			asked = append(asked, x.what)
		}
	}
	if len(asked) != 3*4+1+3*2+1 {
		t.Fatalf("%v", asked)
	}
	for n, what := range asked {
		for want, answers := range faults() {
			for _, a := range answers {
				if a.e == api.OK && what == "new" {
					continue
				}
				s := s.twin()
				s.ill = func(i int, what string) (bool, answer) { return i == n+1, a }
				if p, e := table.Set(s, w.root, l); p != (api.Ptr{}) || e != want {
					t.Errorf("answer %d is %v: %v, %v, want %v", n, a, p, e, want)
				}
				if s.asked != n+1 {
					t.Errorf("answer %d is %v: %d were asked", n, a, s.asked)
				}
			}
		}
	}
}

// P12.4, R4: whichever new block the sink refuses, with whatever pointer beside: its error alone.
func TestNewErrors(t *testing.T) {
	l := []table.Item{{Num: 1, In: file(1)}, {Num: 32, In: file(2)}, {Num: 255, In: file(3)}}
	for _, want := range []api.Errno{api.ENOSPC, api.EIO, api.ErrDead, api.ErrNil, 999, -1} {
		for _, p := range []api.Ptr{{}, {Kind: api.Node, Level: 2, At: [4]uint16{1}}, {Kind: api.Table, At: [4]uint16{1}}, {Kind: 9}} {
			for n := 1; n <= 7; n++ {
				s := fresh()
				s.ill = func(i int, what string) (bool, answer) { return i == n, answer{p: p, e: want} }
				if root, e := table.Set(s, api.Ptr{}, l); root != (api.Ptr{}) || e != want {
					t.Errorf("new %d: %v, %v, want %v", n, root, e, want)
				}
				if s.asked != n {
					t.Errorf("new %d: %d were asked", n, s.asked)
				}
			}
		}
	}
}

// R1: a sink whose whole pointers are none: the call ends all the same, and answers no root beside an error.
func TestSinkThatAnswersNonsense(t *testing.T) {
	for _, p := range append(notPointers(), append(pointers(), api.Ptr{})...) {
		s := fresh()
		s.ill = func(i int, what string) (bool, answer) { return what == "new", answer{p: p} }
		root, e := table.Set(s, api.Ptr{}, []table.Item{{Num: 1, In: file(1)}})
		if e != api.OK && root != (api.Ptr{}) {
			t.Errorf("%v: %v, %v", p, root, e)
		}
	}
}

// R2: the same calls of two stores tell the same, whatever was done to others between.
func TestTheSameTellsTheSame(t *testing.T) {
	a, w := grown(t, 3, 30, 200)
	grown(t, each()...)
	b, v := grown(t, 3, 30, 200)
	if w != v {
		t.Errorf("%v, %v", w.root, v.root)
	}
	l := []table.Item{{Num: 3}, {Num: 31, In: file(7)}, {Num: 64, In: file(8)}, {Num: 128, In: file(8)}, {Num: 250, In: file(9)}}
	one, _ := table.Set(a, w.root, l)
	two, _ := table.Set(b, v.root, l)
	if one != two || !slices.Equal(a.told(), b.told()) {
		t.Errorf("%v, %v", one, two)
	}
}

// R3: items that are handed in, with the room behind their end, and the blocks that a source hands out, are not changed.
func TestNothingHandedInIsChanged(t *testing.T) {
	s, w := grown(t, each()...)
	was := map[api.Ptr]string{}
	for p, b := range s.blocks {
		was[p] = string(b)
	}
	room := []table.Item{{Num: 1}, {Num: 2, In: file(70)}, {Num: 3}, {Num: 4, In: file(71)}, {Num: 200, In: file(72)}, {Num: 201, In: file(73)}, {Num: 202, In: file(74)}}
	kept := slices.Clone(room)
	want := w.set(t, s.twin(), kept[:5])
	sets(t, s, w.root, room[:5], want.root)
	if !slices.Equal(room, kept) {
		t.Errorf("%v, was %v", room, kept)
	}
	looksLike(t, s, want)
	for p, b := range was {
		if string(s.blocks[p]) != b {
			t.Errorf("the block of %v was changed", p)
		}
	}
}

// R3: a top's block, with the room behind its end, is not changed and not kept.
func TestTopIsNotKept(t *testing.T) {
	want := table.Top{Gen: 4, Table: pointers()[5]}
	room := append(topBytes(want), 1, 2, 3)
	top, e := table.TakeTop(room[:512])
	if e != api.OK || !bytes.Equal(room, append(topBytes(want), 1, 2, 3)) {
		t.Errorf("%v, %v: the block was changed", top, e)
	}
	clear(room)
	if top != want {
		t.Error("the top hangs on the block's memory")
	}
}

// R3: what is told is new memory, each time, and no list shares it with the other.
func TestNothingShared(t *testing.T) {
	s, w := grown(t, 1, 80, 160, 161)
	l, blocks, _ := table.All(s, w.root)
	l, blocks = l[:cap(l)], blocks[:cap(blocks)]
	for i := range l {
		l[i] = table.Item{Num: 99, In: file(99)}
	}
	for i := range blocks {
		blocks[i] = api.Ptr{Kind: 98}
	}
	for _, x := range l {
		if x.Num != 99 {
			t.Error("the two lists share memory")
		}
	}
	looksLike(t, s, w)
	top := table.Top{Gen: 4, Table: w.root}
	first, second := table.PutTop(top), table.PutTop(top)
	first = first[:cap(first)]
	for i := range first {
		first[i] = 255
	}
	if !bytes.Equal(second, topBytes(top)) || !bytes.Equal(table.PutTop(top), topBytes(top)) {
		t.Error("two blocks share memory")
	}
}

// onDisks is a sink over two disks: blocks that do not fit their pointers can't be read there.
type onDisks struct {
	*mirror.Mirror
	s *space.Space
}

func (d onDisks) New(p api.Ptr, block []byte) (api.Ptr, api.Errno) {
	p.Birth = 1
	for i := range p.At {
		p.At[i] = d.s.Alloc(i / 2)
	}
	p = ptr.Seal(p, block)
	return p, d.Write(p, block)
}

func (d onDisks) Old(p api.Ptr) {
	for disk, addr := range ptr.Copies(p) {
		d.s.Give(disk, addr)
	}
}

// P12.2 to P12.5: a table over two disks, whose old blocks' addresses are used anew: what was set is got, and what is used is just what its blocks have.
func TestOnDisks(t *testing.T) {
	power := disk.On()
	a, _ := disk.New(api.MinBlocks, power)
	b, _ := disk.New(api.MinBlocks, power)
	s, _ := space.New(api.MinBlocks, api.MinBlocks)
	m, _ := mirror.New(a, b, s)
	draw := draws(3)
	var w plain
	for range 200 {
		l := drawn(draw, w)
		for _, x := range l {
			w.ins[x.Num] = x.In
		}
		var e api.Errno
		if w.root, e = table.Set(onDisks{m, s}, w.root, l); e != api.OK {
			t.Fatal(e)
		}
		got, blocks, e := table.All(m, w.root)
		if e != api.OK || !slices.Equal(got, w.items()) {
			t.Fatalf("%v, %v, want %v", got, e, w.items())
		}
		if used := s.Count(0).Used; used != 2*len(blocks) {
			t.Fatalf("%d used, %d blocks", used, len(blocks))
		}
		num := uint16(1 + draw(255))
		gets(t, m, w.root, num, w.ins[num])
	}
}
