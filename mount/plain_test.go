package mount_test

import (
	"maps"
	"slices"
	"testing"

	"kintsugi/anchor"
	"kintsugi/api"
	"kintsugi/charge"
	"kintsugi/commit"
	"kintsugi/disk"
	"kintsugi/inode"
	"kintsugi/mount"
	"kintsugi/node"
	"kintsugi/overlay"
	"kintsugi/ptr"
	"kintsugi/sha"
	"kintsugi/space"
	"kintsugi/table"
)

// rig is what is mounted, and what was told of it last.
type rig struct {
	p    *disk.Power
	a, b *disk.Disk
	c    *anchor.Cell
	m    *mount.Mounted
}

// newRig is one of two new disks of so many blocks, and a new cell.
func newRig(t *testing.T, a, b int) *rig {
	t.Helper()
	x := &rig{p: disk.On()}
	var e [3]api.Errno
	x.a, e[0] = disk.New(a, x.p)
	x.b, e[1] = disk.New(b, x.p)
	x.c, e[2] = anchor.New(x.p)
	if e != [3]api.Errno{} {
		t.Fatal(e)
	}
	return x
}

// formatted is one that was formatted and mounted.
func formatted(t *testing.T, a, b int) *rig {
	t.Helper()
	x := newRig(t, a, b)
	if e := mount.Format(x.a, x.b, x.c); e != api.OK {
		t.Fatal(e)
	}
	x.mount(t)
	return x
}

// filled is one in which these acts were committed.
func filled(t *testing.T, acts ...act) *rig {
	t.Helper()
	x := formatted(t, 600, 700)
	x.commit(t, acts...)
	return x
}

// mount mounts it, and there is no error.
func (x *rig) mount(t *testing.T) {
	t.Helper()
	m, e := mount.Mount(x.a, x.b, x.c)
	if e != api.OK || m == nil {
		t.Fatalf("Mount: %v, %v", m, e)
	}
	x.m = m
}

// try commits acts over what was mounted.
func (x *rig) try(t *testing.T, acts ...act) api.Errno {
	t.Helper()
	o, e := overlay.New(commit.Look(x.m.M, x.m.St))
	if e != api.OK {
		t.Fatal(e)
	}
	for _, a := range acts {
		a.do(t, o)
	}
	x.m.St, e = commit.Commit(x.m.M, x.m.S, x.c, x.m.St, o)
	return e
}

// commit commits acts, and there is no error.
func (x *rig) commit(t *testing.T, acts ...act) {
	t.Helper()
	if e := x.try(t, acts...); e != api.OK {
		t.Fatalf("Commit: %v", e)
	}
}

// on is the disk of a number.
func (x *rig) on(i int) *disk.Disk { return [2]*disk.Disk{x.a, x.b}[i] }

// crash ends the power, and lets it come back; what becomes of writes that were not flushed, is drawn.
func (x *rig) crash(draw func(n int) int) {
	for i := range 2 {
		var picks []int
		for range x.on(i).Cached() {
			picks = append(picks, []int{0, 1, 2 + draw(api.Block)}[draw(3)])
		}
		x.on(i).Crash(picks)
	}
	x.p.Back()
}

// rot lets the copies of a block that are among these places be other bytes.
func (x *rig) rot(p api.Ptr, places ...int) {
	for _, i := range places {
		if p.At[i] != 0 {
			x.on(i/2).Rot(p.At[i], some(12345))
		}
	}
}

// good is whether a place's copy of a block is good.
func (x *rig) good(p api.Ptr, i int) bool {
	b, ok := x.on(i / 2).Look(p.At[i])
	return ok && fits(p, b)
}

// fits is whether a block is that of a pointer, by the digest of its tag and its bytes.
func fits(p api.Ptr, b []byte) bool {
	tag := ptr.Put(nil, p)[:16]
	return p.Hash == sha.Sum(append(tag, b...))
}

// hung is what hangs on an anchor, as the disks tell it without mending.
type hung struct {
	stems, leaves []api.Ptr // stems as a mount comes to them
	lost          []api.Ptr // stems of which no copy is good
	tells         plain     // without leaves of which no copy is good
}

// hang is what hangs on the cell's anchor.
func (x *rig) hang() *hung {
	h := &hung{tells: plain{}}
	a := x.c.Load()
	top, _ := table.TakeTop(x.stem(h, api.Ptr{Kind: api.Root, Birth: a.Gen, Hash: a.Hash, At: a.At}))
	var all [api.MaxObject + 1]inode.Inode
	for off, p := range x.below(h, top.Table) {
		block, _ := inode.Take(x.stem(h, p))
		copy(all[off*api.Inodes:], block[:])
	}
	for num, n := range all {
		if n == (inode.Inode{}) {
			continue
		}
		o := object{n, map[uint32]string{}}
		o.in.Root = api.Ptr{}
		for off, p := range x.below(h, n.Root) {
			h.leaves = append(h.leaves, p)
			if b, ok := x.raw(p); ok {
				o.leaves[uint32(off)] = string(b)
			}
		}
		h.tells[uint16(num)] = o
	}
	return h
}

// raw is a block's first good copy, and whether there is one.
func (x *rig) raw(p api.Ptr) ([]byte, bool) {
	for i, addr := range p.At {
		if addr != 0 && x.good(p, i) {
			return x.on(i / 2).Look(addr)
		}
	}
	return nil, false
}

// stem is the block of a stem, which is come to; of a lost one none.
func (x *rig) stem(h *hung, p api.Ptr) []byte {
	h.stems = append(h.stems, p)
	b, ok := x.raw(p)
	if !ok {
		h.lost = append(h.lost, p)
	}
	return b
}

// below are the pointers of a tree's leaves, in order; its nodes are come to.
func (x *rig) below(h *hung, root api.Ptr) func(yield func(off int, p api.Ptr) bool) {
	var leaves [api.Leaves]api.Ptr
	if root != (api.Ptr{}) {
		n, _ := node.Take(x.stem(h, root))
		for i, p := range n {
			if p != (api.Ptr{}) {
				low, _ := node.Take(x.stem(h, p))
				copy(leaves[i*api.Fan:], low[:])
			}
		}
	}
	return func(yield func(off int, p api.Ptr) bool) {
		for off, p := range leaves {
			if p != (api.Ptr{}) && !yield(off, p) {
				return
			}
		}
	}
}

// counts are the counts of both disks' addresses.
func counts(m *mount.Mounted) [2]space.Count { return [2]space.Count{m.S.Count(0), m.S.Count(1)} }

// stands mounts it, and says where what is mounted is not just this state: which tells this, and has the addresses of what hangs on the anchor.
func (x *rig) stands(t *testing.T, st commit.State, w plain) {
	t.Helper()
	h := x.hang()
	x.mount(t)
	if x.m.St != st {
		t.Errorf("the state %v, want %v", x.m.St, st)
	}
	if got := w.tally(); x.m.Tally != got {
		t.Errorf("the tally %v, want %v", x.m.Tally, got)
	}
	if got := w.orphans(); !slices.Equal(x.m.Orphans, got) {
		t.Errorf("the orphans %v, want %v", x.m.Orphans, got)
	}
	uses(t, x, append(h.stems, h.leaves...))
}

// tells says where what hangs on the anchor does not tell this.
func (x *rig) tells(t *testing.T, w plain) {
	t.Helper()
	got := x.hang().tells
	same := func(x, y object) bool { return x.in == y.in && maps.Equal(x.leaves, y.leaves) }
	if !maps.EqualFunc(got, w, same) {
		t.Errorf("the disks tell of %v, want %v, or of other leaves", slices.Sorted(maps.Keys(got)), slices.Sorted(maps.Keys(w)))
	}
}

// uses says where the addresses that are used are not just those of these pointers.
func uses(t *testing.T, x *rig, l []api.Ptr) {
	t.Helper()
	var used [2]int
	for _, p := range l {
		for i, addr := range p.At {
			if addr == 0 {
				continue
			}
			used[i/2]++
			if e := x.m.S.Mark(i/2, addr); e != api.ErrForm {
				t.Errorf("address %d of disk %d is not used", addr, i/2)
			}
		}
	}
	for i, n := range counts(x.m) {
		if n.Used != used[i] || n.Held != 0 || n.Free != x.on(i).Blocks()-1-used[i] {
			t.Errorf("disk %d: %v, want %d used", i, n, used[i])
		}
	}
}

// act is one that is done to an overlay.
type act struct {
	what string // inode, leaf, wipe
	num  uint16
	off  uint32
	in   inode.Inode
	leaf []byte
}

// inodes is the act that sets an inode, leaves one that sets a leaf, wipes one that wipes.
func inodes(num uint16, in inode.Inode) act { return act{what: "inode", num: num, in: in} }
func leaves(num uint16, off uint32, leaf []byte) act {
	return act{what: "leaf", num: num, off: off, leaf: leaf}
}
func wipes(num uint16) act { return act{what: "wipe", num: num} }

// do does it to an overlay.
func (a act) do(t *testing.T, o *overlay.Overlay) {
	t.Helper()
	e := api.ErrArg
	switch a.what {
	case "inode":
		e = o.SetInode(a.num, a.in)
	case "leaf":
		e = o.SetLeaf(a.num, a.off, a.leaf)
	case "wipe":
		e = o.Wipe(a.num)
	}
	if e != api.OK {
		t.Fatalf("%s %d, %d: %v", a.what, a.num, a.off, e)
	}
}

// file, dir and link are inodes that may be, of so many links.
func file(links uint16) inode.Inode { return inode.Inode{Kind: inode.File, Links: links, Size: 900} }
func dir(links uint16) inode.Inode  { return inode.Inode{Kind: inode.Dir, Links: links, Size: 64} }
func link(links uint16) inode.Inode { return inode.Inode{Kind: inode.Link, Links: links, Size: 128} }

// some is a leaf's bytes, others of each seed below 8000000.
func some(seed int) []byte {
	b := make([]byte, api.Block)
	digits := [3]int{seed, seed / 200, seed / 40000}
	for i := range b {
		b[i] = byte(1 + (digits[i%3]+i/3)%200)
	}
	return b
}

// plain is what a state tells: of each number its inode, without a root, and its leaves.
type plain map[uint16]object

// object is one of its numbers.
type object struct {
	in     inode.Inode
	leaves map[uint32]string
}

// empty is what an empty file system tells.
func empty() plain {
	return plain{1: {inode.Inode{Kind: inode.Dir, Links: 2}, map[uint32]string{}}}
}

// with is the plain state behind a commit of these acts.
func (w plain) with(acts ...act) plain {
	next := maps.Clone(w)
	for _, a := range acts {
		was := next[a.num]
		now := object{was.in, map[uint32]string{}}
		maps.Copy(now.leaves, was.leaves)
		switch {
		case a.what == "inode":
			now.in = a.in
		case a.what == "wipe":
			clear(now.leaves)
		case len(a.leaf) == 0:
			delete(now.leaves, a.off)
		default:
			now.leaves[a.off] = string(a.leaf)
		}
		next[a.num] = now
	}
	maps.DeleteFunc(next, func(_ uint16, o object) bool { return o.in == inode.Inode{} })
	return next
}

// tally counts its leaves and its objects.
func (w plain) tally() charge.Tally {
	t := charge.Tally{Objects: len(w)}
	for _, o := range w {
		if o.in.Kind == inode.File {
			t.Files += len(o.leaves)
		} else {
			t.Metas += len(o.leaves)
		}
	}
	return t
}

// orphans are its numbers without links.
func (w plain) orphans() []uint16 {
	var l []uint16
	for _, num := range slices.Sorted(maps.Keys(w)) {
		if w[num].in.Links == 0 {
			l = append(l, num)
		}
	}
	return l
}

// draws hands out numbers below n, the same ones for the same seed.
func draws(seed uint32) func(n int) int {
	return func(n int) int {
		seed = seed*1664525 + 1013904223
		return int(seed>>8) % n
	}
}

// drawnActs are some acts, of few numbers and offsets, so that they come again.
func drawnActs(draw func(n int) int, most int) []act {
	var l []act
	for range 1 + draw(most) {
		num := []uint16{1, 2, 3, 4, 7, 31, 32, 255}[draw(8)]
		off := []uint32{0, 1, 7, 8, 9, 62, 63}[draw(7)]
		links := uint16(draw(3))
		switch draw(12) {
		case 0, 1, 2, 3:
			l = append(l, inodes(num, []inode.Inode{file(links), dir(links), link(links)}[draw(3)]))
		case 4:
			l = append(l, inodes(num, inode.Inode{}))
		case 5:
			l = append(l, wipes(num))
		case 6:
			l = append(l, leaves(num, off, nil))
		default:
			l = append(l, leaves(num, off, some(draw(1<<20))))
		}
	}
	return l
}
