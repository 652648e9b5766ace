package commit_test

import (
	"bytes"
	"fmt"
	"maps"
	"slices"
	"testing"

	"kintsugi/anchor"
	"kintsugi/api"
	"kintsugi/commit"
	"kintsugi/disk"
	"kintsugi/inode"
	"kintsugi/mirror"
	"kintsugi/overlay"
	"kintsugi/ptr"
	"kintsugi/sha"
	"kintsugi/space"
	"kintsugi/table"
	"kintsugi/tree"
)

// A view is a base.
var _ overlay.Base = (*commit.View)(nil)

// rig is what a commit needs, and the state that was committed last.
type rig struct {
	p    *disk.Power
	a, b *disk.Disk
	s    *space.Space
	m    *mirror.Mirror
	c    *anchor.Cell
	st   commit.State
}

// newRig is one of two new disks of so many blocks.
func newRig(t *testing.T, a, b int) *rig {
	t.Helper()
	x := &rig{p: disk.On()}
	var e [5]api.Errno
	x.a, e[0] = disk.New(a, x.p)
	x.b, e[1] = disk.New(b, x.p)
	x.s, e[2] = space.New(a, b)
	x.m, e[3] = mirror.New(x.a, x.b, x.s)
	x.c, e[4] = anchor.New(x.p)
	if e != [5]api.Errno{} {
		t.Fatal(e)
	}
	return x
}

// over is an overlay over the rig's state in which acts were done.
func (x *rig) over(t *testing.T, acts ...act) *overlay.Overlay {
	t.Helper()
	o, e := overlay.New(commit.Look(x.m, x.st))
	if e != api.OK {
		t.Fatal(e)
	}
	for _, a := range acts {
		a.do(t, o)
	}
	return o
}

// commit commits acts over the rig's state.
func (x *rig) commit(t *testing.T, acts ...act) {
	t.Helper()
	st, e := commit.Commit(x.m, x.s, x.c, x.st, x.over(t, acts...))
	if e != api.OK {
		t.Fatal(e)
	}
	x.st = st
}

// counts are the counts of both disks' addresses.
func (x *rig) counts() [2]space.Count { return [2]space.Count{x.s.Count(0), x.s.Count(1)} }

// crashed is the rig behind the power's end, and its coming back; what becomes of writes that were not flushed, picks say.
func (x *rig) crashed(t *testing.T, picks [2][]int) *rig {
	t.Helper()
	x.p.Back()
	x.a.Crash(picks[0])
	x.b.Crash(picks[1])
	y := *x
	y.s, _ = space.New(x.a.Blocks(), x.b.Blocks())
	y.m, _ = mirror.New(x.a, x.b, y.s)
	var e api.Errno
	if y.st, e = commit.Open(y.m, x.c.Load()); e != api.OK {
		t.Fatal(e)
	}
	for _, p := range blocks(t, y.m, y.st) {
		for disk, addr := range ptr.Copies(p) {
			if e := y.s.Mark(disk, addr); e != api.OK {
				t.Fatalf("address %d of disk %d: %v", addr, disk, e)
			}
		}
	}
	return &y
}

// act is one that is done to an overlay.
type act struct {
	what string // inode, leaf, wipe
	num  uint16
	off  uint32
	in   inode.Inode
	leaf []byte
}

// inodes is the act that sets an inode, leaves one that sets a leaf, wipes one that wipes.
func inodes(num uint16, in inode.Inode) act { return act{what: "inode", num: num, in: in} }
func leaves(num uint16, off uint32, leaf []byte) act {
	return act{what: "leaf", num: num, off: off, leaf: leaf}
}
func wipes(num uint16) act { return act{what: "wipe", num: num} }

// do does it to an overlay.
func (a act) do(t *testing.T, o *overlay.Overlay) {
	t.Helper()
	e := api.ErrArg
	switch a.what {
	case "inode":
		e = o.SetInode(a.num, a.in)
	case "leaf":
		e = o.SetLeaf(a.num, a.off, a.leaf)
	case "wipe":
		e = o.Wipe(a.num)
	}
	if e != api.OK {
		t.Fatalf("%v: %v", a, e)
	}
}

// file, dir and link are inodes that may be.
func file(size int) inode.Inode {
	return inode.Inode{Kind: inode.File, Links: 1, Size: uint32(size)}
}
func dir(size int) inode.Inode  { return inode.Inode{Kind: inode.Dir, Links: 2, Size: uint32(size)} }
func link(size int) inode.Inode { return inode.Inode{Kind: inode.Link, Links: 1, Size: uint32(size)} }

// some is a leaf's bytes, others of each seed: its digits to the base 200, again and again.
func some(seed int) []byte {
	b := make([]byte, api.Block)
	digits := [4]int{seed, seed / 200, seed / 40000, seed / 8000000}
	for i := range b {
		b[i] = byte(1 + (digits[i%4]+i/4)%200)
	}
	return b
}

// plain is what a state tells: of each number its inode, without a root, and its leaves.
type plain map[uint16]object

// object is one of its numbers.
type object struct {
	in     inode.Inode
	leaves map[uint32]string
}

// with is the plain state behind a commit of these acts, in the chapter's words.
func (w plain) with(acts ...act) plain {
	next := maps.Clone(w)
	for _, a := range acts {
		was := next[a.num]
		now := object{was.in, maps.Clone(was.leaves)}
		if now.leaves == nil {
			now.leaves = map[uint32]string{}
		}
		switch {
		case a.what == "inode":
			now.in = a.in
			now.in.Root = api.Ptr{}
		case a.what == "wipe":
			clear(now.leaves)
		case len(a.leaf) == 0:
			delete(now.leaves, a.off)
		default:
			now.leaves[a.off] = string(a.leaf)
		}
		next[a.num] = now
	}
	// What has no inode at the end of it all has holes alone.
	maps.DeleteFunc(next, func(_ uint16, x object) bool { return x.in == inode.Inode{} })
	return next
}

// told is what a state tells, as far as its table and its trees tell it.
func told(t *testing.T, s tree.Source, st commit.State) plain {
	t.Helper()
	items, _, e := table.All(s, st.Table)
	if e != api.OK {
		t.Fatal(e)
	}
	w := plain{}
	for _, item := range items {
		x := object{item.In, map[uint32]string{}}
		x.in.Root = api.Ptr{}
		all, _, e := tree.All(s, item.In.Root)
		for _, leaf := range all {
			b, e := s.Read(leaf.P)
			if e != api.OK {
				t.Fatal(e)
			}
			x.leaves[leaf.Off] = string(b)
		}
		if e != api.OK {
			t.Fatal(e)
		}
		w[item.Num] = x
	}
	return w
}

// equal is whether two plain states tell the same.
func (w plain) equal(v plain) bool {
	return maps.EqualFunc(w, v, func(x, y object) bool {
		return x.in == y.in && maps.Equal(x.leaves, y.leaves)
	})
}

// tells says where a state does not tell just this.
func (w plain) tells(t *testing.T, s tree.Source, st commit.State) {
	t.Helper()
	got := told(t, s, st)
	if w.equal(got) {
		return
	}
	t.Errorf("the state tells of %v, want %v", slices.Sorted(maps.Keys(got)), slices.Sorted(maps.Keys(w)))
	for num, x := range w {
		if y := got[num]; x.in != y.in || !maps.Equal(x.leaves, y.leaves) {
			t.Errorf("%d: %v, %v, want %v, %v", num, y.in, slices.Sorted(maps.Keys(y.leaves)), x.in, slices.Sorted(maps.Keys(x.leaves)))
		}
	}
}

// based says where a base does not tell of a number what it should.
func (w plain) based(t *testing.T, b overlay.Base, num uint16) {
	t.Helper()
	n, e := b.Inode(num)
	n.Root = api.Ptr{}
	if n != w[num].in || e != api.OK {
		t.Errorf("Inode(%d): %v, %v, want %v", num, n, e, w[num].in)
	}
	for off := range uint32(api.Leaves) {
		want, mapped := w[num].leaves[off]
		if b, e := b.Leaf(num, off); string(b) != want || e != api.OK {
			t.Errorf("Leaf(%d, %d): %d bytes, %v, want %d", num, off, len(b), e, len(want))
		}
		if is, e := b.Mapped(num, off); is != mapped || e != api.OK {
			t.Errorf("Mapped(%d, %d): %v, %v", num, off, is, e)
		}
	}
}

// blocks are the pointers of all blocks of a state.
func blocks(t *testing.T, s tree.Source, st commit.State) []api.Ptr {
	t.Helper()
	if st == (commit.State{}) {
		return nil
	}
	items, all, e := table.All(s, st.Table)
	if e != api.OK {
		t.Fatal(e)
	}
	all = append([]api.Ptr{st.Top}, all...)
	for _, item := range items {
		leaves, nodes, e := tree.All(s, item.In.Root)
		if e != api.OK {
			t.Fatal(e)
		}
		all = append(all, nodes...)
		for _, leaf := range leaves {
			all = append(all, leaf.P)
		}
	}
	return all
}

// stands says where a state does not stand in the chapter's words on the rig's disks: its top told by the cell, all blocks made as they must be, none younger than itself, each copy good, and the addresses that are used just theirs.
func (x *rig) stands(t *testing.T, st commit.State) {
	t.Helper()
	if a := x.c.Load(); a != (anchor.Anchor{Gen: st.Gen, Hash: st.Top.Hash, At: st.Top.At}) {
		t.Errorf("the cell tells %v, want %v", a, st)
	}
	if got, e := commit.Open(x.m, x.c.Load()); got != st || e != api.OK {
		t.Errorf("Open: %v, %v, want %v", got, e, st)
	}
	var used [2]map[uint16]bool
	for i := range used {
		used[i] = map[uint16]bool{}
	}
	for _, p := range blocks(t, x.m, st) {
		if p.Birth < 1 || p.Birth > st.Gen {
			t.Errorf("%v, of the generation %d", p, st.Gen)
		}
		x.made(t, p)
		for disk, addr := range ptr.Copies(p) {
			if used[disk][addr] {
				t.Errorf("%v: address %d of disk %d, anew", p, addr, disk)
			}
			used[disk][addr] = true
		}
	}
	x.uses(t, used)
}

// made says where a block has not its copies, or one of them is not good; the disks have room, and no faults.
func (x *rig) made(t *testing.T, p api.Ptr) {
	t.Helper()
	wide := 4
	if p.Kind == api.Data {
		wide = 2
	}
	count := 0
	for disk, addr := range ptr.Copies(p) {
		count++
		b, ok := x.on(disk).Look(addr)
		if !ok || !fits(p, b) {
			t.Errorf("%v: the copy at %d of disk %d is bad", p, addr, disk)
		}
	}
	if count != wide {
		t.Errorf("%v: %d copies, want %d", p, count, wide)
	}
}

// on is the disk of a number.
func (x *rig) on(i int) *disk.Disk { return [2]*disk.Disk{x.a, x.b}[i] }

// fits is whether a block is that of a pointer, by the digest of its tag and its bytes.
func fits(p api.Ptr, b []byte) bool {
	tag := ptr.Put(nil, p)[:16]
	return p.Hash == sha.Sum(append(tag, b...))
}

// uses says where the addresses that are used are not just these.
func (x *rig) uses(t *testing.T, used [2]map[uint16]bool) {
	t.Helper()
	for disk, n := range x.counts() {
		if n.Used != len(used[disk]) || n.Held != 0 {
			t.Errorf("disk %d: %v, want %d used", disk, n, len(used[disk]))
		}
		for addr := range used[disk] {
			if e := x.s.Mark(disk, addr); e != api.ErrForm {
				t.Errorf("disk %d: address %d is not used", disk, addr)
			}
		}
	}
}

// draws hands out numbers below n, the same ones for the same seed.
func draws(seed uint32) func(n int) int {
	return func(n int) int {
		seed = seed*1664525 + 1013904223
		return int(seed>>8) % n
	}
}

// drawn is an act, of few numbers and offsets, so that they come again.
func drawn(draw func(n int) int) act {
	num := []uint16{1, 2, 3, 4, 5, 31, 32, 255}[draw(8)]
	off := []uint32{0, 1, 7, 8, 9, 62, 63}[draw(7)]
	switch draw(12) {
	case 0, 1, 2:
		return inodes(num, []inode.Inode{file(1000), dir(64), link(128)}[draw(3)])
	case 3:
		return inodes(num, inode.Inode{})
	case 4:
		return wipes(num)
	case 5, 6:
		return leaves(num, off, nil)
	}
	return leaves(num, off, some(draw(1<<20)))
}

// drawnActs are some of these.
func drawnActs(draw func(n int) int, most int) []act {
	var l []act
	for range 1 + draw(most) {
		l = append(l, drawn(draw))
	}
	return l
}

// drawnPicks are picks of so many writes: gone, there, or torn anywhere.
func drawnPicks(draw func(n int) int, n int) []int {
	var picks []int
	for range n {
		picks = append(picks, []int{0, 1, 2 + draw(api.Block), 2 + draw(5), draw(2)}[draw(5)])
	}
	return picks
}

// P17.4, P17.2, P17.3: commit upon commit, each one's state tells what a plain state tells, and what the overlay told; its blocks have their copies, and the space just these; and what was opened is the state.
func TestScripts(t *testing.T) {
	for seed := range uint32(24) {
		draw := draws(seed)
		x, w := newRig(t, 1500, 1200), plain{}
		for gen := 1; gen <= 12 && !t.Failed(); gen++ {
			acts := drawnActs(draw, 1+draw(30))
			o := x.over(t, acts...)
			st, e := commit.Commit(x.m, x.s, x.c, x.st, o)
			if e != api.OK || st.Gen != uint64(gen) {
				t.Fatalf("seed %d: generation %d, %v", seed, st.Gen, e)
			}
			w.tells(t, x.m, x.st)
			x.st, w = st, w.with(acts...)
			w.tells(t, x.m, st)
			x.stands(t, st)
			w.based(t, commit.Look(x.m, st), acts[0].num)
			same(t, o, commit.Look(x.m, st), acts)
		}
		if t.Failed() {
			t.Fatalf("seed %d", seed)
		}
	}
}

// same says where a new state does not tell what its overlay told, though that has an inode of the number.
func same(t *testing.T, o *overlay.Overlay, v *commit.View, acts []act) {
	t.Helper()
	for _, a := range acts {
		was, e := o.Inode(a.num)
		if now, f := v.Inode(a.num); now.Kind != was.Kind || now.Links != was.Links || now.Size != was.Size || e != api.OK || f != api.OK {
			t.Errorf("Inode(%d): %v, %v, the overlay's %v, %v", a.num, now, f, was, e)
		}
		b, e := o.Leaf(a.num, a.off)
		if was.Kind == inode.None {
			b = nil
		}
		if got, f := v.Leaf(a.num, a.off); !bytes.Equal(got, b) || e != api.OK || f != api.OK {
			t.Errorf("Leaf(%d, %d): %v, the overlay's %v", a.num, a.off, f, e)
		}
	}
}

// P17.5, P17.3: wherever the power ends, whatever becomes of what was not flushed, the cell tells of the old state, or of the new one, wholly; the one that Commit answered; and it goes on from there.
func TestPower(t *testing.T) {
	for seed := range uint32(10) {
		draw := draws(1000 + seed)
		first, second, third := drawnActs(draw, 20), drawnActs(draw, 12), drawnActs(draw, 6)
		ends := false
		for n := 0; !ends && !t.Failed(); n++ {
			x := newRig(t, 400, 400)
			x.commit(t, first...)
			o, counts := x.over(t, second...), x.counts()
			x.p.Fuse(n)
			st, e := commit.Commit(x.m, x.s, x.c, x.st, o)
			ends = e == api.OK
			want := plain{}.with(first...)
			if ends {
				want = want.with(second...)
			} else if st != x.st || x.counts() != counts || e != api.EIO && e != api.ErrDead {
				t.Errorf("%v, %v; %v, want %v", st, e, x.counts(), counts)
			}
			y := x.crashed(t, [2][]int{drawnPicks(draw, x.a.Cached()), drawnPicks(draw, x.b.Cached())})
			if y.st != st || y.counts() != x.counts() {
				t.Errorf("Open %v, %v, want %v, %v", y.st, y.counts(), st, x.counts())
			}
			want.tells(t, y.m, y.st)
			y.commit(t, third...)
			y.stands(t, y.st)
			want.with(third...).tells(t, y.m, y.st)
			if t.Failed() {
				t.Fatalf("seed %d, fuse %d", seed, n)
			}
		}
	}
}

// String tells an act.
func (a act) String() string {
	return fmt.Sprint(a.what, " ", a.num, " ", a.off, " ", a.in.Kind, " ", len(a.leaf))
}
