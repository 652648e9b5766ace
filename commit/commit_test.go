package commit_test

import (
	"bytes"
	"math"
	"slices"
	"testing"

	"kintsugi/anchor"
	"kintsugi/api"
	"kintsugi/commit"
	"kintsugi/inode"
	"kintsugi/overlay"
	"kintsugi/ptr"
	"kintsugi/space"
	"kintsugi/table"
)

// other is an error that no layer answers, so that it is known where it comes from.
const other api.Errno = 77

// shelf is a source that keeps what it answers, and knows what it was asked; of what is ill it answers an error, and the block beside.
type shelf struct {
	blocks map[api.Ptr][]byte
	ill    map[api.Ptr]api.Errno
	asked  []api.Ptr
}

func (s *shelf) Read(p api.Ptr) ([]byte, api.Errno) {
	s.asked = append(s.asked, p)
	if b := s.blocks[p]; b != nil {
		return b, s.ill[p]
	}
	return nil, api.EIO
}

// shelved is a shelf of all blocks of the rig's state.
func shelved(t *testing.T, x *rig) *shelf {
	t.Helper()
	s := &shelf{map[api.Ptr][]byte{}, map[api.Ptr]api.Errno{}, nil}
	for _, p := range blocks(t, x.m, x.st) {
		b, e := x.m.Read(p)
		if e != api.OK {
			t.Fatal(e)
		}
		s.blocks[p] = append(b, bytes.Repeat([]byte{0xcc}, 40)...)[:len(b)]
	}
	return s
}

// fails says where a commit over the rig's state does not answer that state and this error, or changed what it should not have.
func (x *rig) fails(t *testing.T, what string, want api.Errno, o *overlay.Overlay) {
	t.Helper()
	counts, a := x.counts(), x.c.Load()
	st, e := commit.Commit(x.m, x.s, x.c, x.st, o)
	if st != x.st || e != want {
		t.Errorf("%s: %v, %v, want %v", what, st, e, want)
	}
	if x.counts() != counts || x.c.Load() != a {
		t.Errorf("%s: %v, %v, want %v, %v", what, x.counts(), x.c.Load(), counts, a)
	}
}

// tag is a pointer's kind, level, object, offset and birth, with addresses that are alike on both disks.
func tag(kind, level uint8, obj uint16, off uint32, birth uint64, at ...uint16) api.Ptr {
	p := api.Ptr{Kind: kind, Level: level, Obj: obj, Off: off, Birth: birth}
	copy(p.At[:2], at)
	copy(p.At[2:], at)
	return p
}

// bare are pointers without their digests, by their first addresses.
func bare(l []api.Ptr) []api.Ptr {
	l = slices.Clone(l)
	for i := range l {
		l[i].Hash = [32]byte{}
	}
	slices.SortFunc(l, func(p, q api.Ptr) int { return int(p.At[0]) - int(q.At[0]) })
	return l
}

// The chapter's examples.
func TestExamples(t *testing.T) {
	x := newRig(t, 100, 100)
	x.commit(t, inodes(1, dir(0)))
	if x.st.Gen != 1 || x.s.Count(0).Used != 8 || x.s.Count(1).Used != 8 {
		t.Errorf("%v, %v", x.st, x.counts())
	}
	x.stands(t, x.st)
	plain{}.with(inodes(1, dir(0))).tells(t, x.m, x.st)
	x = newRig(t, 100, 100)
	x.commit(t)
	if x.st != (commit.State{}) || x.c.Bytes() != [64]byte{} || x.counts() != newRig(t, 100, 100).counts() {
		t.Errorf("%v, %v, %v", x.st, x.c.Load(), x.counts())
	}
}

// P17.3, P17.4: which blocks are made, in which order (so their addresses), of which kind and birth; what is old is not written over, and given out again by the commit behind it.
func TestMade(t *testing.T) {
	x := newRig(t, 100, 100)
	x.commit(t, inodes(6, file(1)), leaves(6, 9, some(9)), leaves(6, 0, some(0)), inodes(1, dir(64)), leaves(1, 0, some(1)))
	first := []api.Ptr{
		tag(api.Meta, 0, 1, 0, 1, 1, 2), tag(api.Node, 1, 1, 0, 1, 3, 4), tag(api.Node, 2, 1, 0, 1, 5, 6),
		tag(api.Data, 0, 6, 0, 1, 7), tag(api.Data, 0, 6, 9, 1, 8),
		tag(api.Node, 1, 6, 0, 1, 9, 10), tag(api.Node, 1, 6, 1, 1, 11, 12), tag(api.Node, 2, 6, 0, 1, 13, 14),
		tag(api.Table, 0, 0, 0, 1, 15, 16), tag(api.Table, 0, 0, 1, 1, 17, 18),
		tag(api.Node, 1, 0, 0, 1, 19, 20), tag(api.Node, 2, 0, 0, 1, 21, 22), tag(api.Root, 0, 0, 0, 1, 23, 24),
	}
	if got := bare(blocks(t, x.m, x.st)); !slices.Equal(got, first) {
		t.Errorf("made %v, want %v", got, first)
	}
	x.stands(t, x.st)
	x.commit(t, leaves(6, 9, nil), leaves(6, 10, some(10)), inodes(9, link(3)), leaves(9, 0, some(3)))
	second := append(slices.Clone(first[:4]), first[5], first[8],
		tag(api.Data, 0, 6, 10, 2, 25), tag(api.Node, 1, 6, 1, 2, 26, 27), tag(api.Node, 2, 6, 0, 2, 28, 29),
		tag(api.Meta, 0, 9, 0, 2, 30, 31), tag(api.Node, 1, 9, 0, 2, 32, 33), tag(api.Node, 2, 9, 0, 2, 34, 35),
		tag(api.Table, 0, 0, 1, 2, 36, 37), tag(api.Table, 0, 0, 2, 2, 38, 39),
		tag(api.Node, 1, 0, 0, 2, 40, 41), tag(api.Node, 2, 0, 0, 2, 42, 43), tag(api.Root, 0, 0, 0, 2, 44, 45))
	if got := bare(blocks(t, x.m, x.st)); !slices.Equal(got, second) {
		t.Errorf("made %v, want %v", got, second)
	}
	x.stands(t, x.st)
	x.commit(t, inodes(1, dir(65)))
	third := bare(slices.DeleteFunc(blocks(t, x.m, x.st), func(p api.Ptr) bool { return p.Birth < 3 }))
	want := []api.Ptr{
		tag(api.Table, 0, 0, 0, 3, 8, 11), tag(api.Node, 1, 0, 0, 3, 12, 13),
		tag(api.Node, 2, 0, 0, 3, 14, 17), tag(api.Root, 0, 0, 0, 3, 18, 19),
	}
	if !slices.Equal(third, want) {
		t.Errorf("made %v, want %v", third, want)
	}
	x.stands(t, x.st)
}

// P17.3: what is wiped has holes, but those leaves that are there anew; what is zero has none at all; the leaves' kind is that of the inode as it is now.
func TestActs(t *testing.T) {
	begun := []act{inodes(2, file(5000)), leaves(2, 0, some(1)), leaves(2, 9, some(2)), leaves(2, 63, some(3)), inodes(3, dir(9)), leaves(3, 1, some(4))}
	for _, row := range []struct {
		what string
		acts []act
	}{
		{"an inode alone", []act{inodes(2, file(7))}},
		{"an inode as it was", []act{inodes(2, file(5000))}},
		{"a leaf alone", []act{leaves(2, 9, some(5))}},
		{"a leaf as it was", []act{leaves(2, 9, some(2))}},
		{"a hole alone", []act{leaves(2, 9, nil)}},
		{"a hole where one was", []act{leaves(2, 10, nil)}},
		{"holes of all", []act{leaves(2, 0, nil), leaves(2, 9, nil), leaves(2, 63, nil)}},
		{"wiped alone", []act{wipes(2)}},
		{"wiped, with a leaf", []act{wipes(2), leaves(2, 9, some(5))}},
		{"wiped, with a hole", []act{wipes(2), leaves(2, 9, nil)}},
		{"wiped, with all", []act{wipes(2), leaves(2, 9, some(5)), inodes(2, dir(1))}},
		{"zero alone", []act{inodes(2, inode.Inode{})}},
		{"zero, wiped", []act{wipes(2), inodes(2, inode.Inode{})}},
		{"zero, with leaves", []act{leaves(2, 0, some(5)), leaves(2, 9, nil), inodes(2, inode.Inode{})}},
		{"all zero", []act{inodes(2, inode.Inode{}), inodes(3, inode.Inode{})}},
		{"another kind", []act{inodes(2, link(5)), leaves(2, 1, some(5))}},
		{"another one, wiped", []act{wipes(3), inodes(3, file(5)), leaves(3, 1, some(5))}},
		{"none's leaf", []act{leaves(7, 0, some(5))}},
		{"none's hole", []act{leaves(7, 0, nil)}},
		{"none wiped", []act{wipes(7)}},
		{"none's zero", []act{inodes(7, inode.Inode{})}},
		{"the greatest of all", []act{inodes(255, link(128)), leaves(255, 63, some(5))}},
	} {
		x := newRig(t, 300, 300)
		x.commit(t, begun...)
		w := plain{}.with(begun...)
		was := x.st
		x.commit(t, row.acts...)
		w.tells(t, x.m, was)
		w = w.with(row.acts...)
		w.tells(t, x.m, x.st)
		x.stands(t, x.st)
		if x.st.Gen != 2 || x.st.Top.Birth != 2 {
			t.Errorf("%v", x.st)
		}
		for _, p := range blocks(t, x.m, x.st) {
			if kind := w[p.Obj].in.Kind; p.Birth == 2 && p.Obj != 0 && p.Kind != api.Node && p.Kind != inode.Leaf(kind) {
				t.Errorf("%v, of the kind %d", p, kind)
			}
		}
		if t.Failed() {
			t.Fatal(row.what)
		}
	}
}

// P17.3: an overlay's own inode's root is of no account; and what was is the table's inode, whatever the overlay's base tells.
func TestRoots(t *testing.T) {
	x := newRig(t, 300, 300)
	x.commit(t, inodes(2, file(5)), leaves(2, 0, some(1)))
	root := tag(api.Node, 2, 9, 9, 9, 250, 251)
	foreign := file(6)
	foreign.Root = root
	x.commit(t, inodes(2, foreign), leaves(2, 1, some(2)), inodes(3, foreign), inodes(4, foreign), wipes(4))
	w := plain{}.with(inodes(2, file(6)), leaves(2, 0, some(1)), leaves(2, 1, some(2)), inodes(3, file(6)), inodes(4, file(6)))
	w.tells(t, x.m, x.st)
	x.stands(t, x.st)
	lower := x.over(t, inodes(2, dir(9)), inodes(9, dir(9)), leaves(9, 9, some(9)), wipes(2))
	o, _ := overlay.New(lower)
	for _, a := range []act{leaves(2, 3, some(3)), leaves(9, 3, some(3)), wipes(3)} {
		a.do(t, o)
		w = w.with(a)
	}
	st, e := commit.Commit(x.m, x.s, x.c, x.st, o)
	if e != api.OK {
		t.Fatal(e)
	}
	w.tells(t, x.m, st)
	x.stands(t, st)
}

// P17.3: of an overlay that has nothing, nothing is done: no step, no store, and what is held stays so; whatever the state is.
func TestNothing(t *testing.T) {
	x := newRig(t, 100, 100)
	x.commit(t, inodes(1, dir(0)))
	x.s.Hold(0, 1)
	x.p.Fuse(0)
	x.fails(t, "nothing", api.OK, x.over(t))
	wrong := x.st
	wrong.Table, wrong.Top = tag(9, 9, 9, 9, 9), tag(9, 9, 9, 9, 9, 1, 1)
	x.st = wrong
	x.fails(t, "nothing over nothing", api.OK, x.over(t))
	o := x.over(t, inodes(1, dir(1)), wipes(9))
	o.Clear(commit.Look(x.m, x.st))
	x.fails(t, "cleared", api.OK, o)
	trial := o.Begin()
	inodes(1, dir(1)).do(t, trial)
	x.fails(t, "a trial that was not ended", api.OK, o)
	if !x.p.Is() {
		t.Error("a step")
	}
}

// P17.3, R1, R5: no mirror, no space, no cell, no overlay: the state as it was, ahead of all else.
func TestNil(t *testing.T) {
	x := newRig(t, 100, 100)
	x.commit(t, inodes(1, dir(0)))
	x.s.Hold(0, 1)
	counts := x.counts()
	for _, o := range []*overlay.Overlay{x.over(t), x.over(t, inodes(1, dir(1)))} {
		for i, call := range []func() (commit.State, api.Errno){
			func() (commit.State, api.Errno) { return commit.Commit(nil, x.s, x.c, x.st, o) },
			func() (commit.State, api.Errno) { return commit.Commit(x.m, nil, x.c, x.st, o) },
			func() (commit.State, api.Errno) { return commit.Commit(x.m, x.s, nil, x.st, o) },
			func() (commit.State, api.Errno) { return commit.Commit(x.m, x.s, x.c, x.st, nil) },
			func() (commit.State, api.Errno) { return commit.Commit(nil, nil, nil, x.st, nil) },
		} {
			if st, e := call(); st != x.st || e != api.ErrNil {
				t.Errorf("%d: %v, %v", i, st, e)
			}
		}
	}
	if x.counts() != counts || x.c.Load().Gen != 1 || x.a.Cached() != 0 {
		t.Errorf("%v, %v, %d", x.counts(), x.c.Load(), x.a.Cached())
	}
}

// P17.3, P17.4: the overlay stays as it is, and told so again it makes the same state anew.
func TestStays(t *testing.T) {
	x := newRig(t, 100, 100)
	acts := []act{inodes(2, file(9)), leaves(2, 8, some(2)), leaves(2, 9, nil), wipes(3), inodes(3, inode.Inode{})}
	o, twin := x.over(t, acts...), x.over(t, acts...)
	for gen := uint64(1); gen < 4; gen++ {
		st, e := commit.Commit(x.m, x.s, x.c, x.st, o)
		if st.Gen != gen || e != api.OK {
			t.Fatal(st, e)
		}
		x.st = st
		plain{}.with(acts...).tells(t, x.m, st)
		x.stands(t, st)
	}
	if !slices.Equal(o.Nums(), twin.Nums()) || o.Wiped(2) || !o.Wiped(3) {
		t.Errorf("%v, %v, %v", o.Nums(), o.Wiped(2), o.Wiped(3))
	}
	for _, num := range twin.Nums() {
		n, ok := o.Own(num)
		if m, is := twin.Own(num); n != m || ok != is {
			t.Errorf("%d: %v, %v", num, n, ok)
		}
		if l, m := o.Changes(num), twin.Changes(num); len(l) != len(m) || len(l) > 0 && !bytes.Equal(l[0].Block, m[0].Block) {
			t.Errorf("%d: %v", num, l)
		}
	}
}

// P17.3: as many addresses of each disk as a block has copies there, or as there are; ENOSPC where a block finds none, and all are free again.
func TestRoom(t *testing.T) {
	acts := []act{inodes(1, dir(0))}
	for a := range 10 {
		for b := range 10 {
			x := newRig(t, a+1, b+1)
			o := x.over(t, acts...)
			if a < 7 && b < 7 {
				x.fails(t, "no room", api.ENOSPC, o)
				continue
			}
			st, e := commit.Commit(x.m, x.s, x.c, x.st, o)
			if e != api.OK {
				t.Errorf("%d, %d: %v", a, b, e)
				continue
			}
			plain{}.with(acts...).tells(t, x.m, st)
			for _, p := range blocks(t, x.m, st) {
				for i, at := range p.At {
					want := 2*ahead(p) + i%2 + 1
					if want > []int{a, b}[i/2] {
						want = 0
					}
					if int(at) != want {
						t.Errorf("%d, %d: %v, want %d at %d", a, b, p, want, i)
					}
				}
			}
			if n := x.counts(); n[0].Used != min(a, 8) || n[1].Used != min(b, 8) || n[0].Held+n[1].Held != 0 {
				t.Errorf("%d, %d: %v", a, b, n)
			}
		}
	}
}

// ahead is how many blocks are made ahead of one, where a single inode is committed.
func ahead(p api.Ptr) int {
	switch {
	case p.Kind == api.Table:
		return 0
	case p.Kind == api.Node:
		return int(p.Level)
	}
	return 3
}

// P17.3: a file's leaf has a place on each disk, whichever of them has room; a sick address is none.
func TestLeaves(t *testing.T) {
	acts := []act{inodes(2, file(9)), leaves(2, 0, some(0)), leaves(2, 1, some(1)), leaves(2, 2, some(2))}
	x := newRig(t, 3, 100)
	x.s.Sick(1, 2)
	x.commit(t, acts...)
	got := bare(blocks(t, x.m, x.st))
	for _, want := range [][4]uint16{{1, 0, 1, 0}, {2, 0, 3, 0}, {0, 0, 4, 0}, {0, 0, 5, 6}} {
		if !slices.ContainsFunc(got, func(p api.Ptr) bool { return p.At == want && p.Birth == 1 && p.Obj == 2 }) {
			t.Errorf("%v: none at %v", got, want)
		}
	}
	// Three leaves, and six blocks of two copies each.
	if n := x.counts(); n != [2]space.Count{{Used: 2}, {Free: 99 - 15, Used: 15, Sick: 1}} {
		t.Errorf("%v", n)
	}
	plain{}.with(acts...).tells(t, x.m, x.st)
}

// P17.3: all held addresses are free behind a commit, and used behind an error, also those that were held ahead of it.
func TestHeld(t *testing.T) {
	x := newRig(t, 100, 100)
	x.commit(t, inodes(1, dir(0)))
	x.s.Mark(0, 90)
	x.s.Hold(0, 90)
	x.s.Mark(1, 91)
	x.s.Hold(1, 91)
	o := x.over(t, inodes(1, dir(1)))
	x.p.Fuse(3)
	if st, e := commit.Commit(x.m, x.s, x.c, x.st, o); st != x.st || e != api.EIO {
		t.Errorf("%v, %v", st, e)
	}
	if n := x.counts(); n != [2]space.Count{{Free: 90, Used: 9}, {Free: 90, Used: 9}} {
		t.Errorf("%v", n)
	}
	x.p.Back()
	x.s.Hold(0, 90)
	x.s.Hold(1, 91)
	st, e := commit.Commit(x.m, x.s, x.c, x.st, o)
	if n := x.counts(); e != api.OK || n != [2]space.Count{{Free: 91, Used: 8}, {Free: 91, Used: 8}} {
		t.Errorf("%v, %v", e, n)
	}
	x.stands(t, st)
}

// P17.3: what writing, flushing and storing answer; a single disk is enough.
func TestWriting(t *testing.T) {
	acts := []act{inodes(1, dir(0))}
	x := newRig(t, 100, 100)
	x.a.Die()
	o := x.over(t, acts...)
	st, e := commit.Commit(x.m, x.s, x.c, x.st, o)
	if e != api.OK || x.s.Count(0).Used != 8 || x.s.Count(1).Used != 8 {
		t.Errorf("one is dead: %v, %v", e, x.counts())
	}
	plain{}.with(acts...).tells(t, x.m, st)
	x.st = st
	x.b.Die()
	x.fails(t, "both are dead, old blocks", api.EIO, o)
	x = newRig(t, 100, 100)
	x.a.Die()
	x.b.Die()
	x.fails(t, "both are dead", api.EIO, x.over(t, acts...))
	x = newRig(t, 100, 1)
	x.a.Die()
	x.fails(t, "the one that has room is dead", api.EIO, x.over(t, acts...))
	// 16 copies, two flushes, and the store.
	for n, want := range append(slices.Repeat([]api.Errno{api.EIO}, 17), api.ErrDead, api.ErrDead, api.OK) {
		x = newRig(t, 100, 100)
		x.p.Fuse(n)
		o = x.over(t, acts...)
		if want != api.OK {
			x.fails(t, "a fuse", want, o)
			x.p.Back()
		}
		st, e := commit.Commit(x.m, x.s, x.c, x.st, o)
		if e != api.OK {
			t.Errorf("fuse %d, then: %v", n, e)
		}
		x.stands(t, st)
	}
	x = newRig(t, 100, 100)
	x.c.Store(anchor.Anchor{Gen: 1})
	x.fails(t, "a cell of the next generation", api.ErrArg, x.over(t, acts...))
	x.st = commit.State{Gen: math.MaxUint64}
	x.fails(t, "no next generation", api.ErrArg, x.over(t, acts...))
	x.st = commit.State{Gen: 1 << 40}
	x.commit(t, acts...)
	if x.st.Gen != 1<<40+1 || x.c.Load().Gen != 1<<40+1 || x.st.Top.Birth != 1<<40+1 {
		t.Errorf("%v", x.st)
	}
}

// P17.3: what reading answers; what need not be read may be lost; and what is read is mended.
func TestReading(t *testing.T) {
	begun := []act{inodes(2, file(9)), leaves(2, 0, some(0)), leaves(2, 9, some(9)), inodes(5, dir(9)), leaves(5, 0, some(5))}
	for _, row := range []struct {
		what  string
		lost  func(p api.Ptr) bool
		acts  []act
		fails bool
	}{
		{"the top", func(p api.Ptr) bool { return p.Kind == api.Root }, []act{wipes(2), wipes(5)}, false},
		{"the table's root", func(p api.Ptr) bool { return p.Obj == 0 && p.Level == 2 }, []act{inodes(9, dir(1))}, true},
		{"a table block", func(p api.Ptr) bool { return p.Kind == api.Table && p.Off == 0 }, []act{inodes(2, file(1))}, true},
		{"another table block", func(p api.Ptr) bool { return p.Kind == api.Table && p.Off == 1 }, []act{inodes(2, file(1))}, false},
		{"a root, for an inode", func(p api.Ptr) bool { return p.Obj == 2 && p.Level == 2 }, []act{inodes(2, file(1))}, false},
		{"a root, for a leaf", func(p api.Ptr) bool { return p.Obj == 2 && p.Level == 2 }, []act{leaves(2, 1, some(1))}, true},
		{"a root, for a hole", func(p api.Ptr) bool { return p.Obj == 2 && p.Level == 2 }, []act{leaves(2, 1, nil)}, true},
		{"a root, wiped", func(p api.Ptr) bool { return p.Obj == 2 && p.Level == 2 }, []act{wipes(2)}, true},
		{"a root, zero", func(p api.Ptr) bool { return p.Obj == 2 && p.Level == 2 }, []act{inodes(2, inode.Inode{})}, true},
		{"a node, for a leaf elsewhere", func(p api.Ptr) bool { return p.Obj == 2 && p.Level == 1 && p.Off == 1 }, []act{leaves(2, 1, some(1))}, false},
		{"a node, for a leaf", func(p api.Ptr) bool { return p.Obj == 2 && p.Level == 1 && p.Off == 1 }, []act{leaves(2, 8, some(1))}, true},
		{"a node, zero", func(p api.Ptr) bool { return p.Obj == 2 && p.Level == 1 && p.Off == 1 }, []act{inodes(2, inode.Inode{})}, true},
		{"leaves, zero", func(p api.Ptr) bool { return p.Kind == api.Data || p.Kind == api.Meta }, []act{inodes(2, inode.Inode{}), wipes(5)}, false},
		{"the other's root", func(p api.Ptr) bool { return p.Obj == 5 && p.Level == 2 }, []act{inodes(2, inode.Inode{})}, false},
		{"the later one's root", func(p api.Ptr) bool { return p.Obj == 5 && p.Level == 2 }, []act{inodes(2, inode.Inode{}), inodes(3, dir(1)), leaves(3, 0, some(3)), wipes(5)}, true},
	} {
		x := newRig(t, 300, 300)
		x.commit(t, begun...)
		for _, p := range blocks(t, x.m, x.st) {
			if row.lost(p) {
				x.rot(p, 2)
			}
		}
		o := x.over(t, row.acts...)
		if row.fails {
			x.fails(t, row.what, api.EIO, o)
			continue
		}
		if st, e := commit.Commit(x.m, x.s, x.c, x.st, o); e != api.OK || st.Gen != 2 || x.s.Count(0).Held != 0 {
			t.Errorf("%s: %v, %v", row.what, st, e)
		}
	}
	x := newRig(t, 300, 300)
	x.commit(t, begun...)
	for _, p := range blocks(t, x.m, x.st) {
		x.rot(p, 1)
	}
	x.commit(t, inodes(2, inode.Inode{}))
	if n := x.m.Count(0); n.Found == 0 || n.Found != n.Mended {
		t.Errorf("%v", n)
	}
	plain{}.with(begun...).with(inodes(2, inode.Inode{})).tells(t, x.m, x.st)
}

// rot lets the copies of a block, on so many disks, be others' bytes.
func (x *rig) rot(p api.Ptr, many int) {
	for disk, addr := range ptr.Copies(p) {
		if disk < many {
			x.on(disk).Rot(addr, some(12345))
		}
	}
}

// P17.3, R1: states that no commit made: what they tell of is not there, or no pointer that may be; no call panics, and what was given out is free behind an error, though the state told of it as old.
func TestWrongStates(t *testing.T) {
	x := newRig(t, 100, 100)
	x.commit(t, inodes(2, file(9)), leaves(2, 0, some(0)))
	right := x.st
	o := x.over(t, inodes(2, file(1)), leaves(2, 1, some(1)))
	x.st.Table = right.Top
	x.fails(t, "a table that is no node's", api.ErrArg, o)
	x.st.Table = tag(api.Node, 2, 0, 0, 1, 80, 81)
	x.fails(t, "a table that is not there", api.EIO, o)
	x.st.Table = tag(api.Node, 2, 0, 0, 1, 4000, 4001)
	x.fails(t, "a table at no address", api.EIO, o)
	x.st = right
	x.st.Top.At = [4]uint16{19, 20, 0, 65535}
	x.p.Fuse(26)
	x.fails(t, "a top where the new blocks are", api.EIO, o)
	x.p.Back()
	x.st = right
	st, e := commit.Commit(x.m, x.s, x.c, x.st, o)
	if e != api.OK {
		t.Fatal(e)
	}
	x.stands(t, st)
}

// P17.1: of a state each number and each offset; of a zero one none.
func TestView(t *testing.T) {
	x := newRig(t, 800, 800)
	for num := uint16(1); num <= api.MaxObject; num++ {
		plain{}.based(t, commit.Look(x.m, commit.State{}), num)
	}
	acts := []act{inodes(1, dir(64)), leaves(1, 0, some(0)), inodes(255, link(128)), leaves(255, 63, some(63)), inodes(7, file(0))}
	for off := range uint32(api.Leaves) {
		acts = append(acts, leaves(7, off, some(int(off))))
	}
	acts = append(acts, leaves(7, 20, nil))
	x.commit(t, acts...)
	w := plain{}.with(acts...)
	v := commit.Look(x.m, x.st)
	for num := uint16(1); num <= api.MaxObject; num++ {
		w.based(t, v, num)
	}
	items, _, e := table.All(x.m, x.st.Table)
	for _, item := range items {
		if n, e := v.Inode(item.Num); n != item.In || e != api.OK {
			t.Errorf("Inode(%d): %v, %v, want %v", item.Num, n, e, item.In)
		}
	}
	if e != api.OK || len(items) != 3 {
		t.Error(e, items)
	}
}

// asks says where a view's calls don't answer these errors, and nothing beside.
func asks(t *testing.T, what string, v *commit.View, num uint16, off uint32, in, leaf, mapped api.Errno) {
	t.Helper()
	if n, e := v.Inode(num); n != (inode.Inode{}) && e != api.OK || e != in {
		t.Errorf("%s: Inode(%d): %v, %v, want %v", what, num, n, e, in)
	}
	if b, e := v.Leaf(num, off); len(b) != 0 && e != api.OK || e != leaf {
		t.Errorf("%s: Leaf(%d, %d): %d bytes, %v, want %v", what, num, off, len(b), e, leaf)
	}
	if is, e := v.Mapped(num, off); is && e != api.OK || e != mapped {
		t.Errorf("%s: Mapped(%d, %d): %v, %v, want %v", what, num, off, is, e, mapped)
	}
}

// P17.1, R1, R5: no view, no source; numbers and offsets that there are not, ahead of what reading answers; nothing is read for these.
func TestViewErrors(t *testing.T) {
	x := newRig(t, 100, 100)
	x.commit(t, inodes(1, dir(64)), leaves(1, 0, some(0)))
	for _, v := range []*commit.View{nil, {}, commit.Look(nil, x.st), commit.Look(nil, commit.State{})} {
		for _, num := range []uint16{0, 1, 256} {
			for _, off := range []uint32{0, 64} {
				asks(t, "no source", v, num, off, api.ErrNil, api.ErrNil, api.ErrNil)
			}
		}
	}
	s := shelved(t, x)
	for p := range s.blocks {
		s.ill[p] = other
	}
	for _, v := range []*commit.View{commit.Look(s, x.st), commit.Look(s, commit.State{}), commit.Look(s, commit.State{Table: x.st.Top})} {
		for _, num := range []uint16{0, 256, 257, math.MaxUint16} {
			for _, off := range []uint32{0, 63, 64, math.MaxUint32} {
				asks(t, "a number", v, num, off, api.ErrArg, api.ErrArg, api.ErrArg)
			}
		}
		for _, off := range []uint32{64, 65, 1 << 16, math.MaxUint32} {
			for _, num := range []uint16{1, 2, 255} {
				v.Inode(num)
				s.asked = nil
				if b, e := v.Leaf(num, off); len(b) != 0 || e != api.ErrArg {
					t.Errorf("Leaf(%d, %d): %d bytes, %v", num, off, len(b), e)
				}
				if is, e := v.Mapped(num, off); is || e != api.ErrArg {
					t.Errorf("Mapped(%d, %d): %v, %v", num, off, is, e)
				}
				if len(s.asked) != 0 {
					t.Errorf("(%d, %d): %v", num, off, s.asked)
				}
			}
		}
	}
	asks(t, "a wrong table", commit.Look(s, commit.State{Table: x.st.Top}), 1, 0, api.ErrArg, api.ErrArg, api.ErrArg)
}

// P17.1, R4, R3: what reading answers, from the table down, as it is; Mapped doesn't read the leaf; what is handed out is new memory.
func TestViewReads(t *testing.T) {
	x := newRig(t, 100, 100)
	x.commit(t, inodes(6, file(9)), leaves(6, 12, some(12)))
	s := shelved(t, x)
	v := commit.Look(s, x.st)
	n, _ := v.Inode(6)
	s.asked = nil
	b, e := v.Leaf(6, 12)
	way := s.asked
	if e != api.OK || !bytes.Equal(b, some(12)) || len(way) != 6 || way[0] != x.st.Table || way[3] != n.Root {
		t.Fatal(e, way)
	}
	s.asked = nil
	if is, e := v.Mapped(6, 12); !is || e != api.OK || !slices.Equal(s.asked, way[:5]) {
		t.Error(is, e, s.asked)
	}
	for i, p := range way {
		at := func(first int, e api.Errno) api.Errno {
			if i < first {
				return e
			}
			return api.OK
		}
		s.ill[p] = other
		asks(t, "ill", v, 6, 12, at(3, other), at(6, other), at(5, other))
		delete(s.ill, p)
		block := s.blocks[p]
		delete(s.blocks, p)
		asks(t, "lost", v, 6, 12, at(3, api.EIO), at(6, api.EIO), at(5, api.EIO))
		s.blocks[p] = some(77)
		asks(t, "no node, no inodes", v, 6, 12, at(3, api.EIO), at(5, api.EIO), at(5, api.EIO))
		s.blocks[p] = block
	}
	b, _ = v.Leaf(6, 12)
	for i := range b[:cap(b)] {
		b[:cap(b)][i] = 0xdd
	}
	if again, e := v.Leaf(6, 12); e != api.OK || !bytes.Equal(again, some(12)) || !bytes.Equal(s.blocks[way[5]], some(12)) {
		t.Error("what was handed out is the source's own", e)
	}
	for p, b := range s.blocks {
		if room := b[:len(b)+40][len(b):]; !bytes.Equal(room, bytes.Repeat([]byte{0xcc}, 40)) {
			t.Errorf("%v: the room behind it was changed", p)
		}
	}
}

// top is a source of one top, at a pointer; and the anchor that tells of it.
func top(at [4]uint16, gen uint64, block []byte) (*shelf, anchor.Anchor) {
	p := ptr.Seal(api.Ptr{Kind: api.Root, Birth: gen, At: at}, block)
	return &shelf{blocks: map[api.Ptr][]byte{p: block}}, anchor.Anchor{Gen: gen, Hash: p.Hash, At: at}
}

// P17.2: a zero anchor's state; a top's; and the errors, ErrForm ahead of reading.
func TestOpen(t *testing.T) {
	full, node := [4]uint16{1, 2, 3, 4}, tag(api.Node, 2, 0, 0, 7, 5, 6)
	for _, a := range []anchor.Anchor{{}, {Gen: 1}, {Gen: 1, At: full}} {
		if st, e := commit.Open(nil, a); st != (commit.State{}) || e != api.ErrNil {
			t.Errorf("no source: %v, %v", st, e)
		}
	}
	s := &shelf{}
	if st, e := commit.Open(s, anchor.Anchor{}); st != (commit.State{}) || e != api.OK || len(s.asked) != 0 {
		t.Errorf("zero: %v, %v", st, e)
	}
	for _, gen := range []uint64{0, 1, 7, 1 << 40, math.MaxUint64} {
		for _, root := range []api.Ptr{{}, node} {
			for _, at := range [][4]uint16{full, {1, 0, 0, 0}, {0, 0, 0, 9}, {1, 2, 1, 2}, {math.MaxUint16, 1, 0, 5}} {
				s, a := top(at, gen, table.PutTop(table.Top{Gen: gen, Table: root}))
				want := commit.State{Gen: gen, Top: api.Ptr{Kind: api.Root, Birth: gen, Hash: a.Hash, At: at}, Table: root}
				if st, e := commit.Open(s, a); st != want || e != api.OK || len(s.asked) != 1 {
					t.Errorf("generation %d: %v, %v, want %v", gen, st, e, want)
				}
			}
		}
	}
	for _, at := range [][4]uint16{{}, {1, 1, 0, 0}, {1, 2, 3, 3}, {0, 0, 7, 7}} {
		s, a := top(at, 7, table.PutTop(table.Top{Gen: 7, Table: node}))
		if st, e := commit.Open(s, a); st != (commit.State{}) || e != api.ErrForm || len(s.asked) != 0 {
			t.Errorf("%v: %v, %v", at, st, e)
		}
	}
	good := table.PutTop(table.Top{Gen: 7, Table: node})
	wrong := slices.Clone(good)
	wrong[511] = 1
	for i, block := range [][]byte{good[:511], wrong, some(1), table.PutTop(table.Top{Gen: 6, Table: node}), table.PutTop(table.Top{Gen: 8}), table.PutTop(table.Top{Table: node})} {
		s, a := top(full, 7, block)
		if st, e := commit.Open(s, a); st != (commit.State{}) || e != api.EIO {
			t.Errorf("%d: %v, %v", i, st, e)
		}
	}
	// Also where what is no top would tell of the same generation.
	s, a := top(full, 0, some(1))
	if st, e := commit.Open(s, a); st != (commit.State{}) || e != api.EIO {
		t.Errorf("no top, of no generation: %v, %v", st, e)
	}
	s, a = top(full, 7, good)
	for p := range s.blocks {
		s.ill = map[api.Ptr]api.Errno{p: other}
	}
	if st, e := commit.Open(s, a); st != (commit.State{}) || e != other {
		t.Errorf("ill: %v, %v", st, e)
	}
	a.Hash[0]++
	if st, e := commit.Open(s, a); st != (commit.State{}) || e != api.EIO {
		t.Errorf("another digest: %v, %v", st, e)
	}
}

// P17.2, P17.5: an anchor whose top is lost, on real disks; the one ahead of it; and without power.
func TestOpenDisks(t *testing.T) {
	x := newRig(t, 100, 100)
	x.commit(t, inodes(1, dir(0)))
	was := x.c.Load()
	x.commit(t, inodes(1, dir(1)))
	for many := 1; many <= 2; many++ {
		x.rot(x.st.Top, many)
		st, e := commit.Open(x.m, x.c.Load())
		if many == 1 && (st != x.st || e != api.OK) || many == 2 && (st != commit.State{} || e != api.EIO) {
			t.Errorf("%d: %v, %v", many, st, e)
		}
	}
	if st, e := commit.Open(x.m, was); st.Gen != 1 || e != api.OK {
		t.Errorf("the old one: %v, %v", st, e)
	}
	x.p.Fuse(0)
	x.p.Step()
	if st, e := commit.Open(x.m, was); st != (commit.State{}) || e != api.EIO {
		t.Errorf("without power: %v, %v", st, e)
	}
}

// R2: the same acts on the same disks make the same state.
func TestAlike(t *testing.T) {
	draw := draws(5)
	x, y := newRig(t, 600, 500), newRig(t, 600, 500)
	for range 6 {
		acts := drawnActs(draw, 30)
		x.commit(t, acts...)
		y.commit(t, acts...)
		if x.st != y.st || x.c.Bytes() != y.c.Bytes() || x.counts() != y.counts() {
			t.Fatalf("%v, %v", x.st, y.st)
		}
	}
}
