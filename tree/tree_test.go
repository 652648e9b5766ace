package tree_test

import (
	"bytes"
	"math"
	"slices"
	"testing"

	"kintsugi/api"
	"kintsugi/disk"
	"kintsugi/mirror"
	"kintsugi/ptr"
	"kintsugi/space"
	"kintsugi/tree"
)

// grown is a store with a tree of these leaves, which is told, too, as a plain one.
func grown(t *testing.T, offs ...uint32) (*store, plain) {
	t.Helper()
	s := fresh()
	var l []tree.Leaf
	for _, off := range offs {
		l = append(l, tree.Leaf{Off: off, P: data(int(off) + 1)})
	}
	root, e := tree.Set(s, api.Ptr{}, 5, l)
	w, _ := plain{}.set(0, 5, l)
	if e != api.OK || root != w.root {
		t.Fatalf("Set %v: %v, %v, want %v", offs, root, e, w.root)
	}
	s.told()
	return s, w
}

// each are all offsets.
func each() []uint32 {
	var offs []uint32
	for off := range uint32(api.Leaves) {
		offs = append(offs, off)
	}
	return offs
}

// tells says where what a store was asked and told is not this.
func tells(t *testing.T, s *store, want ...event) {
	t.Helper()
	if got := s.told(); !slices.Equal(got, want) {
		t.Errorf("asked and told %v, want %v", got, want)
	}
}

// sets says where Set does not answer a root, and OK.
func sets(t *testing.T, s tree.Sink, root api.Ptr, obj uint16, l []tree.Leaf, want api.Ptr) {
	t.Helper()
	if got, e := tree.Set(s, root, obj, l); got != want || e != api.OK {
		t.Errorf("Set %v: %v, %v, want %v", l, got, e, want)
	}
}

// gets says where Get does not answer a pointer, and OK.
func gets(t *testing.T, s tree.Source, root api.Ptr, off uint32, want api.Ptr) {
	t.Helper()
	if got, e := tree.Get(s, root, off); got != want || e != api.OK {
		t.Errorf("Get(%d): %v, %v, want %v", off, got, e, want)
	}
}

// call is one of the package's calls, and whether it answered nothing but its error.
type call struct {
	name string
	do   func(s tree.Sink, root api.Ptr) (api.Errno, bool)
}

// calls are all of them: of a leaf that is there, and of one that is set.
func calls(off uint32) []call {
	return []call{
		{"Get", func(s tree.Sink, root api.Ptr) (api.Errno, bool) {
			p, e := tree.Get(s, root, off)
			return e, p == api.Ptr{}
		}},
		{"All", func(s tree.Sink, root api.Ptr) (api.Errno, bool) {
			l, nodes, e := tree.All(s, root)
			return e, len(l) == 0 && len(nodes) == 0
		}},
		{"Set", func(s tree.Sink, root api.Ptr) (api.Errno, bool) {
			p, e := tree.Set(s, root, 5, []tree.Leaf{{Off: off, P: data(999)}})
			return e, p == api.Ptr{}
		}},
		{"Set a hole", func(s tree.Sink, root api.Ptr) (api.Errno, bool) {
			p, e := tree.Set(s, root, 5, []tree.Leaf{{Off: off}})
			return e, p == api.Ptr{}
		}},
	}
}

// The chapter's examples.
func TestExamples(t *testing.T) {
	s := fresh()
	root, e := tree.Set(s, api.Ptr{}, 5, []tree.Leaf{{Off: 9, P: data(1)}})
	if e != api.OK || len(s.log) != 2 || s.log[0].p != (api.Ptr{Kind: api.Node, Level: 1, Obj: 5, Off: 1}) || s.log[1].p != (api.Ptr{Kind: api.Node, Level: 2, Obj: 5}) {
		t.Fatalf("%v, %v", e, s.log)
	}
	gets(t, s, root, 9, data(1))
	gets(t, s, root, 8, api.Ptr{})
	_, nodes, _ := tree.All(s, root)
	s.told()
	sets(t, s, root, 5, []tree.Leaf{{Off: 9}}, api.Ptr{})
	tells(t, s, event{"read", root, ""}, event{"read", nodes[1], ""}, event{"old", data(1), ""}, event{"old", nodes[1], ""}, event{"old", root, ""})
}

// P10.1: a leaf alone, at each offset: it is got, at every other one there is a hole; a node is read only where there is one, from the root down.
func TestGet(t *testing.T) {
	for _, at := range each() {
		s, w := grown(t, at)
		for _, off := range each() {
			want, way := api.Ptr{}, []api.Ptr{w.root}
			if off == at {
				want = data(int(at) + 1)
			}
			if off/8 == at/8 {
				way = append(way, w.mids[at/8])
			}
			gets(t, s, w.root, off, want)
			reads(t, s, way...)
		}
	}
}

// P10.1, P10.2: of a hole: a hole at each offset, no leaves, no nodes, and nothing is read.
func TestHole(t *testing.T) {
	s := fresh()
	looksLike(t, s, plain{})
	if s.asked != 0 {
		t.Errorf("%d blocks were read", s.asked)
	}
}

// P10.2: of full and sparse trees: leaves by offsets; the root, and then the nodes of level 1 by places, read in that order.
func TestAll(t *testing.T) {
	for _, offs := range [][]uint32{each(), {0}, {63}, {0, 63}, {7, 8}, {15, 16, 17, 40, 62}, {8, 9, 10, 11, 12, 13, 14, 15}, {5, 13, 21, 29, 37, 45, 53, 61}} {
		s, w := grown(t, offs...)
		l, nodes := w.all()
		if len(l) != len(offs) || nodes[0] != w.root {
			t.Fatalf("%v: %v, %v", offs, l, nodes)
		}
		for i, off := range offs {
			if l[i] != (tree.Leaf{Off: off, P: data(int(off) + 1)}) {
				t.Errorf("%v: %v", offs, l[i])
			}
		}
		looksLike(t, s, w)
	}
}

// P10.3, by hand: parts in order, each node read as it is come to; lost leaves, the node, and its new block; level 2 at the end.
func TestSetOrder(t *testing.T) {
	s, w := grown(t, 0, 1, 7, 8, 33, 34)
	x, y := data(100), data(101)
	l := []tree.Leaf{{Off: 1}, {Off: 2, P: x}, {Off: 7, P: y}, {Off: 8}, {Off: 20, P: x}, {Off: 33, P: w.leaves[33]}, {Off: 63}}
	first := []api.Ptr{w.leaves[0], {}, x, {}, {}, {}, {}, y}
	third := []api.Ptr{{}, {}, {}, {}, x, {}, {}, {}}
	newFirst := sealed(api.Ptr{Kind: api.Node, Level: 1, Obj: 6}, 5, blockOf(first))
	newThird := sealed(api.Ptr{Kind: api.Node, Level: 1, Obj: 6, Off: 2}, 6, blockOf(third))
	top := []api.Ptr{newFirst, {}, newThird, {}, w.mids[4], {}, {}, {}}
	sets(t, s, w.root, 6, l, sealed(api.Ptr{Kind: api.Node, Level: 2, Obj: 6}, 7, blockOf(top)))
	tells(t, s,
		event{"read", w.root, ""},
		event{"read", w.mids[0], ""},
		event{"old", w.leaves[1], ""},
		event{"old", w.leaves[7], ""},
		event{"old", w.mids[0], ""},
		event{"new", api.Ptr{Kind: api.Node, Level: 1, Obj: 6}, blockOf(first)},
		event{"read", w.mids[1], ""},
		event{"old", w.leaves[8], ""},
		event{"old", w.mids[1], ""},
		event{"new", api.Ptr{Kind: api.Node, Level: 1, Obj: 6, Off: 2}, blockOf(third)},
		event{"read", w.mids[4], ""},
		event{"old", w.root, ""},
		event{"new", api.Ptr{Kind: api.Node, Level: 2, Obj: 6}, blockOf(top)},
	)
}

// P10.3: the new blocks are of the object that is named, whatever the root's is.
func TestObj(t *testing.T) {
	for _, obj := range []uint16{0, 1, 255, 256, math.MaxUint16} {
		s, w := grown(t, 3)
		root, e := tree.Set(s, w.root, obj, []tree.Leaf{{Off: 3, P: data(9)}, {Off: 63, P: data(8)}})
		if e != api.OK || root.Obj != obj || root.Off != 0 {
			t.Errorf("%d: %v, %v", obj, root, e)
		}
		_, nodes, _ := tree.All(s, root)
		for i, p := range nodes[1:] {
			if p.Obj != obj || p.Off != uint32(7*i) || p.Level != 1 {
				t.Errorf("%d: %v", obj, p)
			}
		}
	}
}

// P10.3: what changes nothing reads just the nodes that it comes to, and makes and tells nothing: the root is the root.
func TestSetSame(t *testing.T) {
	s, w := grown(t, 0, 9, 10, 63)
	for _, l := range [][]tree.Leaf{
		{{Off: 9, P: w.leaves[9]}},
		{{Off: 11}},
		{{Off: 8}, {Off: 9, P: w.leaves[9]}, {Off: 10, P: w.leaves[10]}, {Off: 15}},
	} {
		sets(t, s, w.root, 77, l, w.root)
		reads(t, s, w.root, w.mids[1])
	}
	sets(t, s, w.root, 77, []tree.Leaf{{Off: 16}, {Off: 55}}, w.root)
	reads(t, s, w.root)
	var l []tree.Leaf
	for off, p := range w.leaves {
		l = append(l, tree.Leaf{Off: uint32(off), P: p})
	}
	sets(t, s, w.root, 77, l, w.root)
	reads(t, s, w.root, w.mids[0], w.mids[1], w.mids[7])
	sets(t, s, api.Ptr{}, 77, []tree.Leaf{{Off: 0}, {Off: 63}}, api.Ptr{})
	tells(t, s)
}

// P10.3, R6: where no leaves are set, no node is come to: the root is the root, be it readable or not.
func TestSetNone(t *testing.T) {
	s, w := grown(t, 1, 2)
	unread := api.Ptr{Kind: api.Node, Level: 2, At: [4]uint16{77}}
	for _, root := range []api.Ptr{{}, w.root, unread} {
		sets(t, s, root, 5, nil, root)
		sets(t, s, root, 5, []tree.Leaf{}, root)
	}
	tells(t, s)
}

// P10.3: nodes of which all leaves go become holes, part by part, and at the end the root.
func TestSetHoles(t *testing.T) {
	s, w := grown(t, each()...)
	for i := range uint32(8) {
		var l []tree.Leaf
		for off := 8 * i; off < 8*i+8; off++ {
			l = append(l, tree.Leaf{Off: off})
		}
		want, log := w.set(len(s.blocks), 5, l)
		sets(t, s, w.root, 5, l, want.root)
		tells(t, s, log...)
		if want.mids[i] != (api.Ptr{}) {
			t.Errorf("%d: no hole", i)
		}
		w = want
	}
	if w.root != (api.Ptr{}) {
		t.Errorf("the root: %v", w.root)
	}
}

// P10.3: a pointer that only comes to stand in another place of its node is not old; one that the node had more than once, and has no more, is told once.
func TestOldIsWhatANodeHasNoMore(t *testing.T) {
	s := fresh()
	x, y, z := data(1), data(2), data(3)
	root, _ := tree.Set(s, api.Ptr{}, 5, []tree.Leaf{{Off: 0, P: x}, {Off: 1, P: y}, {Off: 2, P: x}, {Off: 4, P: z}})
	olds := func(l ...tree.Leaf) (api.Ptr, []api.Ptr) {
		s.told()
		next, e := tree.Set(s, root, 5, l)
		if e != api.OK {
			t.Fatal(e)
		}
		var old []api.Ptr
		for _, x := range s.told() {
			if x.what == "old" && x.p.Kind == api.Data {
				old = append(old, x.p)
			}
		}
		return next, old
	}
	if next, old := olds(tree.Leaf{Off: 0, P: y}, tree.Leaf{Off: 1, P: x}); len(old) != 0 || next == root {
		t.Errorf("two change places: %v", old)
	}
	if _, old := olds(tree.Leaf{Off: 0}, tree.Leaf{Off: 4}); !slices.Equal(old, []api.Ptr{z}) {
		t.Errorf("one of two goes: %v", old)
	}
	if _, old := olds(tree.Leaf{Off: 0}, tree.Leaf{Off: 2}, tree.Leaf{Off: 4}); !slices.Equal(old, []api.Ptr{x, z}) {
		t.Errorf("two of two go: %v", old)
	}
}

// P10.1 to P10.3: a node of holes alone, which no Set makes, is a node as others are, until it comes to have other pointers.
func TestEmptyNodes(t *testing.T) {
	s := fresh()
	holes := make([]api.Ptr, 8)
	mid, _ := s.New(api.Ptr{Kind: api.Node, Level: 1, Off: 2}, []byte(blockOf(holes)))
	top := slices.Clone(holes)
	top[2] = mid
	root, _ := s.New(api.Ptr{Kind: api.Node, Level: 2}, []byte(blockOf(top)))
	bare, _ := s.New(api.Ptr{Kind: api.Node, Level: 2}, []byte(blockOf(holes)))
	looksLike(t, s, plain{root: root, mids: [8]api.Ptr{2: mid}})
	looksLike(t, s, plain{root: bare})
	sets(t, s, root, 5, []tree.Leaf{{Off: 16}}, root)
	reads(t, s, root, mid)
	sets(t, s, bare, 5, []tree.Leaf{{Off: 16}}, bare)
	reads(t, s, bare)
	for _, w := range []plain{{root: root, mids: [8]api.Ptr{2: mid}}, {root: bare}} {
		l := []tree.Leaf{{Off: 17, P: data(4)}}
		want, log := w.set(len(s.blocks), 5, l)
		sets(t, s, w.root, 5, l, want.root)
		tells(t, s, log...)
	}
}

// P10.3, P10.4: leaves may be pointers of any kind that may be, at any offset, and are got as they were set.
func TestKindsOfLeaves(t *testing.T) {
	for _, p := range mays() {
		for _, off := range []uint32{0, 7, 8, 63} {
			s := fresh()
			root, e := tree.Set(s, api.Ptr{}, 5, []tree.Leaf{{Off: off, P: p}})
			if e != api.OK {
				t.Fatal(e)
			}
			gets(t, s, root, off, p)
		}
	}
}

// P10.4: a full tree set at once, leaf by leaf, and from its end, tells the same leaves.
func TestAtOnceAndOneByOne(t *testing.T) {
	once, w := grown(t, each()...)
	want, _, _ := tree.All(once, w.root)
	for _, turned := range []bool{false, true} {
		s, root := fresh(), api.Ptr{}
		for i := range want {
			if turned {
				i = len(want) - 1 - i
			}
			root, _ = tree.Set(s, root, 5, want[i:i+1])
		}
		if got, _, e := tree.All(s, root); e != api.OK || !slices.Equal(got, want) {
			t.Errorf("%v, %v", got, e)
		}
	}
}

// No source, no sink: ErrNil, ahead of all that else is wrong.
func TestErrNil(t *testing.T) {
	for _, root := range append(mayNots(), mays()...) {
		for _, off := range []uint32{0, 64} {
			if p, e := tree.Get(nil, root, off); p != (api.Ptr{}) || e != api.ErrNil {
				t.Errorf("Get: %v, %v", p, e)
			}
			if p, e := tree.Set(nil, root, 5, []tree.Leaf{{Off: off}, {Off: 0}}); p != (api.Ptr{}) || e != api.ErrNil {
				t.Errorf("Set: %v, %v", p, e)
			}
		}
		if l, nodes, e := tree.All(nil, root); len(l) > 0 || len(nodes) > 0 || e != api.ErrNil {
			t.Errorf("All: %v, %v, %v", l, nodes, e)
		}
	}
}

// R1: a nil mirror is a source, which tells so itself where it is asked.
func TestNilMirror(t *testing.T) {
	var m *mirror.Mirror
	gets(t, m, api.Ptr{}, 3, api.Ptr{})
	if p, e := tree.Get(m, mays()[4], 3); p != (api.Ptr{}) || e != api.ErrNil {
		t.Errorf("%v, %v", p, e)
	}
}

// A root that is neither a hole nor a pointer that may be, of a Node of level 2: ErrArg, and nothing is asked or told.
func TestRootErrArg(t *testing.T) {
	for _, root := range append(mayNots(), mays()...) {
		if root.Kind == api.Node && root.Level == 2 && ptr.May(root) {
			continue
		}
		s := fresh()
		for _, c := range calls(3) {
			if e, alone := c.do(s, root); e != api.ErrArg || !alone {
				t.Errorf("%s of %v: %v, %v", c.name, root, e, alone)
			}
		}
		if p, e := tree.Set(s, root, 5, nil); p != (api.Ptr{}) || e != api.ErrArg {
			t.Errorf("Set nothing of %v: %v, %v", root, p, e)
		}
		tells(t, s)
	}
}

// A root may be of any object, offset, birth, and addresses: what it is the block of is all one.
func TestRootsThatMayBe(t *testing.T) {
	top := make([]api.Ptr, 8)
	for _, root := range []api.Ptr{
		{Kind: api.Node, Level: 2, At: [4]uint16{1}},
		{Kind: api.Node, Level: 2, Obj: math.MaxUint16, Off: math.MaxUint32, Birth: math.MaxUint64, Hash: [32]byte{1}, At: [4]uint16{3: math.MaxUint16}},
		{Kind: api.Node, Level: 2, Off: 1, At: [4]uint16{1, 2, 1, 2}},
	} {
		s := fresh()
		s.blocks[root] = []byte(blockOf(top))
		looksLike(t, s, plain{root: root})
	}
}

// An offset that is no leaf's: ErrArg, of a hole too, and nothing is read.
func TestOffErrArg(t *testing.T) {
	s, w := grown(t, 0, 63)
	for _, off := range []uint32{64, 65, 128, 255, 256, 512, 1 << 16, 1 << 31, math.MaxUint32 - 1, math.MaxUint32} {
		for _, root := range []api.Ptr{{}, w.root} {
			if p, e := tree.Get(s, root, off); p != (api.Ptr{}) || e != api.ErrArg {
				t.Errorf("Get(%d): %v, %v", off, p, e)
			}
			for _, p := range []api.Ptr{{}, data(1)} {
				for _, l := range [][]tree.Leaf{{{Off: off, P: p}}, {{Off: 1, P: p}, {Off: off, P: p}}} {
					if p, e := tree.Set(s, root, 5, l); p != (api.Ptr{}) || e != api.ErrArg {
						t.Errorf("Set %v: %v, %v", l, p, e)
					}
				}
			}
		}
	}
	tells(t, s)
}

// Leaves whose offsets do not rise, at any place, or that are neither holes nor may be: ErrArg, and nothing is asked or told.
func TestSetErrArg(t *testing.T) {
	s, w := grown(t, 0, 63)
	refused := func(l []tree.Leaf) {
		t.Helper()
		for _, root := range []api.Ptr{{}, w.root, {Kind: api.Node, Level: 2, At: [4]uint16{99}}} {
			if p, e := tree.Set(s, root, 5, l); p != (api.Ptr{}) || e != api.ErrArg {
				t.Errorf("Set %v: %v, %v", l, p, e)
			}
		}
		tells(t, s)
	}
	var l []tree.Leaf
	for _, off := range each() {
		l = append(l, tree.Leaf{Off: off, P: data(int(off))})
	}
	for i := range l {
		if i > 0 {
			equal, falling := slices.Clone(l), slices.Clone(l)
			equal[i].Off = equal[i-1].Off
			falling[i-1], falling[i] = falling[i], falling[i-1]
			refused(equal)
			refused(falling)
		}
		for _, p := range mayNots() {
			wrong := slices.Clone(l)
			wrong[i].P = p
			refused(wrong)
			refused([]tree.Leaf{{Off: uint32(i), P: p}})
		}
	}
	refused([]tree.Leaf{{Off: 3}, {Off: 3}})
	refused([]tree.Leaf{{Off: 63}, {Off: 0}})
	refused(append(slices.Clone(l), l[63]))
}

// faults are what a source may answer in the place of a node's block, and what the calls answer then.
func faults() map[api.Errno][]answer {
	ill := []byte(blockOf(make([]api.Ptr, 8)))
	ill[0] = 9
	rest := []byte(blockOf([]api.Ptr{data(1), {}, {}, {}, {}, {}, {}, {}}))
	rest[63] = 1
	all := map[api.Errno][]answer{api.EIO: {
		{}, {block: []byte{}}, {block: make([]byte, 511)}, {block: make([]byte, 513)}, {block: make([]byte, 64)}, {block: make([]byte, 1024)},
		{block: ill}, {block: rest}, {block: bytes.Repeat([]byte{255}, 512)},
	}}
	for _, e := range []api.Errno{api.ErrArg, api.ErrNil, api.ErrDead, api.ErrBad, api.ErrForm, api.EIO, api.EROFS, 999, -1} {
		all[e] = append(all[e], answer{e: e}, answer{e: e, block: make([]byte, 512)}, answer{e: e, block: []byte{1}})
	}
	return all
}

// P10.1 to P10.3, R4: whichever of the nodes can't be read, or is none, the calls answer the source's error, or EIO, alone, and read no more.
func TestReadErrors(t *testing.T) {
	for want, answers := range faults() {
		for _, a := range answers {
			s, w := grown(t, each()...)
			for _, c := range calls(43) {
				last := 2
				if c.name == "All" {
					last = 9
				}
				for n := 1; n <= last; n++ {
					s.asked = 0
					s.ill = func(i int, what string) (bool, answer) { return i == n, a }
					if e, alone := c.do(s, w.root); e != want || !alone {
						t.Errorf("%s, read %d is %v: %v, %v, want %v", c.name, n, a, e, alone, want)
					}
					if s.asked != n {
						t.Errorf("%s, read %d is %v: %d were asked", c.name, n, a, s.asked)
					}
				}
			}
		}
	}
}

// P10.3: a node that can't be read in a later part: its error, though nodes were made ahead of it.
func TestReadErrorBehindNew(t *testing.T) {
	for want, answers := range faults() {
		for _, a := range answers {
			s, w := grown(t, each()...)
			s.asked = 0
			s.ill = func(i int, what string) (bool, answer) { return i == 4, a }
			if p, e := tree.Set(s, w.root, 5, []tree.Leaf{{Off: 0}, {Off: 9}, {Off: 17}}); p != (api.Ptr{}) || e != want {
				t.Errorf("%v: %v, %v, want %v", a, p, e, want)
			}
			if s.asked != 4 {
				t.Errorf("%v: %d were asked", a, s.asked)
			}
		}
	}
}

// P10.3, R4: whichever new block the sink refuses: its error alone, and no more blocks are asked for.
func TestNewErrors(t *testing.T) {
	l := []tree.Leaf{{Off: 0, P: data(1)}, {Off: 8, P: data(2)}, {Off: 63, P: data(3)}}
	for _, want := range []api.Errno{api.ENOSPC, api.EIO, api.ErrDead, api.ErrNil, 999, -1} {
		for _, p := range []api.Ptr{{}, {Kind: api.Node, Level: 2, At: [4]uint16{1}}, {Kind: 9}} {
			for n := 1; n <= 4; n++ {
				s := fresh()
				s.ill = func(i int, what string) (bool, answer) { return i == n, answer{p: p, e: want} }
				if root, e := tree.Set(s, api.Ptr{}, 5, l); root != (api.Ptr{}) || e != want {
					t.Errorf("new %d: %v, %v, want %v", n, root, e, want)
				}
				if s.asked != n {
					t.Errorf("new %d: %d were asked", n, s.asked)
				}
			}
		}
	}
}

// R1: a sink whose whole pointers are none: the call ends all the same, and answers no root beside an error.
func TestSinkThatAnswersNonsense(t *testing.T) {
	for _, p := range append(mayNots(), append(mays(), api.Ptr{})...) {
		s := fresh()
		s.ill = func(i int, what string) (bool, answer) { return what == "new", answer{p: p} }
		root, e := tree.Set(s, api.Ptr{}, 5, []tree.Leaf{{Off: 0, P: data(1)}})
		if e != api.OK && root != (api.Ptr{}) {
			t.Errorf("%v: %v, %v", p, root, e)
		}
	}
}

// R2: the same calls of two stores tell the same, whatever was done to others between.
func TestTheSameTellsTheSame(t *testing.T) {
	a, w := grown(t, 3, 30)
	grown(t, each()...)
	b, v := grown(t, 3, 30)
	if w != v {
		t.Errorf("%v, %v", w, v)
	}
	l := []tree.Leaf{{Off: 3}, {Off: 31, P: data(7)}}
	one, _ := tree.Set(a, w.root, 5, l)
	two, _ := tree.Set(b, v.root, 5, l)
	if one != two || !slices.Equal(a.told(), b.told()) {
		t.Errorf("%v, %v", one, two)
	}
}

// R3: leaves that are handed in, with the room behind their end, and the blocks that a source hands out, are not changed.
func TestNothingHandedInIsChanged(t *testing.T) {
	s, w := grown(t, each()...)
	was := map[api.Ptr]string{}
	for p, b := range s.blocks {
		was[p] = string(b)
	}
	room := []tree.Leaf{{Off: 1}, {Off: 2, P: data(70)}, {Off: 50, P: data(71)}, {Off: 51, P: data(72)}, {Off: 52, P: data(73)}}
	kept := slices.Clone(room)
	want, _ := w.set(len(s.blocks), 5, kept[:3])
	sets(t, s, w.root, 5, room[:3], want.root)
	if !slices.Equal(room, kept) {
		t.Errorf("%v, was %v", room, kept)
	}
	for p, b := range was {
		if string(s.blocks[p]) != b {
			t.Errorf("the block of %v was changed", p)
		}
	}
}

// R3: what All tells is new memory, each time, and no list shares it with the other.
func TestNothingShared(t *testing.T) {
	s, w := grown(t, 0, 20, 40)
	l, nodes, _ := tree.All(s, w.root)
	l, nodes = l[:cap(l)], nodes[:cap(nodes)]
	for i := range l {
		l[i] = tree.Leaf{Off: 99, P: data(99)}
	}
	for i := range nodes {
		nodes[i] = data(98)
	}
	for _, x := range l {
		if x.Off != 99 {
			t.Error("the two lists share memory")
		}
	}
	looksLike(t, s, w)
}

// onDisks is a sink over two disks: blocks that do not fit their pointers can't be read there.
type onDisks struct {
	*mirror.Mirror
	s *space.Space
}

func (d onDisks) New(p api.Ptr, block []byte) (api.Ptr, api.Errno) {
	p.Birth = 1
	for i := range p.At {
		p.At[i] = d.s.Alloc(i / 2)
	}
	p = ptr.Seal(p, block)
	return p, d.Write(p, block)
}

func (d onDisks) Old(p api.Ptr) {
	if p.Kind != api.Node {
		return
	}
	for disk, addr := range ptr.Copies(p) {
		d.s.Give(disk, addr)
	}
}

// P10.1 to P10.4: a tree over two disks, whose old nodes' addresses are used anew: what was set is got, and no more is used than the tree's nodes have.
func TestOnDisks(t *testing.T) {
	power := disk.On()
	a, _ := disk.New(api.MinBlocks, power)
	b, _ := disk.New(api.MinBlocks, power)
	s, _ := space.New(api.MinBlocks, api.MinBlocks)
	m, _ := mirror.New(a, b, s)
	draw := draws(3)
	count := 0
	var root api.Ptr
	var w plain
	for range 300 {
		l := drawn(draw, w, func() api.Ptr { count++; return data(count) })
		var e api.Errno
		if root, e = tree.Set(onDisks{m, s}, root, 5, l); e != api.OK {
			t.Fatal(e)
		}
		w, _ = w.set(0, 5, l)
		got, nodes, e := tree.All(m, root)
		if want, _ := w.all(); e != api.OK || !slices.Equal(got, want) {
			t.Fatalf("%v, %v, want %v", got, e, want)
		}
		if used := s.Count(0).Used; used != 2*len(nodes) {
			t.Fatalf("%d used, %d nodes", used, len(nodes))
		}
	}
}
