package tree_test

import (
	"bytes"
	"crypto/sha256"
	"encoding/binary"
	"fmt"
	"maps"
	"math"
	"slices"
	"testing"

	"kintsugi/api"
	"kintsugi/tree"
)

// event is what a sink was asked, or told.
type event struct {
	what  string // read, new, old
	p     api.Ptr
	block string // of new
}

// String tells it without the block's bytes, that nobody can read.
func (e event) String() string {
	return fmt.Sprintf("%s %v (%d bytes)", e.what, e.p, len(e.block))
}

// store is a sink in memory; each of its blocks is at an address of its own.
type store struct {
	blocks map[api.Ptr][]byte
	log    []event
	asked  int                                     // how many answers were given
	ill    func(n int, what string) (bool, answer) // what is answered in the place of the n-th answer, if it is
}

// answer is one of a sink.
type answer struct {
	p     api.Ptr
	block []byte
	e     api.Errno
}

// fresh is a store of no blocks.
func fresh() *store { return &store{blocks: map[api.Ptr][]byte{}} }

// turn counts an answer, and is what stands in its place, if there is something.
func (s *store) turn(what string) (bool, answer) {
	s.asked++
	if s.ill == nil {
		return false, answer{}
	}
	return s.ill(s.asked, what)
}

func (s *store) Read(p api.Ptr) ([]byte, api.Errno) {
	s.log = append(s.log, event{"read", p, ""})
	if ill, a := s.turn("read"); ill {
		return a.block, a.e
	}
	if b, ok := s.blocks[p]; ok {
		return b, api.OK
	}
	return nil, api.ErrDead
}

func (s *store) New(p api.Ptr, block []byte) (api.Ptr, api.Errno) {
	s.log = append(s.log, event{"new", p, string(block)})
	if ill, a := s.turn("new"); ill {
		return a.p, a.e
	}
	p = sealed(p, len(s.blocks)+1, string(block))
	s.blocks[p] = bytes.Clone(block)
	// What a sink does with the block that it was handed is its own matter.
	for i := range block {
		block[i] = 0xee
	}
	return p, api.OK
}

func (s *store) Old(p api.Ptr) { s.log = append(s.log, event{"old", p, ""}) }

// told is what the store was asked and told since it was asked for that last.
func (s *store) told() []event {
	log := s.log
	s.log = nil
	return log
}

// sealed is the whole pointer of a store's n-th block.
func sealed(p api.Ptr, n int, block string) api.Ptr {
	p.Birth, p.At = uint64(1000+n), [4]uint16{uint16(n), uint16(n + 1), uint16(n), uint16(n + 1)}
	p.Hash = sha256.Sum256([]byte(block))
	return p
}

// data is a file's leaf's pointer, another one of each number.
func data(n int) api.Ptr {
	return api.Ptr{Kind: api.Data, Obj: 5, Off: uint32(n % 64), Birth: uint64(n), Hash: [32]byte{byte(n)}, At: [4]uint16{uint16(n%4000 + 1), 0, uint16(n%3000 + 2)}}
}

// bytesOf is a pointer's bytes, as chapter 6 tells them.
func bytesOf(p api.Ptr) []byte {
	b := binary.LittleEndian.AppendUint16([]byte{p.Kind, p.Level}, p.Obj)
	b = binary.LittleEndian.AppendUint32(b, p.Off)
	b = binary.LittleEndian.AppendUint64(b, p.Birth)
	b = append(b, p.Hash[:]...)
	for _, addr := range p.At {
		b = binary.LittleEndian.AppendUint16(b, addr)
	}
	return append(b, make([]byte, 8)...)
}

// blockOf is the block of a node of these pointers.
func blockOf(ps []api.Ptr) string {
	var b []byte
	for _, p := range ps {
		b = append(b, bytesOf(p)...)
	}
	return string(b)
}

// plain is a tree as a list of its leaves, with its nodes' pointers beside them.
type plain struct {
	root   api.Ptr
	mids   [8]api.Ptr
	leaves [64]api.Ptr
}

// set is what the tree becomes by these leaves, and what a store that has so many blocks is asked and told, as the chapter's words tell it.
func (w plain) set(blocks int, obj uint16, l []tree.Leaf) (plain, []event) {
	if len(l) == 0 {
		return w, nil
	}
	var log []event
	say := func(what string, p api.Ptr) {
		if p != (api.Ptr{}) {
			log = append(log, event{what, p, ""})
		}
	}
	anew := func(level uint8, off uint32, ps []api.Ptr) api.Ptr {
		if !slices.ContainsFunc(ps, func(p api.Ptr) bool { return p != api.Ptr{} }) {
			return api.Ptr{}
		}
		p := api.Ptr{Kind: api.Node, Level: level, Obj: obj, Off: off}
		log = append(log, event{"new", p, blockOf(ps)})
		blocks++
		return sealed(p, blocks, blockOf(ps))
	}
	next := w
	say("read", w.root)
	for i := range w.mids {
		come := false
		for _, x := range l {
			if int(x.Off)/8 == i {
				come, next.leaves[x.Off] = true, x.P
			}
		}
		was, now := w.leaves[8*i:8*i+8], next.leaves[8*i:8*i+8]
		if come {
			say("read", w.mids[i])
		}
		if slices.Equal(was, now) {
			continue
		}
		for j, p := range was {
			if !slices.Contains(now, p) && !slices.Contains(was[:j], p) {
				say("old", p)
			}
		}
		say("old", w.mids[i])
		next.mids[i] = anew(1, uint32(i), now)
	}
	if next.mids != w.mids {
		say("old", w.root)
		next.root = anew(2, 0, next.mids[:])
	}
	return next, log
}

// all are the leaves that are no holes, and the nodes' pointers.
func (w plain) all() (l []tree.Leaf, nodes []api.Ptr) {
	for off, p := range w.leaves {
		if p != (api.Ptr{}) {
			l = append(l, tree.Leaf{Off: uint32(off), P: p})
		}
	}
	for _, p := range append([]api.Ptr{w.root}, w.mids[:]...) {
		if p != (api.Ptr{}) {
			nodes = append(nodes, p)
		}
	}
	return l, nodes
}

// draws hands out numbers below n, the same ones for the same seed.
func draws(seed uint32) func(n int) int {
	return func(n int) int {
		seed = seed*1664525 + 1013904223
		return int(seed>>8) % n
	}
}

// drawn are leaves to set, by rising offsets; of those that are no holes, some are what the tree has there.
func drawn(draw func(n int) int, w plain, next func() api.Ptr) []tree.Leaf {
	var l []tree.Leaf
	often, holes := 1+draw(40), 1+draw(5)
	low, high := draw(64), draw(64)
	for off := range uint32(64) {
		if draw(often) > 0 || draw(2) == 0 && (int(off) < low || int(off) > high) {
			continue
		}
		switch draw(2 + holes) {
		case 0:
			l = append(l, tree.Leaf{Off: off, P: w.leaves[off]})
		case 1:
			l = append(l, tree.Leaf{Off: off, P: next()})
		default:
			l = append(l, tree.Leaf{Off: off})
		}
		if draw(holes) == 0 {
			l[len(l)-1].P = next()
		}
	}
	return l
}

// looksLike says where a store's tree is not the plain one; its blocks are read in order.
func looksLike(t *testing.T, s *store, w plain) {
	t.Helper()
	wantL, wantN := w.all()
	s.told()
	l, nodes, e := tree.All(s, w.root)
	if e != api.OK || !slices.Equal(l, wantL) || !slices.Equal(nodes, wantN) {
		t.Fatalf("All: %v, %v, %v, want %v, %v", l, nodes, e, wantL, wantN)
	}
	reads(t, s, wantN...)
	for off, want := range w.leaves {
		p, e := tree.Get(s, w.root, uint32(off))
		if e != api.OK || p != want {
			t.Fatalf("Get(%d): %v, %v, want %v", off, p, e, want)
		}
		var way []api.Ptr
		for _, p := range []api.Ptr{w.root, w.mids[off/8]} {
			if p != (api.Ptr{}) {
				way = append(way, p)
			}
		}
		reads(t, s, way...)
	}
}

// reads says where a store was not asked for just these blocks, in order, and nothing else.
func reads(t *testing.T, s *store, want ...api.Ptr) {
	t.Helper()
	var log []event
	for _, p := range want {
		log = append(log, event{"read", p, ""})
	}
	if got := s.told(); !slices.Equal(got, log) {
		t.Fatalf("asked and told: %v, want %v", got, log)
	}
}

// P10.1 to P10.4: long scripts, each Set held against the plain tree, with all that the sink is asked and told; and at the end every tree that was made is what it was.
func TestScripts(t *testing.T) {
	for seed := range uint32(60) {
		draw := draws(seed)
		count := 0
		next := func() api.Ptr {
			count++
			return data(count)
		}
		s, obj := fresh(), uint16(draw(1<<16))
		trees := []plain{{}}
		for range 40 {
			w := trees[len(trees)-1]
			if draw(9) == 0 {
				w = trees[draw(len(trees))]
			}
			l := drawn(draw, w, next)
			want, log := w.set(len(s.blocks), obj, l)
			s.told()
			root, e := tree.Set(s, w.root, obj, l)
			if e != api.OK || root != want.root {
				t.Fatalf("Set %v: %v, %v, want %v", l, root, e, want.root)
			}
			if got := s.told(); !slices.Equal(got, log) {
				t.Fatalf("Set %v: asked and told %v, want %v", l, got, log)
			}
			looksLike(t, s, want)
			trees = append(trees, want)
		}
		for _, w := range trees {
			looksLike(t, s, w)
		}
	}
}

// P10.4: what was made is just what the new tree has and the old one had not, what is old just what the old one had and the new one has not: nodes, and leaves too.
func TestNewAndOld(t *testing.T) {
	draw := draws(77)
	count := 0
	next := func() api.Ptr {
		count++
		return data(count)
	}
	s := fresh()
	var w plain
	for range 600 {
		l := drawn(draw, w, next)
		had := hangs(t, s, w.root)
		made := maps.Clone(s.blocks)
		s.told()
		root, e := tree.Set(s, w.root, 9, l)
		if e != api.OK {
			t.Fatal(e)
		}
		var old []api.Ptr
		for _, x := range s.told() {
			if x.what == "old" {
				old = append(old, x.p)
			}
		}
		has := hangs(t, s, root)
		for p := range s.blocks {
			if _, was := made[p]; !was && (had[p] || !has[p]) {
				t.Errorf("%v was made", p)
			}
			if _, was := made[p]; was && has[p] && !had[p] {
				t.Errorf("%v was not made", p)
			}
		}
		for _, p := range old {
			if !had[p] || has[p] {
				t.Errorf("%v is told to be old", p)
			}
			delete(had, p)
		}
		for p := range had {
			if !has[p] {
				t.Errorf("%v is not told to be old", p)
			}
		}
		w, _ = w.set(len(made), 9, l)
	}
}

// hangs are the pointers of a tree's nodes and leaves.
func hangs(t *testing.T, s *store, root api.Ptr) map[api.Ptr]bool {
	t.Helper()
	l, nodes, e := tree.All(s, root)
	if e != api.OK {
		t.Fatal(e)
	}
	all := map[api.Ptr]bool{}
	for _, p := range nodes {
		all[p] = true
	}
	for _, x := range l {
		all[x.P] = true
	}
	return all
}

// mays are pointers that may be, of each kind and level, and of the least and the greatest numbers.
func mays() []api.Ptr {
	return []api.Ptr{
		{Kind: api.Data, At: [4]uint16{1}},
		{Kind: api.Data, Obj: 255, Off: 63, Birth: 7, At: [4]uint16{2: 9}},
		{Kind: api.Meta, Obj: math.MaxUint16, Off: math.MaxUint32, Birth: math.MaxUint64, At: [4]uint16{math.MaxUint16, 1, 2, math.MaxUint16}},
		{Kind: api.Node, Level: 1, Obj: 0x0201, Off: 0x06050403, At: [4]uint16{1, 2, 3, 4}},
		{Kind: api.Node, Level: 2, Birth: 1, At: [4]uint16{1: 3}},
		{Kind: api.Table, Hash: [32]byte{1, 31: 2}, At: [4]uint16{1, 2, 1, 2}},
		{Kind: api.Root, Birth: 1 << 63, At: [4]uint16{3: 4}},
	}
}

// mayNots are pointers that may not be, and are no holes; each breaks one rule alone.
func mayNots() []api.Ptr {
	full := [4]uint16{1, 2, 3, 4}
	data := [4]uint16{1, 0, 3, 0}
	return []api.Ptr{
		{At: full}, {Kind: 6, At: full}, {Kind: 255, At: data},
		{Kind: api.Data, Level: 1, At: data}, {Kind: api.Table, Level: 2, At: full},
		{Kind: api.Node, At: full}, {Kind: api.Node, Level: 3, At: full},
		{Kind: api.Data}, {Kind: api.Node, Level: 1}, {Kind: api.Node, Level: 2, Birth: 3, Hash: [32]byte{4}},
		{Kind: api.Node, Level: 2, At: [4]uint16{1, 1, 3, 4}}, {Kind: api.Node, Level: 2, At: [4]uint16{2: 9, 3: 9}},
		{Kind: api.Data, At: [4]uint16{1, 2}}, {Kind: api.Data, At: [4]uint16{3: 1}},
		{Off: 1}, {Obj: 1}, {Birth: 1}, {Level: 2}, {Hash: [32]byte{31: 1}}, {At: [4]uint16{3: 1}},
	}
}
