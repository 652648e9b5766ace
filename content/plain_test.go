package content_test

import (
	"bytes"
	"math"
	"slices"
	"testing"

	"kintsugi/api"
	"kintsugi/content"
)

// roomy is how many bytes stand in the room behind the end of a shelf's leaf.
const roomy = 40

// shelf is leaves that know what they were asked for; a leaf that is not there is a hole.
type shelf struct {
	leaves map[uint32][]byte
	asked  []uint32
	ill    map[uint32]answer // what is answered in the place of a leaf
}

// answer is one of a shelf.
type answer struct {
	leaf []byte
	e    api.Errno
}

// empty is a shelf of holes.
func empty() *shelf { return &shelf{leaves: map[uint32][]byte{}} }

func (s *shelf) Leaf(off uint32) ([]byte, api.Errno) {
	s.asked = append(s.asked, off)
	if a, ok := s.ill[off]; ok {
		return a.leaf, a.e
	}
	return s.leaves[off], api.OK
}

// put lets a leaf be so, with room behind its end that is none's to change; no bytes: a hole.
func (s *shelf) put(off uint32, block []byte) {
	if len(block) == 0 {
		delete(s.leaves, off)
		return
	}
	room := append(bytes.Clone(block), bytes.Repeat([]byte{0xcc}, roomy)...)
	s.leaves[off] = room[:len(block)]
}

// whole are all bytes that a shelf has, the room behind the leaves' ends too.
func (s *shelf) whole() map[uint32]string {
	all := map[uint32]string{}
	for off, leaf := range s.leaves {
		all[off] = string(leaf[:len(leaf)+roomy])
	}
	return all
}

// told is what the shelf was asked for since it was asked for that last.
func (s *shelf) told() []uint32 {
	asked := s.asked
	s.asked = nil
	return asked
}

// plain is an object as all bytes that it might have, how many it has, and which leaves are no holes.
type plain struct {
	all    [api.MaxFile]byte
	size   int
	leaves [api.Leaves]bool
}

// read is what Read answers, and what it asks for.
func (w *plain) read(at, n int) ([]byte, []uint32) {
	var b []byte
	var asked []uint32
	for i := at; i < at+n && i < w.size; i++ {
		b = append(b, w.all[i])
		if off := uint32(i / 512); !slices.Contains(asked, off) {
			asked = append(asked, off)
		}
	}
	return b, asked
}

// leaf is a leaf's bytes; none of a hole.
func (w *plain) leaf(off int) []byte {
	if !w.leaves[off] {
		return nil
	}
	return bytes.Clone(w.all[512*off : 512*off+512])
}

// write writes bytes, and is what Write answers beside the size, and asks for.
func (w *plain) write(at int, b []byte) ([]content.Change, []uint32) {
	var asked []uint32
	var changes []content.Change
	copy(w.all[at:], b)
	for off := range api.Leaves {
		first, end := max(at, 512*off), min(at+len(b), 512*off+512)
		if first >= end {
			continue
		}
		if end-first < 512 {
			asked = append(asked, uint32(off))
		}
		w.leaves[off] = true
		changes = append(changes, content.Change{Off: uint32(off), Block: w.leaf(off)})
		w.size = max(w.size, end)
	}
	return changes, asked
}

// truncate lets there be so many bytes, and is what Truncate answers beside the size, and asks for.
func (w *plain) truncate(to int) ([]content.Change, []uint32) {
	was := w.size
	w.size = to
	if to >= was {
		return nil, nil
	}
	clear(w.all[to:])
	var asked []uint32
	var changes []content.Change
	for off := range api.Leaves {
		switch first := 512 * off; {
		case first < to && to < first+512:
			asked = append(asked, uint32(off))
			if w.leaves[off] {
				changes = append(changes, content.Change{Off: uint32(off), Block: w.leaf(off)})
			}
		case first >= to && first < was:
			w.leaves[off] = false
			changes = append(changes, content.Change{Off: uint32(off)})
		}
	}
	return changes, asked
}

// shelf are the leaves of a plain object.
func (w *plain) shelf() *shelf {
	s := empty()
	for off := range api.Leaves {
		s.put(uint32(off), w.leaf(off))
	}
	return s
}

// full is an object of so many bytes that differ from their neighbours, without holes.
func full(size int) *plain {
	w := &plain{size: size}
	copy(w.all[:size], some(size, 1))
	for off := range (size + 511) / 512 {
		w.leaves[off] = true
	}
	return w
}

// holed is a full object of which each third leaf, from one on, is a hole.
func holed(size, from int) *plain {
	w := full(size)
	for off := from; off < api.Leaves; off += 3 {
		w.leaves[off] = false
		clear(w.all[512*off : 512*off+512])
	}
	return w
}

// some is so many bytes that differ from their neighbours, and from those of another seed; none is a nought.
func some(n, seed int) []byte {
	b := make([]byte, n)
	for i := range b {
		b[i] = byte(1 + (7*i+31*seed+i/256)%255)
	}
	return b
}

// draws hands out numbers below n, the same ones for the same seed.
func draws(seed uint32) func(n int) int {
	return func(n int) int {
		seed = seed*1664525 + 1013904223
		return int(seed>>8) % n
	}
}

// edges are places about the ends of leaves and of the object.
func edges() []int {
	var all []int
	for _, at := range []int{0, 512, 1024, 1536, 2048, 4096, 16384, 32256, 32768} {
		for _, near := range []int{-3, -1, 0, 1, 5} {
			if at+near >= 0 && at+near <= api.MaxFile {
				all = append(all, at+near)
			}
		}
	}
	return append(all, 100, 700, 1500, 32000)
}

// counts are how many bytes are read or written.
func counts() []int { return []int{0, 1, 2, 4, 511, 512, 513, 1023, 1024, 1025, 1536, 2047, 2048} }

// below0 are numbers that are.
func below0() []int { return []int{-1, -512, -2048, math.MinInt32, math.MinInt} }

// same is whether changes are the ones that are wanted; a hole's bytes are none.
func same(got, want []content.Change) bool {
	return slices.EqualFunc(got, want, func(a, b content.Change) bool { return a.Off == b.Off && bytes.Equal(a.Block, b.Block) })
}

// reads says where Read doesn't answer these bytes, or asks for other leaves.
func reads(t *testing.T, s *shelf, size, at, n int, want []byte, asked []uint32) {
	t.Helper()
	s.told()
	b, e := content.Read(s, uint32(size), at, n)
	if e != api.OK || !bytes.Equal(b, want) {
		t.Errorf("Read of %d, %d of size %d: % x, %v, want % x", at, n, size, b, e, want)
	}
	if got := s.told(); !slices.Equal(got, asked) {
		t.Errorf("Read of %d, %d of size %d: asked for %v, want %v", at, n, size, got, asked)
	}
}

// writes says where Write doesn't answer what a plain object does, or asks for other leaves; it lets both be changed.
func writes(t *testing.T, s *shelf, w *plain, at int, b []byte) {
	t.Helper()
	s.told()
	was := w.size
	want, asked := w.write(at, b)
	got, size, e := content.Write(s, uint32(was), at, b)
	if e != api.OK || int(size) != w.size || !same(got, want) {
		t.Errorf("Write of %d, %d of size %d: %d changes, %d, %v, want %d, %d", at, len(b), was, len(got), size, e, len(want), w.size)
	}
	if got := s.told(); !slices.Equal(got, asked) {
		t.Errorf("Write of %d, %d of size %d: asked for %v, want %v", at, len(b), was, got, asked)
	}
	changed(s, got)
}

// truncates is the same of Truncate.
func truncates(t *testing.T, s *shelf, w *plain, to int) {
	t.Helper()
	s.told()
	was := w.size
	want, asked := w.truncate(to)
	got, size, e := content.Truncate(s, uint32(was), to)
	if e != api.OK || int(size) != to || !same(got, want) {
		t.Errorf("Truncate of size %d to %d: %d changes, %d, %v, want %d", was, to, len(got), size, e, len(want))
	}
	if got := s.told(); !slices.Equal(got, asked) {
		t.Errorf("Truncate of size %d to %d: asked for %v, want %v", was, to, got, asked)
	}
	changed(s, got)
}

// changed lets a shelf's leaves be what these changes say.
func changed(s *shelf, l []content.Change) {
	for _, c := range l {
		s.put(c.Off, c.Block)
	}
}

// looksLike says where a shelf's leaves are not a plain object's.
func looksLike(t *testing.T, s *shelf, w *plain) {
	t.Helper()
	for off := range api.Leaves {
		if !bytes.Equal(s.leaves[uint32(off)], w.leaf(off)) {
			t.Errorf("leaf %d of size %d: % x, want % x", off, w.size, s.leaves[uint32(off)], w.leaf(off))
		}
	}
	if len(s.leaves) > api.Leaves {
		t.Errorf("%d leaves", len(s.leaves))
	}
}
