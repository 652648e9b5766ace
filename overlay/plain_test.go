package overlay_test

import (
	"bytes"
	"fmt"
	"math"
	"slices"
	"testing"

	"kintsugi/api"
	"kintsugi/content"
	"kintsugi/inode"
	"kintsugi/overlay"
)

// An overlay is a base.
var _ overlay.Base = (*overlay.Overlay)(nil)

// roomy is how many bytes stand in the room behind the end of a ground's leaf.
const roomy = 40

// ground is a base that knows what it was asked, and that keeps what it answers.
type ground struct {
	seed  int
	asked []string
	kept  map[string][]byte
	ill   map[uint16]api.Errno // numbers of which it answers an error, and something beside
}

// newGround is one that tells by its seed.
func newGround(seed int) *ground { return &ground{seed: seed, kept: map[string][]byte{}} }

func (g *ground) Inode(num uint16) (inode.Inode, api.Errno) {
	g.asked = append(g.asked, fmt.Sprint("Inode ", num))
	return groundInode(g.seed, num), g.ill[num]
}

func (g *ground) Leaf(num uint16, off uint32) ([]byte, api.Errno) {
	ask := fmt.Sprint("Leaf ", num, " ", off)
	g.asked = append(g.asked, ask)
	if g.kept[ask] == nil {
		block := groundLeaf(g.seed, num, off)
		g.kept[ask] = append(block, bytes.Repeat([]byte{0xcc}, roomy)...)[:len(block)]
	}
	return g.kept[ask], g.ill[num]
}

func (g *ground) Mapped(num uint16, off uint32) (bool, api.Errno) {
	g.asked = append(g.asked, fmt.Sprint("Mapped ", num, " ", off))
	return g.ill[num] != api.OK || len(groundLeaf(g.seed, num, off)) > 0, g.ill[num]
}

// told is what the ground was asked since it was asked for that last.
func (g *ground) told() []string {
	asked := g.asked
	g.asked = nil
	return asked
}

// unhurt says where what a ground keeps was changed, the room behind it too.
func (g *ground) unhurt(t *testing.T) {
	t.Helper()
	for _, b := range g.kept {
		if !bytes.Equal(b[:len(b)+roomy][len(b):], bytes.Repeat([]byte{0xcc}, roomy)) || len(b) > 0 && b[0] == scribbled {
			t.Error("what the base keeps was changed")
		}
	}
}

// groundInode is the inode of a number that a ground tells; some are zero.
func groundInode(seed int, num uint16) inode.Inode {
	if (int(num)+seed)%5 == 0 {
		return inode.Inode{}
	}
	return inode.Inode{Kind: inode.File, Links: num, Size: uint32(seed)}
}

// groundLeaf is the leaf of an offset that a ground tells; some are holes.
func groundLeaf(seed int, num uint16, off uint32) []byte {
	if (int(num)+int(off)+seed)%3 == 0 {
		return nil
	}
	return some(100000*seed + 100*int(num) + int(off))
}

// scribbled is the byte that is written all over what was handed out; it begins no leaf.
const scribbled = 0xdd

// some is a leaf's bytes, others of each seed: its digits to the base 200, again and again.
func some(seed int) []byte {
	b := make([]byte, api.Block)
	digits := [4]int{seed, seed / 200, seed / 40000, seed / 8000000}
	for i := range b {
		b[i] = byte(1 + (digits[i%4]+i/4)%200)
	}
	return b
}

// scribble writes all over bytes that were handed out, and over their spare room.
func scribble(b []byte) {
	b = b[:cap(b)]
	for i := range b {
		b[i] = scribbled
	}
}

// act is one that was done to an overlay.
type act struct {
	what string // inode, leaf, wipe
	num  uint16
	off  uint32
	in   inode.Inode
	leaf []byte
}

// do does it to an overlay.
func (a act) do(t *testing.T, o *overlay.Overlay) {
	t.Helper()
	e := api.OK
	switch a.what {
	case "inode":
		e = o.SetInode(a.num, a.in)
	case "leaf":
		e = o.SetLeaf(a.num, a.off, a.leaf)
	case "wipe":
		e = o.Wipe(a.num)
	}
	if e != api.OK {
		t.Errorf("%s of %d, %d: %v", a.what, a.num, a.off, e)
	}
}

// plain is an overlay as the row of all that was ever done to it, what a trial had behind that; it is over another one, or over the ground of a seed.
type plain struct {
	over *plain
	seed int
	acts []act
}

// inode is what it tells of a number.
func (w *plain) inode(num uint16) inode.Inode {
	if n, ok := w.own(num); ok {
		return n
	}
	if w.over != nil {
		return w.over.inode(num)
	}
	return groundInode(w.seed, num)
}

// leaf is what it tells of an offset.
func (w *plain) leaf(num uint16, off uint32) []byte {
	for _, a := range slices.Backward(w.acts) {
		switch {
		case a.num != num:
		case a.what == "wipe":
			return nil
		case a.what == "leaf" && a.off == off:
			return a.leaf
		}
	}
	if w.over != nil {
		return w.over.leaf(num, off)
	}
	return groundLeaf(w.seed, num, off)
}

// own is the inode that it has of a number, and whether it has.
func (w *plain) own(num uint16) (inode.Inode, bool) {
	for _, a := range slices.Backward(w.acts) {
		if a.num == num && a.what == "inode" {
			return a.in, true
		}
	}
	return inode.Inode{}, false
}

// changes are its leaves and holes of a number.
func (w *plain) changes(num uint16) []content.Change {
	at := map[uint32][]byte{}
	for _, a := range w.acts {
		switch {
		case a.num != num:
		case a.what == "wipe":
			clear(at)
		case a.what == "leaf":
			at[a.off] = a.leaf
		}
	}
	var l []content.Change
	for off := range uint32(api.Leaves) {
		if block, ok := at[off]; ok {
			l = append(l, content.Change{Off: off, Block: block})
		}
	}
	return l
}

// wiped is whether a number is.
func (w *plain) wiped(num uint16) bool {
	return slices.ContainsFunc(w.acts, func(a act) bool { return a.num == num && a.what == "wipe" })
}

// nums are the numbers of which it has something: whatever was done to one, something is left.
func (w *plain) nums() []uint16 {
	var l []uint16
	for _, a := range w.acts {
		l = append(l, a.num)
	}
	slices.Sort(l)
	return slices.Compact(l)
}

// dirty is how many leaves, and inodes, it has.
func (w *plain) dirty() (int, int) {
	leaves, inodes := 0, 0
	for _, num := range w.nums() {
		for _, c := range w.changes(num) {
			if len(c.Block) > 0 {
				leaves++
			}
		}
		if _, ok := w.own(num); ok {
			inodes++
		}
	}
	return leaves, inodes
}

// numbers and offsets are those that the tests look at, the least and the greatest ones too.
func numbers() []uint16 { return []uint16{1, 2, 3, 4, 5, 128, 254, 255} }
func offsets() []uint32 { return []uint32{0, 1, 2, 7, 8, 62, 63} }

// notNumbers and notOffsets are some that there are not.
func notNumbers() []uint16 { return []uint16{0, 256, 257, 511, 512, 1 << 15, math.MaxUint16} }
func notOffsets() []uint32 {
	return []uint32{64, 65, 128, 255, 256, 1 << 16, 1 << 31, math.MaxUint32}
}

// looksLike says where an overlay doesn't tell what the plain one does, or has something else; what it hands out is written over.
func looksLike(t *testing.T, o *overlay.Overlay, w *plain) {
	t.Helper()
	tells(t, o, w)
	nums := o.Nums()
	if !slices.Equal(nums, w.nums()) {
		t.Errorf("Nums: %v, want %v", nums, w.nums())
	}
	clear(nums[:cap(nums)])
	leaves, inodes := o.Dirty()
	if l, i := w.dirty(); leaves != l || inodes != i {
		t.Errorf("Dirty: %d, %d, want %d, %d", leaves, inodes, l, i)
	}
	for _, num := range slices.Concat(numbers(), notNumbers(), []uint16{100}) {
		want, has := w.own(num)
		if n, ok := o.Own(num); n != want || ok != has {
			t.Errorf("Own(%d): %v, %v, want %v, %v", num, n, ok, want, has)
		}
		if o.Wiped(num) != w.wiped(num) {
			t.Errorf("Wiped(%d): %v", num, o.Wiped(num))
		}
		l := o.Changes(num)
		if !same(l, w.changes(num)) {
			t.Errorf("Changes(%d): %v, want %v", num, l, w.changes(num))
		}
		for i := range l {
			scribble(l[i].Block)
		}
		clear(l[:cap(l)])
	}
}

// tells says where an overlay doesn't tell what the plain one does.
func tells(t *testing.T, o *overlay.Overlay, w *plain) {
	t.Helper()
	for _, num := range numbers() {
		if n, e := o.Inode(num); e != api.OK || n != w.inode(num) {
			t.Errorf("Inode(%d): %v, %v, want %v", num, n, e, w.inode(num))
		}
		for _, off := range offsets() {
			want := w.leaf(num, off)
			b, e := o.Leaf(num, off)
			if e != api.OK || !bytes.Equal(b, want) {
				t.Errorf("Leaf(%d, %d): % x, %v, want % x", num, off, b, e, want)
			}
			scribble(b)
			if m, e := o.Mapped(num, off); e != api.OK || m != (len(want) > 0) {
				t.Errorf("Mapped(%d, %d): %v, %v", num, off, m, e)
			}
		}
	}
}

// same is whether changes are the ones that are wanted; a hole's bytes are none.
func same(got, want []content.Change) bool {
	return slices.EqualFunc(got, want, func(a, b content.Change) bool { return a.Off == b.Off && bytes.Equal(a.Block, b.Block) })
}

// newOver is an overlay over a base, or the test's end.
func newOver(t *testing.T, b overlay.Base) *overlay.Overlay {
	t.Helper()
	o, e := overlay.New(b)
	if e != api.OK || o == nil {
		t.Fatal(o, e)
	}
	return o
}

// inodes are some that may be, the zero one too.
func inodes() []inode.Inode {
	root := api.Ptr{Kind: api.Node, Level: 2, Obj: 9, Birth: 7, Hash: [32]byte{3, 31: 4}, At: [4]uint16{5, 6, 7, 8}}
	return []inode.Inode{
		{}, {Kind: inode.File}, {Kind: inode.File, Links: math.MaxUint16, Size: api.MaxFile, Root: root},
		{Kind: inode.Dir}, {Kind: inode.Dir, Links: 2, Size: 100, Root: root},
		{Kind: inode.Link, Size: 1}, {Kind: inode.Link, Links: 1, Size: api.MaxTarget, Root: root},
	}
}

// notInodes are some that may not be.
func notInodes() []inode.Inode {
	return []inode.Inode{
		{Kind: 4}, {Kind: 255, Links: 1}, {Links: 1}, {Size: 1}, {Root: api.Ptr{Kind: api.Node, Level: 2, At: [4]uint16{1}}},
		{Kind: inode.File, Size: api.MaxFile + 1}, {Kind: inode.Dir, Size: math.MaxUint32}, {Kind: inode.Link}, {Kind: inode.Link, Size: api.MaxTarget + 1},
		{Kind: inode.File, Root: api.Ptr{Kind: api.Node, Level: 1, At: [4]uint16{1}}}, {Kind: inode.Dir, Root: api.Ptr{Birth: 1}},
	}
}

// draws hands out numbers below n, the same ones for the same seed.
func draws(seed uint32) func(n int) int {
	return func(n int) int {
		seed = seed*1664525 + 1013904223
		return int(seed>>8) % n
	}
}

// drawn is an act at random; at the numbers and offsets that the tests look at.
func drawn(draw func(n int) int) act {
	a := act{num: numbers()[draw(len(numbers()))], off: offsets()[draw(len(offsets()))]}
	switch draw(8) {
	case 0, 1:
		a.what, a.in = "inode", inodes()[draw(len(inodes()))]
	case 2:
		a.what = "wipe"
	case 3:
		a.what = "leaf"
	case 4:
		a.what, a.leaf = "leaf", []byte{}
	default:
		a.what, a.leaf = "leaf", some(draw(1<<20))
	}
	return a
}
