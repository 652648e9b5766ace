package charge_test

import (
	"bytes"
	"maps"
	"math/big"
	"slices"
	"testing"

	"kintsugi/api"
	"kintsugi/charge"
	"kintsugi/inode"
	"kintsugi/ptr"
	"kintsugi/table"
	"kintsugi/tree"
)

// kinds are those that objects have.
var kinds = []uint8{1, 2, 3}

// object is one of a number, a kind, and offsets.
func object(num uint16, kind uint8, offs ...uint32) charge.Object {
	return charge.Object{Num: num, Kind: kind, Offs: offs}
}

// every are all offsets of leaves.
func every() []uint32 {
	var offs []uint32
	for off := range uint32(64) {
		offs = append(offs, off)
	}
	return offs
}

// draws hands out numbers below n, the same ones for the same seed.
func draws(seed uint32) func(n int) int {
	return func(n int) int {
		seed = seed*1664525 + 1013904223
		return int(seed>>8) % n
	}
}

// drawnOffs are some offsets, in any order, many or few; with wrong ones, and such that come again, if that is asked for.
func drawnOffs(draw func(n int) int, wrong bool) []uint32 {
	var offs []uint32
	often := 1 + draw(30)
	for off := range uint32(64) {
		if draw(often) == 0 {
			offs = append(offs, off)
		}
		if wrong && draw(40) == 0 {
			offs = append(offs, off, 64+off, off<<20+64, 1<<31+off)
		}
	}
	for i := range offs {
		j := draw(i + 1)
		offs[i], offs[j] = offs[j], offs[i]
	}
	return offs
}

// drawn are some objects, in any order, many or few; with what is none's among them, if that is asked for.
func drawn(draw func(n int) int, wrong bool) []charge.Object {
	var l []charge.Object
	often := 1 + draw(40)
	for num := uint16(1); num < 256; num++ {
		if draw(often) == 0 {
			l = append(l, object(num, kinds[draw(3)], drawnOffs(draw, wrong)...))
		}
		if wrong && draw(30) == 0 {
			l = append(l, object(num, uint8(draw(7)), drawnOffs(draw, true)...))
		}
		if wrong && draw(60) == 0 {
			l = append(l, object(256*num, 1, 0), object(256+num, 2, 1), object(num, uint8(draw(256)), 2))
		}
	}
	for i := range l {
		j := draw(i + 1)
		l[i], l[j] = l[j], l[i]
	}
	return l
}

// plainObject is what there is of a number.
type plainObject struct {
	kind   uint8
	leaves map[uint32]bool
}

// plainObjects are what there is of a list: the first one of each number.
func plainObjects(l []charge.Object) map[uint16]plainObject {
	all := map[uint16]plainObject{}
	for _, o := range l {
		_, there := all[o.Num]
		if there || o.Num == 0 || o.Num > 255 || !slices.Contains(kinds, o.Kind) {
			continue
		}
		p := plainObject{o.Kind, map[uint32]bool{}}
		for _, off := range o.Offs {
			if off <= 63 {
				p.leaves[off] = true
			}
		}
		all[o.Num] = p
	}
	return all
}

// plainTakes is the chapter's count, block by block: each has a name, and its price.
func plainTakes(l []charge.Object) int {
	type block struct {
		what    string
		num, at int
	}
	blocks := map[block]int{{what: "top"}: 2}
	for num, o := range plainObjects(l) {
		n := int(num)
		for off := range o.leaves {
			blocks[block{"leaf", n, int(off)}] = map[uint8]int{1: 1, 2: 2, 3: 2}[o.kind]
			blocks[block{"node", n, int(off) / 8}] = 2
			blocks[block{"root", n, 0}] = 2
		}
		blocks[block{"table block", 0, n / 4}] = 2
		blocks[block{"table node", 0, n / 32}] = 2
		blocks[block{"table root", 0, 0}] = 2
	}
	sum := 0
	for _, price := range blocks {
		sum += price
	}
	return sum
}

// plainOf is the chapter's tally.
func plainOf(l []charge.Object) charge.Tally {
	var t charge.Tally
	for _, o := range plainObjects(l) {
		t.Objects++
		if o.kind == 1 {
			t.Files += len(o.leaves)
		} else {
			t.Metas += len(o.leaves)
		}
	}
	return t
}

// plainCharge is the chapter's charge, however great.
func plainCharge(t charge.Tally) *big.Int {
	sum := big.NewInt(20)
	for _, x := range []struct{ n, price int }{{t.Files, 3}, {t.Metas, 4}, {t.Objects, 4}} {
		sum.Add(sum, new(big.Int).Mul(big.NewInt(int64(x.n)), big.NewInt(int64(x.price))))
	}
	return sum
}

// plainFits is whether the charge and Reserve are not above the blocks less 1, however great they are.
func plainFits(t charge.Tally, blocks int) bool {
	need := new(big.Int).Add(plainCharge(t), big.NewInt(320))
	return need.Cmp(new(big.Int).Sub(big.NewInt(int64(blocks)), big.NewInt(1))) <= 0
}

// near is the int that is nearest.
func near(n *big.Int) int {
	least, most := big.NewInt(-1<<63), big.NewInt(1<<63-1)
	if n.Cmp(least) < 0 {
		return int(least.Int64())
	}
	if n.Cmp(most) > 0 {
		return int(most.Int64())
	}
	return int(n.Int64())
}

// tallied says where objects do not take, and are not tallied as, what the chapter's words say.
func tallied(t *testing.T, l []charge.Object) {
	t.Helper()
	counted(t, l, plainTakes(l), plainOf(l))
}

// counted says where objects do not take that much, or have another tally, or take more than that tally's charge.
func counted(t *testing.T, l []charge.Object, takes int, want charge.Tally) {
	t.Helper()
	if n := charge.Takes(l); n != takes {
		t.Errorf("Takes of %v: %d, want %d", l, n, takes)
	}
	of := charge.Of(l)
	if of != want {
		t.Errorf("Of %v: %v, want %v", l, of, want)
	}
	if n := charge.Takes(l); n > of.Charge() {
		t.Errorf("%v take %d, the charge of %v is %d", l, n, of, of.Charge())
	}
}

// store is a sink in memory that counts the addresses of each disk that its blocks take.
type store struct {
	blocks map[api.Ptr][]byte
	used   [2]int
	made   uint64
}

func (s *store) Read(p api.Ptr) ([]byte, api.Errno) {
	if b, ok := s.blocks[p]; ok {
		return bytes.Clone(b), api.OK
	}
	return nil, api.EIO
}

func (s *store) New(p api.Ptr, block []byte) (api.Ptr, api.Errno) {
	s.made++
	p.Birth = s.made
	for i := range ptr.Wide(p.Kind) {
		p.At[i], p.At[2+i] = uint16(1+i), uint16(1+i)
	}
	p = ptr.Seal(p, block)
	s.blocks[p] = bytes.Clone(block)
	s.use(p, 1)
	return p, api.OK
}

func (s *store) Old(p api.Ptr) {
	delete(s.blocks, p)
	s.use(p, -1)
}

// use counts a block's addresses, so many times.
func (s *store) use(p api.Ptr, times int) {
	for disk := range ptr.Copies(p) {
		s.used[disk] += times
	}
}

// system is a file system's blocks as the layers below make them, and its objects.
type system struct {
	s          *store
	top, table api.Ptr
	kinds      map[uint16]uint8
	roots      map[uint16]api.Ptr
}

// newSystem has no objects, but a top.
func newSystem(t *testing.T) *system {
	y := &system{s: &store{blocks: map[api.Ptr][]byte{}}, kinds: map[uint16]uint8{}, roots: map[uint16]api.Ptr{}}
	y.set(t)
	return y
}

// make lets there be an object of a number, without leaves.
func (y *system) make(t *testing.T, num uint16, kind uint8) {
	t.Helper()
	y.kinds[num], y.roots[num] = kind, api.Ptr{}
	y.set(t, table.Item{Num: num, In: y.inode(num)})
}

// drop lets there be none.
func (y *system) drop(t *testing.T, num uint16) {
	t.Helper()
	y.leaves(t, num, false, every()...)
	delete(y.kinds, num)
	delete(y.roots, num)
	y.set(t, table.Item{Num: num})
}

// leaves lets an object have leaves, or holes, of rising offsets.
func (y *system) leaves(t *testing.T, num uint16, there bool, offs ...uint32) {
	t.Helper()
	var l []tree.Leaf
	for _, off := range offs {
		x := tree.Leaf{Off: off}
		if there {
			x.P, _ = y.s.New(api.Ptr{Kind: inode.Leaf(y.kinds[num]), Obj: num, Off: off}, make([]byte, api.Block))
		}
		l = append(l, x)
	}
	root, e := tree.Set(y.s, y.roots[num], num, l)
	if e != api.OK {
		t.Fatal(e)
	}
	y.roots[num] = root
	y.set(t, table.Item{Num: num, In: y.inode(num)})
}

// inode is that of an object.
func (y *system) inode(num uint16) inode.Inode {
	return inode.Inode{Kind: y.kinds[num], Links: 1, Size: 1, Root: y.roots[num]}
}

// set sets the table, and makes a new top in the place of the old one.
func (y *system) set(t *testing.T, l ...table.Item) {
	t.Helper()
	var e api.Errno
	if y.table, e = table.Set(y.s, y.table, l); e != api.OK {
		t.Fatal(e)
	}
	if y.top != (api.Ptr{}) {
		y.s.Old(y.top)
	}
	if y.top, e = y.s.New(api.Ptr{Kind: api.Root}, table.PutTop(table.Top{Table: y.table})); e != api.OK {
		t.Fatal(e)
	}
}

// objects are those of the system, as its trees tell them.
func (y *system) objects(t *testing.T) []charge.Object {
	t.Helper()
	var l []charge.Object
	for _, num := range slices.Sorted(maps.Keys(y.kinds)) {
		leaves, _, e := tree.All(y.s, y.roots[num])
		if e != api.OK {
			t.Fatal(e)
		}
		o := object(num, y.kinds[num])
		for _, x := range leaves {
			o.Offs = append(o.Offs, x.Off)
		}
		l = append(l, o)
	}
	return l
}

// taken says where the objects do not take what the system's blocks do.
func (y *system) taken(t *testing.T) {
	t.Helper()
	l := y.objects(t)
	n := charge.Takes(l)
	if n != y.s.used[0] || n != y.s.used[1] {
		t.Errorf("Takes of %v: %d, the blocks take %v", l, n, y.s.used)
	}
	if price := charge.Of(l).Charge(); n > price {
		t.Errorf("%v take %d, the charge is %d", l, n, price)
	}
}
