package node_test

import (
	"bytes"
	"math"
	"testing"

	"kintsugi/api"
	"kintsugi/node"
)

// P9.1, P9.2: the chapter's examples: a node of holes is noughts; a Data pointer in the last place stands behind 448 of them.
func TestExamples(t *testing.T) {
	puts(t, node.Node{}, make([]byte, 512))
	p := api.Ptr{Kind: api.Data, At: [4]uint16{1}}
	written := make([]byte, 64)
	written[0], written[48] = 1, 1
	puts(t, node.Node{}.With(7, p), append(make([]byte, 448), written...))
	takes(t, make([]byte, 512), node.Node{})
	takes(t, append(make([]byte, 448), written...), node.Node{7: p})
}

// P9.1, P9.3: each pointer that may be, at each place, alone: its bytes stand there and noughts elsewhere, and the block is read as the node.
func TestOnePointer(t *testing.T) {
	for _, p := range mays() {
		for i := range api.Fan {
			var n node.Node
			n[i] = p
			want := make([]byte, api.Block)
			copy(want[size*i:], bytesOf(p))
			puts(t, n, want)
			takes(t, want, n)
		}
	}
}

// P9.1, P9.3: nodes of all sorts, whose pointers are of any kinds, alike or not: Put tells the pointers' bytes in a row, Take the node.
func TestPutAndTake(t *testing.T) {
	for _, n := range nodes() {
		puts(t, n, blockOf(n))
		takes(t, blockOf(n), n)
	}
}

// P9.1: a pointer that is neither a hole nor may be, at any place, alone or among those that may be: no bytes, and ErrForm.
func TestPutErrForm(t *testing.T) {
	for _, p := range mayNots() {
		for i := range api.Fan {
			for _, n := range append(nodes(), node.Node{}) {
				n[i] = p
				if b, e := n.Put(); len(b) != 0 || e != api.ErrForm {
					t.Errorf("%v at %d: %d bytes, %v", p, i, len(b), e)
				}
			}
		}
	}
	var all node.Node
	for i := range all {
		all[i] = mayNots()[i]
	}
	if b, e := all.Put(); len(b) != 0 || e != api.ErrForm {
		t.Errorf("none may be: %d bytes, %v", len(b), e)
	}
}

// P9.1: bytes that are no Block are ErrForm: none, fewer, more, those of whole pointers too.
func TestTakeNoBlock(t *testing.T) {
	full := blockOf(nodes()[1])
	long := append(append([]byte{}, full...), full...)
	refused(t, "nil", nil)
	for n := range 2*api.Block + 1 {
		if n == api.Block {
			continue
		}
		refused(t, "noughts", make([]byte, n))
		refused(t, "pointers", long[:n])
		refused(t, "no pointers", bytes.Repeat([]byte{255}, n))
	}
	refused(t, "many", make([]byte, 8*api.Block))
}

// P9.1: one of the pointers' bytes are none of a pointer that may be, and no hole's, at any place: ErrForm, and no pointer of the others.
func TestTakeErrForm(t *testing.T) {
	for _, p := range mayNots() {
		for i := range api.Fan {
			for _, n := range append(nodes(), node.Node{}) {
				b := blockOf(n)
				copy(b[size*i:], bytesOf(p))
				refused(t, "a pointer that may not be", b)
			}
		}
	}
	refused(t, "bytes of 255", bytes.Repeat([]byte{255}, api.Block))
	refused(t, "bytes of 1", bytes.Repeat([]byte{1}, api.Block))
}

// P9.1: what must be noughts at the end of a pointer, and is not, is ErrForm, behind a pointer and behind a hole.
func TestTakeNoughts(t *testing.T) {
	for _, n := range []node.Node{{}, nodes()[1]} {
		for i := range api.Fan {
			for j := restAt; j < size; j++ {
				b := blockOf(n)
				b[size*i+j] = 1
				refused(t, "no nought at the end", b)
			}
		}
	}
}

// P9.1, P9.3: each byte of a block counts: one that is changed is another node, or none.
func TestEachByte(t *testing.T) {
	for _, n := range nodes()[:4] {
		for i := range api.Block {
			for _, x := range []byte{1, 2, 128, 255} {
				b := blockOf(n)
				b[i] ^= x
				got, e := node.Take(b)
				if want, ok := plainTake(b); got != want || ok != (e == api.OK) || got == n || e != api.OK && e != api.ErrForm {
					t.Errorf("byte %d by %d: %v, %v", i, x, got, e)
				}
			}
		}
	}
}

// P9.2: Empty, Len: which are holes; whether the others may be is of no account.
func TestEmptyAndLen(t *testing.T) {
	if n := (node.Node{}); !n.Empty() || n.Len() != 0 {
		t.Errorf("of holes: %v, %d", n.Empty(), n.Len())
	}
	for _, p := range append(mays(), mayNots()...) {
		for mask := 1; mask < 1<<api.Fan; mask++ {
			var n node.Node
			want := 0
			for i := range n {
				if mask>>i&1 != 0 {
					n[i] = p
					want++
				}
			}
			if n.Empty() || n.Len() != want {
				t.Fatalf("%v at %b: %v, %d", p, mask, n.Empty(), n.Len())
			}
		}
	}
}

// P9.2, P9.3: With changes its place alone, to a pointer, to one that may not be, to a hole; and not the node that it was made of.
func TestWith(t *testing.T) {
	ps := []api.Ptr{{}, mays()[0], mays()[len(mays())-1], mayNots()[0], mayNots()[1]}
	for _, n := range append(nodes(), node.Node{}) {
		for i := range api.Fan {
			for _, p := range ps {
				was := n
				got := n.With(i, p)
				if n != was {
					t.Fatalf("With(%d) changed the node", i)
				}
				for j := range got {
					want := n[j]
					if j == i {
						want = p
					}
					if got[j] != want {
						t.Errorf("With(%d): %v at %d, want %v", i, got[j], j, want)
					}
				}
				if back := got.With(i, n[i]); back != n {
					t.Errorf("With(%d) and back: %v", i, back)
				}
			}
		}
	}
}

// P9.2: With of a place that there is not: the node as it is.
func TestWithNoPlace(t *testing.T) {
	p := mays()[0]
	for _, i := range []int{-1, -2, -8, 8, 9, 16, 255, 256, 1 << 32, math.MinInt, math.MaxInt} {
		for _, n := range append(nodes(), node.Node{}) {
			if got := n.With(i, p); got != n {
				t.Errorf("With(%d): %v", i, got)
			}
		}
	}
}

// R3: Take changes nothing of its block, nor of the room behind it, and keeps none of it; Put hands out new memory each time.
func TestNothingShared(t *testing.T) {
	n := nodes()[1]
	room := append(blockOf(n), some(100, 3)...)
	b := room[:api.Block]
	was := append([]byte{}, room...)
	got, e := node.Take(b)
	if e != api.OK || got != n || !bytes.Equal(room, was) {
		t.Errorf("%v; its bytes changed: %v", e, !bytes.Equal(room, was))
	}
	for i := range room {
		room[i] = 255
	}
	if got != n {
		t.Error("the node hangs on the block's memory")
	}
	first, _ := n.Put()
	second, _ := n.Put()
	for i, x := range whole(first) {
		whole(first)[i] = x ^ 255
	}
	if !bytes.Equal(second, blockOf(n)) {
		t.Error("two blocks share memory")
	}
	puts(t, n, blockOf(n))
}
