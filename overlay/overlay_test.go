package overlay_test

import (
	"bytes"
	"fmt"
	"slices"
	"testing"

	"kintsugi/api"
	"kintsugi/inode"
	"kintsugi/overlay"
)

// P15.2, P15.3: the chapter's examples, one behind the other.
func TestExamples(t *testing.T) {
	o := newOver(t, newGround(2))
	was, e := o.Leaf(5, 0)
	if e != api.OK || len(was) != api.Block {
		t.Fatal(len(was), e)
	}
	x := o.Begin()
	if e := x.Wipe(5); e != api.OK {
		t.Error(e)
	}
	if b, e := x.Leaf(5, 0); e != api.OK || len(b) != 0 {
		t.Errorf("there: % x, %v", b, e)
	}
	if b, e := o.Leaf(5, 0); e != api.OK || !bytes.Equal(b, was) {
		t.Errorf("here: % x, %v", b, e)
	}
	if e := o.End(x); e != api.OK {
		t.Error(e)
	}
	if b, e := o.Leaf(5, 0); e != api.OK || len(b) != 0 {
		t.Errorf("behind End: % x, %v", b, e)
	}
}

// P15.1: a new one has nothing, and tells what its base does, whatever number and offset; each time the base is asked once, and just that.
func TestNew(t *testing.T) {
	g := newGround(2)
	o := newOver(t, g)
	looksLike(t, o, &plain{seed: 2})
	g.told()
	for num := uint16(1); num <= api.MaxObject; num++ {
		if n, e := o.Inode(num); e != api.OK || n != groundInode(2, num) {
			t.Errorf("Inode(%d): %v, %v", num, n, e)
		}
		asked(t, g, fmt.Sprint("Inode ", num))
		for off := range uint32(api.Leaves) {
			want := groundLeaf(2, num, off)
			if b, e := o.Leaf(num, off); e != api.OK || !bytes.Equal(b, want) {
				t.Errorf("Leaf(%d, %d): % x, %v", num, off, b, e)
			}
			asked(t, g, fmt.Sprint("Leaf ", num, " ", off))
			if m, e := o.Mapped(num, off); e != api.OK || m != (len(want) > 0) {
				t.Errorf("Mapped(%d, %d): %v, %v", num, off, m, e)
			}
			asked(t, g, fmt.Sprint("Mapped ", num, " ", off))
		}
	}
}

// P15.1, P15.2: what an overlay has of its own, an inode, a leaf, a hole, a wiped number, the base is not asked, and nothing else is another one by it.
func TestOwnParts(t *testing.T) {
	for _, num := range []uint16{1, 2, 3, 4, 255} {
		for _, off := range []uint32{0, 1, 2, 63} {
			for _, a := range []act{
				{what: "inode", num: num}, {what: "inode", num: num, in: inode.Inode{Kind: inode.Dir, Links: 2}},
				{what: "leaf", num: num, off: off, leaf: some(9)}, {what: "leaf", num: num, off: off, leaf: make([]byte, api.Block)},
				{what: "leaf", num: num, off: off}, {what: "leaf", num: num, off: off, leaf: []byte{}}, {what: "wipe", num: num},
			} {
				g := newGround(int(off))
				o := newOver(t, g)
				a.do(t, o)
				looksLike(t, o, &plain{seed: int(off), acts: []act{a}})
				g.told()
				_, _ = o.Inode(num)
				if a.what == "inode" {
					asked(t, g)
				} else {
					asked(t, g, fmt.Sprint("Inode ", num))
				}
				_, _ = o.Leaf(num, off)
				_, _ = o.Mapped(num, off)
				if a.what != "inode" {
					asked(t, g)
				} else {
					asked(t, g, fmt.Sprint("Leaf ", num, " ", off), fmt.Sprint("Mapped ", num, " ", off))
				}
			}
		}
	}
}

// P15.2, P15.4: nothing that is set, wiped, or asked for among its own lets the base be asked.
func TestBaseIsNotAsked(t *testing.T) {
	g := newGround(3)
	o := newOver(t, g)
	x := o.Begin()
	draw := draws(1)
	for range 100 {
		drawn(draw).do(t, x)
	}
	if e := o.End(x); e != api.OK {
		t.Error(e)
	}
	o.Nums()
	o.Dirty()
	for _, num := range numbers() {
		o.Own(num)
		o.Changes(num)
		o.Wiped(num)
	}
	if e := o.Clear(g); e != api.OK {
		t.Error(e)
	}
	asked(t, g)
}

// P15.1, R4: what the base answers is the answer, with nothing beside it; of its own parts it plays no part.
func TestErrorsOfTheBase(t *testing.T) {
	for _, e := range []api.Errno{api.ErrArg, api.ErrNil, api.EIO, api.ErrForm, 77, -1} {
		g := newGround(3)
		g.ill = map[uint16]api.Errno{4: e}
		o := newOver(t, g)
		for _, x := range []*overlay.Overlay{o, o.Begin(), o.Begin().Begin()} {
			tellsError(t, x, 4, 0, e)
			tellsError(t, x, 4, 63, e)
			if e := x.SetInode(4, inode.Inode{}); e != api.OK {
				t.Error(e)
			}
			if n, e := x.Inode(4); e != api.OK || n != (inode.Inode{}) {
				t.Errorf("Inode: %v, %v", n, e)
			}
			if e := x.SetLeaf(4, 0, some(1)); e != api.OK {
				t.Error(e)
			}
			if b, e := x.Leaf(4, 0); e != api.OK || !bytes.Equal(b, some(1)) {
				t.Errorf("Leaf: % x, %v", b, e)
			}
			if b, is := x.Leaf(4, 1); is != e || len(b) != 0 {
				t.Errorf("Leaf: % x, %v, want %v", b, is, e)
			}
			if e := x.Wipe(4); e != api.OK {
				t.Error(e)
			}
			if m, e := x.Mapped(4, 1); e != api.OK || m {
				t.Errorf("Mapped: %v, %v", m, e)
			}
			if e := o.Clear(g); e != api.OK {
				t.Error(e)
			}
		}
	}
}

// P15.2, R4, R5: a number or an offset that there is not, an inode that may not be, and bytes that are neither none nor Block, are ErrArg; nothing is changed, and the base is not asked, whatever it would answer.
func TestArguments(t *testing.T) {
	g := newGround(1)
	g.ill = map[uint16]api.Errno{}
	for num := range 1 << 16 {
		if num == 0 || num > api.MaxObject {
			g.ill[uint16(num)] = api.EIO
		}
	}
	o := newOver(t, g)
	first := act{what: "leaf", num: 1, leaf: some(5)}
	first.do(t, o)
	for _, num := range notNumbers() {
		for _, off := range append(notOffsets(), 0, 63) {
			tellsError(t, o, num, off, api.ErrArg)
			refused(t, "SetLeaf", o.SetLeaf(num, off, some(1)))
			refused(t, "SetLeaf", o.SetLeaf(num, off, nil))
		}
		refused(t, "SetInode", o.SetInode(num, inode.Inode{}))
		refused(t, "Wipe", o.Wipe(num))
	}
	for _, num := range numbers() {
		for _, off := range notOffsets() {
			if b, e := o.Leaf(num, off); e != api.ErrArg || len(b) != 0 {
				t.Errorf("Leaf(%d, %d): % x, %v", num, off, b, e)
			}
			if m, e := o.Mapped(num, off); e != api.ErrArg || m {
				t.Errorf("Mapped(%d, %d): %v, %v", num, off, m, e)
			}
			refused(t, "SetLeaf", o.SetLeaf(num, off, some(1)))
			refused(t, "SetLeaf", o.SetLeaf(num, off, nil))
		}
		for _, n := range notInodes() {
			refused(t, "SetInode", o.SetInode(num, n))
		}
		for _, n := range []int{1, 2, 511, 513, 1023, 1024, 1 << 16} {
			refused(t, "SetLeaf", o.SetLeaf(num, 0, make([]byte, n)))
		}
	}
	asked(t, g)
	looksLike(t, o, &plain{seed: 1, acts: []act{first}})
}

// P15.2: each number, and each offset, has its own inode, leaf and hole.
func TestEachPlace(t *testing.T) {
	o, w := newOver(t, newGround(1)), &plain{seed: 1}
	for num := uint16(api.MaxObject); num >= 1; num-- {
		if e := o.SetInode(num, inode.Inode{Kind: inode.File, Size: uint32(num)}); e != api.OK {
			t.Error(num, e)
		}
		for off := range uint32(api.Leaves) {
			var leaf []byte
			if (int(num)+int(off))%2 == 0 {
				leaf = some(1000*int(num) + int(off))
			}
			a := act{what: "leaf", num: num, off: off, leaf: leaf}
			a.do(t, o)
			w.acts = append(w.acts, a)
		}
	}
	if leaves, inodes := o.Dirty(); leaves != api.MaxObject*api.Leaves/2 || inodes != api.MaxObject {
		t.Errorf("Dirty: %d, %d", leaves, inodes)
	}
	if !slices.Equal(o.Nums(), w.nums()) {
		t.Errorf("Nums: %v", o.Nums())
	}
	for num := uint16(1); num <= api.MaxObject; num++ {
		if n, e := o.Inode(num); e != api.OK || n.Size != uint32(num) {
			t.Errorf("Inode(%d): %v, %v", num, n, e)
		}
		want := w.acts[(api.MaxObject-int(num))*api.Leaves:][:api.Leaves]
		for i, c := range o.Changes(num) {
			if c.Off != uint32(i) || !bytes.Equal(c.Block, want[i].leaf) {
				t.Errorf("Changes(%d): at %d offset %d, % x", num, i, c.Off, c.Block)
			}
			b, e := o.Leaf(num, c.Off)
			m, _ := o.Mapped(num, c.Off)
			if e != api.OK || !bytes.Equal(b, want[i].leaf) || m != (len(want[i].leaf) > 0) {
				t.Errorf("Leaf(%d, %d): % x, %v", num, c.Off, b, e)
			}
		}
	}
}

// P15.2: each inode that may be is set, in the place of each other one.
func TestSetInode(t *testing.T) {
	for _, first := range inodes() {
		for _, second := range inodes() {
			o, w := newOver(t, newGround(1)), &plain{seed: 1}
			for _, n := range []inode.Inode{first, second} {
				a := act{what: "inode", num: 3, in: n}
				a.do(t, o)
				w.acts = append(w.acts, a)
				looksLike(t, o, w)
			}
		}
	}
}

// P15.2: rows of up to three acts on one number, whatever they are: the last one of a place holds, and Wipe takes the leaves and holes that are there, not the inode, and not what comes behind it.
func TestRows(t *testing.T) {
	acts := []act{
		{what: "inode", num: 5}, {what: "inode", num: 5, in: inode.Inode{Kind: inode.Dir}}, {what: "wipe", num: 5},
		{what: "leaf", num: 5, off: 1, leaf: some(1)}, {what: "leaf", num: 5, off: 1, leaf: some(2)}, {what: "leaf", num: 5, off: 1},
		{what: "leaf", num: 5, off: 7, leaf: some(3)}, {what: "leaf", num: 5, off: 7}, {what: "leaf", num: 4, off: 1, leaf: some(4)},
	}
	for i := range acts {
		for j := range acts {
			for k := range acts {
				row := []act{acts[i], acts[j], acts[k]}
				o := newOver(t, newGround(1))
				for _, a := range row {
					a.do(t, o)
				}
				looksLike(t, o, &plain{seed: 1, acts: row})
			}
		}
	}
}

// P15.3: what a trial has is done to the overlay, whatever both have, by rows of one act, or none, ahead of Begin and in the trial, and one behind Begin that the trial sees through.
func TestEndOfEach(t *testing.T) {
	acts := []act{
		{what: "none"}, {what: "inode", num: 5}, {what: "inode", num: 5, in: inode.Inode{Kind: inode.Dir}}, {what: "wipe", num: 5},
		{what: "leaf", num: 5, off: 1, leaf: some(1)}, {what: "leaf", num: 5, off: 1}, {what: "leaf", num: 5, off: 7, leaf: some(3)}, {what: "wipe", num: 4},
	}
	for _, ahead := range acts {
		for _, first := range acts {
			for _, second := range acts {
				for _, late := range acts {
					o := newOver(t, newGround(1))
					ahead.do(t, o)
					x := o.Begin()
					first.do(t, x)
					second.do(t, x)
					late.do(t, o)
					w := &plain{seed: 1, acts: done(ahead, late)}
					looksLike(t, o, w)
					y := &plain{over: w, acts: done(first, second)}
					looksLike(t, x, y)
					if e := o.End(x); e != api.OK {
						t.Error(e)
					}
					looksLike(t, o, &plain{seed: 1, acts: slices.Concat(w.acts, y.acts)})
				}
			}
		}
	}
}

// P15.3: a trial that is not ended changes nothing, nor do trials of it, ended in it or not.
func TestNotEnded(t *testing.T) {
	draw := draws(4)
	o, w := newOver(t, newGround(1)), &plain{seed: 1}
	for range 30 {
		a := drawn(draw)
		a.do(t, o)
		w.acts = append(w.acts, a)
	}
	x := o.Begin()
	for i := range 60 {
		drawn(draw).do(t, x)
		y := x.Begin()
		drawn(draw).do(t, y)
		if i%2 == 0 && x.End(y) != api.OK {
			t.Error("End")
		}
		looksLike(t, o, w)
	}
}

// P15.3: what is no trial of an overlay may not be ended: no overlay, one that New made, another one's trial, a trial's trial, the overlay itself; nothing is changed.
func TestNoTrial(t *testing.T) {
	o := newOver(t, newGround(1))
	other, above := newOver(t, newGround(1)), newOver(t, o)
	x := o.Begin()
	y := x.Begin()
	for i, no := range []*overlay.Overlay{nil, o, other, above, other.Begin(), above.Begin(), y} {
		if no != nil && no != o {
			_ = no.SetLeaf(1, 1, some(9))
		}
		if e := o.End(no); e != api.ErrArg {
			t.Errorf("%d: %v", i, e)
		}
		looksLike(t, o, &plain{seed: 1})
	}
	refused(t, "End", x.End(x))
	refused(t, "End", x.End(o))
	refused(t, "End", y.End(x))
	refused(t, "End", other.End(x))
	// What was refused may be ended where it is a trial.
	if x.End(y) != api.OK || o.End(x) != api.OK {
		t.Error("End")
	}
	if b, e := o.Leaf(1, 1); e != api.OK || !bytes.Equal(b, some(9)) {
		t.Errorf("% x, %v", b, e)
	}
}

// P15.3: one that was ended may not be ended again, whatever was done to either meanwhile.
func TestEndedOnce(t *testing.T) {
	g := newGround(1)
	o := newOver(t, g)
	x := o.Begin()
	if e := o.End(x); e != api.OK {
		t.Error(e)
	}
	refused(t, "End", o.End(x))
	_ = x.SetLeaf(1, 1, some(9))
	refused(t, "End", o.End(x))
	y := x.Begin()
	if e := x.End(y); e != api.OK {
		t.Error(e)
	}
	refused(t, "End", o.End(x))
	if e := x.Clear(o); e != api.OK {
		t.Error(e)
	}
	refused(t, "End", o.End(x))
	if e := o.Clear(g); e != api.OK {
		t.Error(e)
	}
	refused(t, "End", o.End(x))
	looksLike(t, o, &plain{seed: 1})
}

// P15.3: behind End neither the trial nor the overlay shows what is done to the other one, but for what the trial sees through.
func TestApartBehindEnd(t *testing.T) {
	o := newOver(t, newGround(1))
	x := o.Begin()
	acts := []act{{what: "leaf", num: 1, off: 1, leaf: some(1)}, {what: "wipe", num: 2}, {what: "leaf", num: 2, off: 2, leaf: some(2)}, {what: "inode", num: 3}}
	for _, a := range acts {
		a.do(t, x)
	}
	if e := o.End(x); e != api.OK {
		t.Error(e)
	}
	there := act{what: "leaf", num: 1, off: 2, leaf: some(3)}
	there.do(t, x)
	w := &plain{seed: 1, acts: acts}
	looksLike(t, o, w)
	here := []act{{what: "leaf", num: 2, off: 1, leaf: some(4)}, {what: "leaf", num: 1, off: 7, leaf: some(5)}}
	for _, a := range here {
		a.do(t, o)
	}
	w.acts = slices.Concat(acts, here)
	looksLike(t, o, w)
	looksLike(t, x, &plain{over: w, acts: append(slices.Clone(acts), there)})
}

// P15.3, P15.6: two trials of one overlay see what the other one's End did, and both may be ended, in either order.
func TestTwoTrials(t *testing.T) {
	acts := [2][]act{
		{{what: "leaf", num: 1, off: 1, leaf: some(1)}, {what: "leaf", num: 2, off: 1, leaf: some(2)}},
		{{what: "wipe", num: 1}, {what: "leaf", num: 1, off: 2, leaf: some(3)}, {what: "inode", num: 2}},
	}
	for first := range 2 {
		o, w := newOver(t, newGround(1)), &plain{seed: 1}
		trials := [2]*overlay.Overlay{o.Begin(), o.Begin()}
		for i, x := range trials {
			for _, a := range acts[i] {
				a.do(t, x)
			}
			looksLike(t, x, &plain{over: w, acts: acts[i]})
		}
		for _, i := range []int{first, 1 - first} {
			if e := o.End(trials[i]); e != api.OK {
				t.Error(e)
			}
			w.acts = append(w.acts, acts[i]...)
			looksLike(t, o, w)
			looksLike(t, trials[1-first], &plain{over: w, acts: acts[1-first]})
		}
	}
}

// P15.3: a trial that has nothing changes nothing by its End.
func TestEmptyTrial(t *testing.T) {
	a := act{what: "leaf", num: 1, off: 1, leaf: some(1)}
	o := newOver(t, newGround(1))
	a.do(t, o)
	if e := o.End(o.Begin()); e != api.OK {
		t.Error(e)
	}
	looksLike(t, o, &plain{seed: 1, acts: []act{a}})
}

// P15.3: an overlay that New made over another one is none of its trials, but sees through it all the same.
func TestOverAnother(t *testing.T) {
	o := newOver(t, newGround(1))
	x := newOver(t, o)
	w := &plain{seed: 1}
	y := &plain{over: w}
	draw := draws(6)
	for range 100 {
		a, b := drawn(draw), drawn(draw)
		a.do(t, o)
		b.do(t, x)
		w.acts, y.acts = append(w.acts, a), append(y.acts, b)
	}
	looksLike(t, o, w)
	looksLike(t, x, y)
	refused(t, "End", o.End(x))
	looksLike(t, o, w)
}

// P15.5: it has nothing any more, and tells what that base does; what it was over before plays no part, and its own calls go on.
func TestClear(t *testing.T) {
	first, second := newGround(1), newGround(2)
	o := newOver(t, first)
	draw := draws(2)
	for _, b := range []*ground{second, first, first, second} {
		for range 50 {
			drawn(draw).do(t, o)
		}
		if e := o.Clear(b); e != api.OK {
			t.Error(e)
		}
		first.told()
		second.told()
		looksLike(t, o, &plain{seed: b.seed})
		if b == first {
			asked(t, second)
		} else {
			asked(t, first)
		}
		a := act{what: "leaf", num: 2, off: 2, leaf: some(2)}
		a.do(t, o)
		looksLike(t, o, &plain{seed: b.seed, acts: []act{a}})
	}
}

// P15.5, P15.3: trials that were begun ahead of a Clear of their overlay see through to the new base, and may be ended.
func TestClearUnderTrials(t *testing.T) {
	o := newOver(t, newGround(1))
	old := act{what: "leaf", num: 1, off: 1, leaf: some(1)}
	old.do(t, o)
	x := o.Begin()
	a := act{what: "leaf", num: 1, off: 2, leaf: some(2)}
	a.do(t, x)
	if e := o.Clear(newGround(2)); e != api.OK {
		t.Error(e)
	}
	looksLike(t, x, &plain{over: &plain{seed: 2}, acts: []act{a}})
	if e := o.End(x); e != api.OK {
		t.Error(e)
	}
	looksLike(t, o, &plain{seed: 2, acts: []act{a}})
}

// P15.3, P15.5: a trial that was cleared over another base is none any more, until it is cleared over the one that began it.
func TestClearOfATrial(t *testing.T) {
	o := newOver(t, newGround(1))
	for _, b := range []overlay.Base{newGround(2), newOver(t, o), o.Begin()} {
		x := o.Begin()
		a := act{what: "leaf", num: 1, off: 2, leaf: some(2)}
		a.do(t, x)
		if e := x.Clear(b); e != api.OK {
			t.Error(e)
		}
		a.do(t, x)
		refused(t, "End", o.End(x))
		looksLike(t, o, &plain{seed: 1})
		if e := x.Clear(o); e != api.OK {
			t.Error(e)
		}
		if e := o.End(x); e != api.OK {
			t.Error(e)
		}
		looksLike(t, o, &plain{seed: 1})
	}
}

// P15.5, R1, R4: over no base, and over itself, by whatever others between, an overlay isn't laid, and has what it had.
func TestClearRefused(t *testing.T) {
	o := newOver(t, newGround(1))
	a := act{what: "leaf", num: 1, off: 2, leaf: some(2)}
	a.do(t, o)
	x := o.Begin()
	y := newOver(t, x.Begin())
	if e := o.Clear(nil); e != api.ErrNil {
		t.Error(e)
	}
	for _, b := range []overlay.Base{o, x, y} {
		if e := o.Clear(b); e != api.ErrArg {
			t.Error(e)
		}
	}
	refused(t, "Clear", x.Clear(y))
	looksLike(t, o, &plain{seed: 1, acts: []act{a}})
	tells(t, y, &plain{seed: 1, acts: []act{a}})
	if e := y.Clear(o); e != api.OK {
		t.Error(e)
	}
}

// R1: calls on nil objects, and over nil ones.
func TestNil(t *testing.T) {
	if o, e := overlay.New(nil); o != nil || e != api.ErrNil {
		t.Errorf("New: %v, %v", o, e)
	}
	var o *overlay.Overlay
	there := newOver(t, newGround(1))
	for _, num := range append(numbers(), notNumbers()...) {
		for _, off := range append(offsets(), notOffsets()...) {
			tellsError(t, o, num, off, api.ErrNil)
		}
		for _, b := range [][]byte{nil, some(1), make([]byte, 7)} {
			if e := o.SetLeaf(num, 64, b); e != api.ErrNil {
				t.Errorf("SetLeaf: %v", e)
			}
		}
		if e := o.SetInode(num, inode.Inode{Kind: 9}); e != api.ErrNil {
			t.Errorf("SetInode: %v", e)
		}
		if e := o.Wipe(num); e != api.ErrNil {
			t.Errorf("Wipe: %v", e)
		}
		if n, ok := o.Own(num); n != (inode.Inode{}) || ok || o.Wiped(num) || len(o.Changes(num)) != 0 {
			t.Errorf("Own: %v, %v, or Wiped, or Changes", n, ok)
		}
	}
	if o.Begin() != nil || len(o.Nums()) != 0 {
		t.Error("Begin, or Nums")
	}
	for _, x := range []*overlay.Overlay{nil, there, there.Begin()} {
		if e := o.End(x); e != api.ErrNil {
			t.Errorf("End: %v", e)
		}
		if e := o.Clear(x); e != api.ErrNil {
			t.Errorf("Clear: %v", e)
		}
	}
	if leaves, inodes := o.Dirty(); leaves != 0 || inodes != 0 {
		t.Errorf("Dirty: %d, %d", leaves, inodes)
	}
	if e := o.Clear(nil); e != api.ErrNil {
		t.Errorf("Clear: %v", e)
	}
	// An overlay that there is not is a base that answers ErrNil.
	tellsError(t, newOver(t, o), 1, 0, api.ErrNil)
	if e := there.Clear(o); e != api.OK {
		t.Errorf("Clear: %v", e)
	}
	tellsError(t, there, 1, 0, api.ErrNil)
}

// R1: what did not come out of this package's calls has no base, and nothing panics.
func TestZeroOverlay(t *testing.T) {
	o := &overlay.Overlay{}
	tellsError(t, o, 1, 1, api.ErrNil)
	x := o.Begin()
	tellsError(t, x, 1, 1, api.ErrNil)
	_ = x.SetLeaf(1, 1, some(1))
	for _, e := range []api.Errno{o.SetInode(1, inode.Inode{}), o.SetLeaf(1, 1, nil), o.Wipe(1), o.End(x), o.Clear(newGround(1))} {
		if e != api.ErrNil {
			t.Error(e)
		}
	}
	if len(o.Nums()) != 0 || len(o.Changes(1)) != 0 || o.Wiped(1) {
		t.Error("it has something")
	}
}

// P15.2, R3: a leaf is a copy: what is written where it was handed in does not show, and what is handed in is not changed, the room behind its end neither.
func TestLeavesAreCopies(t *testing.T) {
	o := newOver(t, newGround(1))
	room := append(some(7), 1, 2, 3)
	if e := o.SetLeaf(1, 1, room[:api.Block]); e != api.OK {
		t.Error(e)
	}
	x := o.Begin()
	if e := x.SetLeaf(2, 2, room[:api.Block]); e != api.OK || o.End(x) != api.OK {
		t.Error(e)
	}
	for _, y := range []*overlay.Overlay{o, x} {
		for range 2 {
			b, _ := y.Leaf(1, 1)
			scribble(b)
			for _, num := range []uint16{1, 2} {
				for _, c := range y.Changes(num) {
					scribble(c.Block)
				}
			}
		}
	}
	if !bytes.Equal(room, append(some(7), 1, 2, 3)) {
		t.Error("what was handed in was changed")
	}
	clear(room)
	for num := range uint16(2) {
		if b, e := o.Leaf(num+1, uint32(num+1)); e != api.OK || !bytes.Equal(b, some(7)) {
			t.Errorf("Leaf: % x, %v", b, e)
		}
	}
	scribbleAll(x)
	looksLike(t, o, &plain{seed: 1, acts: []act{{what: "leaf", num: 1, off: 1, leaf: some(7)}, {what: "leaf", num: 2, off: 2, leaf: some(7)}}})
}

// R3: what a base answered, and keeps, is handed out in other memory, through whatever overlays.
func TestBasesLeavesAreCopies(t *testing.T) {
	g := newGround(1)
	o := newOver(t, g)
	for _, x := range []*overlay.Overlay{o, o.Begin(), newOver(t, o.Begin())} {
		scribbleAll(x)
		g.unhurt(t)
		tells(t, x, &plain{seed: 1})
		g.unhurt(t)
	}
	if len(g.kept) == 0 {
		t.Error("nothing was asked")
	}
}

// R2: what is told is the same each time, and of overlays to which the same was done; others play no part.
func TestTheSameTellsTheSame(t *testing.T) {
	draw := draws(9)
	first, second, other := newOver(t, newGround(1)), newOver(t, newGround(1)), newOver(t, newGround(1))
	w := &plain{seed: 1}
	for range 100 {
		a := drawn(draw)
		a.do(t, first)
		drawn(draw).do(t, other)
		a.do(t, second)
		w.acts = append(w.acts, a)
	}
	for range 3 {
		looksLike(t, first, w)
		looksLike(t, second, w)
	}
}

// trial is an overlay of a script, beside the plain one.
type trial struct {
	o *overlay.Overlay
	w *plain
}

// P15.1 to P15.6: long scripts on trials of trials, each of them held against a plain one: ahead of End the overlay tells what it told, behind it what the trial told, and has what both had.
func TestScripts(t *testing.T) {
	for seed := range uint32(15) {
		draw := draws(seed)
		first := trial{newOver(t, newGround(int(seed))), &plain{seed: int(seed)}}
		row := []trial{first} // each one a trial of the one ahead of it
		for step := range 250 {
			last := row[len(row)-1]
			switch k := draw(12); {
			case k < 8:
				a := drawn(draw)
				a.do(t, last.o)
				last.w.acts = append(last.w.acts, a)
			case k < 10 && len(row) < 6:
				row = append(row, trial{last.o.Begin(), &plain{over: last.w}})
			case k == 10 && len(row) > 1:
				// It is given up.
				row = row[:len(row)-1]
			case len(row) > 1:
				row = row[:len(row)-1]
				up := row[len(row)-1]
				looksLike(t, up.o, up.w)
				if e := up.o.End(last.o); e != api.OK {
					t.Fatalf("End: %v", e)
				}
				tells(t, up.o, last.w)
				up.w.acts = append(up.w.acts, last.w.acts...)
			default:
				if draw(4) == 0 {
					*first.w = plain{seed: step}
					if e := first.o.Clear(newGround(step)); e != api.OK {
						t.Fatalf("Clear: %v", e)
					}
				}
			}
			if step%10 == 0 {
				for _, x := range row {
					looksLike(t, x.o, x.w)
				}
			}
			looksLike(t, row[len(row)-1].o, row[len(row)-1].w)
		}
	}
}

// P15.6, R1: a long row of trials of trials, ended from the last one on: each tells what the one behind it told.
func TestLongRow(t *testing.T) {
	row := []*overlay.Overlay{newOver(t, newGround(1))}
	w := &plain{seed: 1}
	draw := draws(3)
	for range 2000 {
		x := row[len(row)-1].Begin()
		a := drawn(draw)
		a.do(t, x)
		w.acts = append(w.acts, a)
		row = append(row, x)
	}
	tells(t, row[len(row)-1], w)
	for i := len(row) - 1; i > 0; i-- {
		if e := row[i-1].End(row[i]); e != api.OK {
			t.Fatal(i, e)
		}
		if i%400 == 0 {
			tells(t, row[i-1], w)
		}
	}
	looksLike(t, row[0], w)
}

// asked says where a ground was not asked just this, in order, since it was asked for that last.
func asked(t *testing.T, g *ground, want ...string) {
	t.Helper()
	if got := g.told(); !slices.Equal(got, want) {
		t.Errorf("asked %v, want %v", got, want)
	}
}

// refused says where a call doesn't answer ErrArg.
func refused(t *testing.T, what string, e api.Errno) {
	t.Helper()
	if e != api.ErrArg {
		t.Errorf("%s: %v, want ErrArg", what, e)
	}
}

// tellsError says where an overlay doesn't answer an error alone.
func tellsError(t *testing.T, o *overlay.Overlay, num uint16, off uint32, want api.Errno) {
	t.Helper()
	if n, e := o.Inode(num); e != want || n != (inode.Inode{}) {
		t.Errorf("Inode(%d): %v, %v, want %v", num, n, e, want)
	}
	if b, e := o.Leaf(num, off); e != want || len(b) != 0 {
		t.Errorf("Leaf(%d, %d): % x, %v, want %v", num, off, b, e, want)
	}
	if m, e := o.Mapped(num, off); e != want || m {
		t.Errorf("Mapped(%d, %d): %v, %v, want %v", num, off, m, e, want)
	}
}

// scribbleAll writes over all leaves that an overlay hands out.
func scribbleAll(o *overlay.Overlay) {
	for _, num := range numbers() {
		for _, off := range offsets() {
			b, _ := o.Leaf(num, off)
			scribble(b)
		}
		for _, c := range o.Changes(num) {
			scribble(c.Block)
		}
	}
}

// done are those of two acts that are some.
func done(a, b act) []act {
	return slices.DeleteFunc([]act{a, b}, func(x act) bool { return x.what == "none" })
}
