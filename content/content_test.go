package content_test

import (
	"bytes"
	"maps"
	"math"
	"slices"
	"testing"

	"kintsugi/api"
	"kintsugi/content"
)

// P13.1 to P13.3: the chapter's examples, one behind the other.
func TestExamples(t *testing.T) {
	s := empty()
	l, size, e := content.Write(s, 0, 510, []byte("abcd"))
	first := append(make([]byte, 510), "ab"...)
	second := append([]byte("cd"), make([]byte, 510)...)
	if e != api.OK || size != 514 || !same(l, []content.Change{{Off: 0, Block: first}, {Off: 1, Block: second}}) {
		t.Fatalf("Write: %v, %d, %v", l, size, e)
	}
	changed(s, l)
	reads(t, s, 514, 600, 5, nil, nil)
	reads(t, s, 514, 508, 100, []byte{0, 0, 'a', 'b', 'c', 'd'}, []uint32{0, 1})
	l, size, e = content.Truncate(s, 514, 511)
	first[511] = 0
	if e != api.OK || size != 511 || !same(l, []content.Change{{Off: 0, Block: first}, {Off: 1}}) {
		t.Errorf("Truncate: %v, %d, %v", l, size, e)
	}
}

// P13.1: each place and count about the ends of leaves, of objects without holes, with some, and of holes alone; just the leaves of these bytes are asked for, in order.
func TestRead(t *testing.T) {
	for _, size := range edges() {
		for _, w := range []*plain{full(size), holed(size, 0), holed(size, 1), {size: size}} {
			s := w.shelf()
			for _, at := range edges() {
				for _, n := range counts() {
					want, asked := w.read(at, n)
					reads(t, s, size, at, n, want, asked)
				}
			}
		}
	}
}

// P13.1: places and counts one by one, in a small object.
func TestReadEachPlace(t *testing.T) {
	for _, size := range []int{0, 1, 511, 512, 513, 1030} {
		w := full(size)
		s := w.shelf()
		for at := range size + 4 {
			for _, n := range []int{0, 1, 2, 3, 512, size, 2048} {
				want, asked := w.read(at, n)
				reads(t, s, size, at, n, want, asked)
			}
		}
	}
}

// P13.1, R7: places behind the end, however far: no bytes, and nothing is asked for; behind MaxFile too.
func TestReadBehindTheEnd(t *testing.T) {
	for _, size := range []int{0, 1, 512, 32767, 32768} {
		s := full(size).shelf()
		for _, at := range []int{size, size + 1, 32768, 32769, 65536 + 3, math.MaxInt32, math.MaxInt - 2048, math.MaxInt - 1, math.MaxInt} {
			if at < size {
				continue
			}
			for _, n := range counts() {
				reads(t, s, size, at, n, nil, nil)
			}
		}
	}
}

// R1: sizes that no object has: they are gone by all the same.
func TestReadOfGreatSizes(t *testing.T) {
	s := empty()
	last := uint32(math.MaxUint32 / 512)
	s.put(last, some(512, 3))
	reads(t, s, math.MaxUint32, math.MaxUint32-5, 2048, some(512, 3)[506:511], []uint32{last})
	reads(t, s, math.MaxUint32, math.MaxUint32, 1, nil, nil)
	reads(t, s, math.MaxUint32, 512*int(last)-1, 3, append([]byte{0}, some(512, 3)[:2]...), []uint32{last - 1, last})
	reads(t, s, 40000, 32767, 2, []byte{0, 0}, []uint32{63, 64})
	reads(t, s, 40000, 39999, 2, []byte{0}, []uint32{78})
}

// P13.2: each place and count about the ends of leaves, over objects without holes, with some, and over holes alone: the changes, the size, what is asked for, and what is there behind it.
func TestWrite(t *testing.T) {
	for _, size := range []int{0, 1, 511, 512, 513, 1500, 2048, 5000, 32767, 32768} {
		for kind := range 4 {
			for _, at := range edges() {
				for _, n := range counts() {
					if at+n > api.MaxFile {
						continue
					}
					w := []*plain{full(size), holed(size, 0), holed(size, 1), {size: size}}[kind]
					s := w.shelf()
					writes(t, s, w, at, some(n, 2))
					looksLike(t, s, w)
				}
			}
		}
	}
}

// P13.2: a leaf of which all bytes are written is not asked for, so it doesn't matter that it can't be had; each other one is, also where none of its bytes is the object's yet.
func TestWriteAsks(t *testing.T) {
	for _, c := range []struct {
		at, n int
		asked []uint32
	}{
		{0, 512, nil}, {512, 2048, nil}, {32256, 512, nil}, {0, 511, []uint32{0}}, {1, 511, []uint32{0}}, {1, 512, []uint32{0, 1}},
		{0, 513, []uint32{1}}, {511, 513, []uint32{0}}, {1000, 2048, []uint32{1, 5}}, {1024, 2047, []uint32{5}}, {1025, 2047, []uint32{2}}, {32767, 1, []uint32{63}},
	} {
		s := empty()
		s.ill = map[uint32]answer{}
		for off := range uint32(64) {
			if !slices.Contains(c.asked, off) {
				s.ill[off] = answer{e: api.EIO}
			}
		}
		l, size, e := content.Write(s, 0, c.at, some(c.n, 2))
		if e != api.OK || int(size) != c.at+c.n || !slices.Equal(s.told(), c.asked) {
			t.Errorf("Write of %d, %d: %d changes, %d, %v", c.at, c.n, len(l), size, e)
		}
	}
}

// P13.2: without bytes nothing is asked for, and nothing changes, the size neither, wherever the place is, up to MaxFile; behind that EFBIG comes ahead.
func TestWriteNothing(t *testing.T) {
	for _, size := range []uint32{0, 1, 512, 600, 32768, math.MaxUint32} {
		s := full(700).shelf()
		for _, b := range [][]byte{nil, {}} {
			for _, at := range edges() {
				if l, n, e := content.Write(s, size, at, b); len(l) != 0 || n != size || e != api.OK {
					t.Errorf("Write of %d: %v, %d, %v, want %d", at, l, n, e, size)
				}
			}
			for _, at := range []int{32769, 65536, math.MaxInt32, math.MaxInt} {
				writeRefused(t, s, size, at, b, api.EFBIG)
			}
		}
		if asked := s.told(); len(asked) != 0 {
			t.Errorf("asked for %v", asked)
		}
	}
}

// P13.2: a size that no object has stays.
func TestWriteOfGreatSizes(t *testing.T) {
	for _, size := range []uint32{32769, 1 << 31, math.MaxUint32} {
		if l, n, e := content.Write(empty(), size, 32767, []byte{1}); len(l) != 1 || n != size || e != api.OK {
			t.Errorf("%v, %d, %v, want %d", l, n, e, size)
		}
	}
}

// P13.3: each size to each size about the ends of leaves, of objects without holes, with some, and of holes alone.
func TestTruncate(t *testing.T) {
	for _, size := range edges() {
		for kind := range 4 {
			for _, to := range edges() {
				w := []*plain{full(size), holed(size, 0), holed(size, 1), {size: size}}[kind]
				s := w.shelf()
				truncates(t, s, w, to)
				looksLike(t, s, w)
			}
		}
	}
}

// P13.3: sizes one by one, in a small object.
func TestTruncateEachSize(t *testing.T) {
	for _, size := range []int{0, 1, 2, 511, 512, 513, 1024, 1030} {
		for to := range 1100 {
			w := full(size)
			s := w.shelf()
			truncates(t, s, w, to)
			looksLike(t, s, w)
		}
	}
}

// P13.3: the leaf that is cut is a change, if it is no hole, also if it has noughts there already; leaves behind it are, also if they are holes already, and are not asked for.
func TestTruncateTellsChanges(t *testing.T) {
	s := empty()
	s.put(1, make([]byte, 512))
	truncated(t, s, 2000, 600, []content.Change{{Off: 1, Block: make([]byte, 512)}, {Off: 2}, {Off: 3}}, []uint32{1})
	truncated(t, s, 2000, 1100, []content.Change{{Off: 3}}, []uint32{2})
	truncated(t, s, 2000, 1024, []content.Change{{Off: 2}, {Off: 3}}, nil)
	truncated(t, s, 2000, 1999, nil, []uint32{3})
	truncated(t, s, 2048, 2047, nil, []uint32{3})
	truncated(t, s, 2049, 2048, []content.Change{{Off: 4}}, nil)
	truncated(t, s, 1, 0, []content.Change{{Off: 0}}, nil)
	truncated(t, s, 2000, 2000, nil, nil)
	truncated(t, s, 2000, 2001, nil, nil)
	truncated(t, s, 0, 0, nil, nil)
	truncated(t, s, 0, 32768, nil, nil)
}

// P13.3, R1: the old size may be one that no object has.
func TestTruncateOfGreatSizes(t *testing.T) {
	s := full(32768).shelf()
	truncated(t, s, 33000, 32768, []content.Change{{Off: 64}}, nil)
	truncated(t, s, 33281, 32768, []content.Change{{Off: 64}, {Off: 65}}, nil)
	l, size, e := content.Truncate(s, math.MaxUint32, 511)
	if e != api.OK || size != 511 || len(l) != 1<<23 || l[0].Block[510] == 0 || l[0].Block[511] != 0 {
		t.Fatalf("%d changes, %d, %v", len(l), size, e)
	}
	for i, c := range l[1:] {
		if c.Off != uint32(i+1) || len(c.Block) != 0 {
			t.Fatalf("change %d: %v", i+1, c)
		}
	}
}

// P13.1 to P13.3, R4, R5: without leaves ErrNil, whatever the numbers are.
func TestNoLeaves(t *testing.T) {
	for _, at := range []int{-1, 0, 5, 32768, 32769, math.MaxInt, math.MinInt} {
		for _, n := range []int{-1, 0, 1, 2048, 2049} {
			readRefused(t, nil, 9, at, n, api.ErrNil)
			writeRefused(t, nil, 9, at, make([]byte, max(n, 0)), api.ErrNil)
		}
		truncateRefused(t, nil, 9, at, api.ErrNil)
	}
}

// P13.1 to P13.3, R4, R5: EINVAL, ahead of EFBIG and of what the leaves answer.
func TestEINVAL(t *testing.T) {
	s := sick()
	for _, at := range below0() {
		for _, n := range []int{0, 1, 2048, 2049, -1, math.MaxInt} {
			readRefused(t, s, 999, at, n, api.EINVAL)
		}
		for _, n := range []int{0, 1, 2048, 2049, 40000} {
			writeRefused(t, s, 999, at, make([]byte, n), api.EINVAL)
		}
		truncateRefused(t, s, 999, at, api.EINVAL)
	}
	for _, at := range []int{0, 1, 600, 32768, 32769, math.MaxInt} {
		for _, n := range append(below0(), 2049, 4096, 32768, math.MaxInt32, math.MaxInt) {
			readRefused(t, s, 999, at, n, api.EINVAL)
		}
		for _, n := range []int{2049, 4096, 32768, 40000} {
			writeRefused(t, s, 999, at, make([]byte, n), api.EINVAL)
		}
	}
	if asked := s.told(); len(asked) != 0 {
		t.Errorf("asked for %v", asked)
	}
}

// P13.2, P13.3, R4, R5: EFBIG, ahead of what the leaves answer; up to MaxFile all is well.
func TestEFBIG(t *testing.T) {
	s := sick()
	for _, n := range counts() {
		for _, over := range []int{1, 2, 512, 2048} {
			writeRefused(t, s, 999, api.MaxFile-n+over, make([]byte, n), api.EFBIG)
		}
		writeRefused(t, s, 999, math.MaxInt, make([]byte, n), api.EFBIG)
	}
	for _, size := range []uint32{0, 999, 32768, math.MaxUint32} {
		for _, to := range []int{32769, 32770, 65536, math.MaxInt32, math.MaxInt} {
			truncateRefused(t, s, size, to, api.EFBIG)
		}
	}
	if asked := s.told(); len(asked) != 0 {
		t.Errorf("asked for %v", asked)
	}
	for _, n := range counts() {
		w := full(999)
		writes(t, w.shelf(), w, api.MaxFile-n, some(n, 2))
	}
	truncates(t, full(999).shelf(), full(999), api.MaxFile)
}

// P13.1 to P13.3, R4: what asking for a leaf answers, with whatever bytes beside: that alone; and no more is asked for.
func TestLeafErrors(t *testing.T) {
	for _, want := range []api.Errno{api.EIO, api.ErrArg, api.ErrNil, api.ErrDead, api.EINVAL, 999, -1} {
		for _, leaf := range [][]byte{nil, some(512, 5), {1}} {
			s := full(5000).shelf()
			for bad := range uint32(5) {
				s.ill = map[uint32]answer{bad: {leaf, want}, bad + 1: {nil, api.ENOSPC}}
				readRefused(t, s, 5000, 5, 2048, want)
				if got := s.told(); len(got) != int(bad)+1 || got[bad] != bad {
					t.Errorf("leaf %d: asked for %v", bad, got)
				}
			}
			s.ill = map[uint32]answer{1: {leaf, want}, 5: {nil, api.ENOSPC}}
			writeRefused(t, s, 5000, 1000, some(2048, 2), want)
			s.ill = map[uint32]answer{5: {leaf, want}}
			writeRefused(t, s, 5000, 1000, some(2048, 2), want)
			writeRefused(t, s, 0, 2561, some(5, 2), want)
			truncateRefused(t, s, 5000, 2561, want)
			truncateRefused(t, s, 5000, 3071, want)
			if got := s.told(); !slices.Equal(got, []uint32{1, 1, 5, 5, 5, 5}) {
				t.Errorf("asked for %v", got)
			}
		}
	}
}

// Leaves that can't be had don't matter where no byte of theirs is asked for.
func TestOtherLeavesDoNotMatter(t *testing.T) {
	w := full(5000)
	s := w.shelf()
	s.ill = map[uint32]answer{0: {nil, api.EIO}, 3: {nil, api.EIO}, 9: {nil, api.EIO}}
	want, asked := w.read(512, 1024)
	reads(t, s, 5000, 512, 1024, want, asked)
	reads(t, s, 1536, 1536, 5, nil, nil)
	want, asked = w.read(4600, 8)
	reads(t, s, 4608, 4600, 2000, want, asked)
	truncates(t, s, w, 512)
	truncates(t, s, w, 0)
}

// R1: leaves that are neither Block bytes nor holes: the calls end, and what they answer is as long as ever.
func TestLeavesThatAreNone(t *testing.T) {
	for _, n := range []int{1, 100, 511, 513, 5000} {
		s := empty()
		for off := range uint32(64) {
			s.put(off, some(n, 4))
		}
		if b, e := content.Read(s, 2000, 10, 1500); e != api.OK || len(b) != 1500 {
			t.Errorf("%d bytes: %d, %v", n, len(b), e)
		}
		l, size, e := content.Write(s, 2000, 500, some(100, 1))
		if e != api.OK || size != 2000 || len(l) != 2 || len(l[0].Block) != 512 || len(l[1].Block) != 512 || !bytes.Equal(l[1].Block[:88], some(100, 1)[12:]) {
			t.Errorf("%d bytes: %v, %d, %v", n, l, size, e)
		}
		l, size, e = content.Truncate(s, 2000, 1000)
		if e != api.OK || size != 1000 || len(l) != 3 || len(l[0].Block) != 512 || !bytes.Equal(l[0].Block[488:], make([]byte, 24)) {
			t.Errorf("%d bytes: %v, %d, %v", n, l, size, e)
		}
	}
}

// P13.1, P13.3, R6: a leaf of no bytes that is not nil is a hole, too.
func TestEmptyLeafIsAHole(t *testing.T) {
	s := empty()
	s.ill = map[uint32]answer{0: {[]byte{}, api.OK}}
	reads(t, s, 9, 2, 3, make([]byte, 3), []uint32{0})
	truncated(t, s, 9, 3, nil, []uint32{0})
}

// P13.4: long scripts, each call held against a plain object: what was written is read, what was not, or was cut off, are noughts, and other bytes stay.
func TestScripts(t *testing.T) {
	for seed := range uint32(20) {
		draw := draws(seed)
		place := func() int {
			if draw(2) == 0 {
				return edges()[draw(len(edges()))]
			}
			return draw(1 + draw(api.MaxFile+1))
		}
		w, s := &plain{}, empty()
		for step := range 400 {
			at, n := place(), counts()[draw(len(counts()))]
			switch draw(4) {
			case 0, 1:
				n = min(n, api.MaxFile-at)
				writes(t, s, w, at, some(n, step))
			case 2:
				truncates(t, s, w, at)
			case 3:
				want, asked := w.read(at, n)
				reads(t, s, w.size, at, n, want, asked)
			}
			looksLike(t, s, w)
		}
		for at := 0; at < api.MaxFile; at += 2000 {
			want, asked := w.read(at, 2000)
			reads(t, s, w.size, at, 2000, want, asked)
		}
	}
}

// P13.4: what was cut off are noughts when the object is longer again, whatever way it comes to that.
func TestCutOffIsNoughts(t *testing.T) {
	for _, cut := range []int{0, 1, 511, 512, 513, 700, 1024, 1535} {
		for _, grow := range []int{1536, 2000, 32767} {
			w := full(1536)
			s := w.shelf()
			truncates(t, s, w, cut)
			truncates(t, s, w, grow)
			want := append(some(1536, 1)[:cut], make([]byte, 1536-cut)...)
			reads(t, s, grow, 0, 1536, want, []uint32{0, 1, 2})

			w = full(1536)
			s = w.shelf()
			truncates(t, s, w, cut)
			writes(t, s, w, grow, []byte{9})
			reads(t, s, w.size, 0, 1536, want, []uint32{0, 1, 2})
		}
	}
}

// R2: the same calls answer the same, whatever was done between.
func TestTheSameTellsTheSame(t *testing.T) {
	s := holed(5000, 1).shelf()
	first, size, _ := content.Write(s, 5000, 700, some(1500, 3))
	_, _, _ = content.Truncate(s, 5000, 100)
	_, _ = content.Read(full(400).shelf(), 400, 0, 400)
	second, again, _ := content.Write(s, 5000, 700, some(1500, 3))
	if size != again || !same(first, second) {
		t.Error("Write answers something else the second time")
	}
}

// R3: neither the bytes that are handed in, nor what the leaves answer, nor the room behind their ends, are changed.
func TestNothingHandedInIsChanged(t *testing.T) {
	s := full(5000).shelf()
	was := s.whole()
	room := some(2048, 6)
	_, _ = content.Read(s, 5000, 1, 2000)
	_, _, _ = content.Write(s, 5000, 500, room[:1500])
	_, _, _ = content.Write(s, 5000, 4995, room[:50])
	_, _, _ = content.Truncate(s, 5000, 700)
	_, _, _ = content.Truncate(s, 5000, 4999)
	if !bytes.Equal(room, some(2048, 6)) {
		t.Error("the bytes that were handed in were changed")
	}
	if !maps.Equal(s.whole(), was) {
		t.Error("a leaf was changed")
	}
}

// R3: what is told is new memory: whoever writes there changes no leaf, no bytes that were handed in, and no other list of the answer, in the room behind its end neither.
func TestNothingShared(t *testing.T) {
	s := full(5000).shelf()
	was := s.whole()
	b := some(1500, 6)
	read, _ := content.Read(s, 5000, 512, 512)
	fill(read)
	l, _, _ := content.Write(s, 5000, 400, b)
	want := cloned(l)
	for i := range l {
		others := cloned(slices.Delete(slices.Clone(l), i, i+1))
		fill(l[i].Block)
		if !same(slices.Delete(slices.Clone(l), i, i+1), others) {
			t.Error("two blocks share memory")
		}
	}
	l[0] = content.Change{}
	if again, _, _ := content.Write(s, 5000, 400, b); !same(again, want) {
		t.Error("a later answer shows what was written into an earlier one")
	}
	l, _, _ = content.Truncate(s, 5000, 700)
	fill(l[0].Block)
	if !bytes.Equal(b, some(1500, 6)) || !maps.Equal(s.whole(), was) {
		t.Error("an answer shares memory with what was handed in")
	}
	want = cloned(want)
	l, _, _ = content.Write(s, 5000, 400, b)
	clear(b)
	if !same(l, want) {
		t.Error("the bytes that were handed in are kept")
	}
}

// borrowed are leaves that have one memory for all that they answer.
type borrowed struct {
	from  content.Leaves
	block []byte
}

func (s borrowed) Leaf(off uint32) ([]byte, api.Errno) {
	leaf, e := s.from.Leaf(off)
	return append(s.block[:0], leaf...), e
}

// R3: what asking for a leaf answered is not kept until the next one is asked for.
func TestLeavesAreNotKept(t *testing.T) {
	w := full(5000)
	s := borrowed{w.shelf(), make([]byte, 0, 512)}
	want, _ := w.read(300, 2000)
	if b, e := content.Read(s, 5000, 300, 2000); e != api.OK || !bytes.Equal(b, want) {
		t.Errorf("%v", e)
	}
	changes, _ := w.write(300, some(2000, 7))
	if l, _, e := content.Write(s, 5000, 300, some(2000, 7)); e != api.OK || !same(l, changes) {
		t.Errorf("%v", e)
	}
}

// sick are leaves none of which can be had.
func sick() *shelf {
	s := empty()
	s.ill = map[uint32]answer{}
	for off := range uint32(70) {
		s.ill[off] = answer{e: api.EIO}
	}
	return s
}

// fill writes all over bytes, and the room behind their end.
func fill(b []byte) {
	b = b[:cap(b)]
	for i := range b {
		b[i] = 0xdd
	}
}

// cloned are changes in memory of their own.
func cloned(l []content.Change) []content.Change {
	var all []content.Change
	for _, c := range l {
		all = append(all, content.Change{Off: c.Off, Block: bytes.Clone(c.Block)})
	}
	return all
}

// truncated says where Truncate doesn't answer these changes, or asks for other leaves.
func truncated(t *testing.T, s *shelf, size uint32, to int, want []content.Change, asked []uint32) {
	t.Helper()
	s.told()
	if l, n, e := content.Truncate(s, size, to); e != api.OK || int(n) != to || !same(l, want) {
		t.Errorf("Truncate of size %d to %d: %v, %d, %v, want %v", size, to, l, n, e, want)
	}
	if got := s.told(); !slices.Equal(got, asked) {
		t.Errorf("Truncate of size %d to %d: asked for %v, want %v", size, to, got, asked)
	}
}

// readRefused says where Read doesn't answer an error alone.
func readRefused(t *testing.T, l content.Leaves, size uint32, at, n int, want api.Errno) {
	t.Helper()
	if b, e := content.Read(l, size, at, n); e != want || len(b) != 0 {
		t.Errorf("Read of %d, %d: % x, %v, want %v", at, n, b, e, want)
	}
}

// writeRefused says where Write doesn't.
func writeRefused(t *testing.T, l content.Leaves, size uint32, at int, b []byte, want api.Errno) {
	t.Helper()
	if c, n, e := content.Write(l, size, at, b); e != want || len(c) != 0 || n != 0 {
		t.Errorf("Write of %d, %d: %v, %d, %v, want %v", at, len(b), c, n, e, want)
	}
}

// truncateRefused says where Truncate doesn't.
func truncateRefused(t *testing.T, l content.Leaves, size uint32, to int, want api.Errno) {
	t.Helper()
	if c, n, e := content.Truncate(l, size, to); e != want || len(c) != 0 || n != 0 {
		t.Errorf("Truncate to %d: %v, %d, %v, want %v", to, c, n, e, want)
	}
}
