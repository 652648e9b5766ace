package space_test

import (
	"math"
	"testing"

	"kintsugi/api"
	"kintsugi/space"
)

// made is a space of disks of so many blocks.
func made(t *testing.T, a, b int) *space.Space {
	t.Helper()
	s, e := space.New(a, b)
	if e != api.OK || s == nil {
		t.Fatalf("New(%d, %d): %v", a, b, e)
	}
	return s
}

// is says where an error is not the one that is wanted.
func is(t *testing.T, what string, got, want api.Errno) {
	t.Helper()
	if got != want {
		t.Errorf("%s: %v, want %v", what, got, want)
	}
}

// allocs says where Alloc does not tell these, one behind the other.
func allocs(t *testing.T, s *space.Space, disk int, want ...uint16) {
	t.Helper()
	for _, addr := range want {
		if got := s.Alloc(disk); got != addr {
			t.Errorf("Alloc(%d): %d, want %d", disk, got, addr)
		}
	}
}

// counts says where a disk's count is not the one that is wanted.
func counts(t *testing.T, s *space.Space, disk int, want space.Count) {
	t.Helper()
	if got := s.Count(disk); got != want {
		t.Errorf("Count(%d): %+v, want %+v", disk, got, want)
	}
}

// P7.1 to P7.3: the chapter's examples.
func TestExamples(t *testing.T) {
	s := made(t, 4, 4)
	allocs(t, s, 0, 1, 2, 3, 0)
	is(t, "Hold", s.Hold(0, 2), api.OK)
	allocs(t, s, 0, 0)
	s.Release()
	allocs(t, s, 0, 2)

	s = made(t, 4, 4)
	is(t, "Sick", s.Sick(1, 1), api.OK)
	allocs(t, s, 1, 2)
}

// P7.1: at first all addresses from 1 to one less than the blocks are free, none is sick.
func TestNew(t *testing.T) {
	sizes := []int{1, 2, 3, 511, api.MinBlocks, api.MaxBlocks - 1, api.MaxBlocks}
	for _, a := range sizes {
		for _, b := range sizes {
			s := made(t, a, b)
			counts(t, s, 0, space.Count{Free: a - 1})
			counts(t, s, 1, space.Count{Free: b - 1})
			for disk, blocks := range []int{a, b} {
				if blocks > 1 {
					is(t, "the last address", s.Mark(disk, uint16(blocks-1)), api.OK)
				}
				is(t, "one behind it", s.Mark(disk, uint16(blocks)), api.ErrArg)
			}
		}
	}
}

// P7.1: a disk of no 1 to MaxBlocks blocks, the first one, the other, or both.
func TestNewWrong(t *testing.T) {
	wrong := []int{math.MinInt, -api.MaxBlocks, -1, 0, api.MaxBlocks + 1, 1 << 16, 1<<16 + 1, 1<<32 + 1, math.MaxInt}
	for _, n := range wrong {
		for _, x := range [][2]int{{n, 4}, {4, n}, {n, n}, {n, api.MaxBlocks}, {1, n}} {
			if s, e := space.New(x[0], x[1]); s != nil || e != api.ErrArg {
				t.Errorf("New(%d, %d): %v, %v", x[0], x[1], s, e)
			}
		}
	}
}

// P7.1: Alloc tells all addresses of a disk, rising, each once, then 0 for ever; the other disk's are its own.
func TestAlloc(t *testing.T) {
	for _, x := range [][2]int{{1, 1}, {1, 9}, {9, 1}, {5, 9}, {9, 5}, {api.MaxBlocks, api.MaxBlocks}} {
		s := made(t, x[0], x[1])
		for disk, blocks := range x {
			for addr := 1; addr < blocks; addr++ {
				allocs(t, s, disk, uint16(addr))
			}
			allocs(t, s, disk, 0, 0, 0)
			counts(t, s, disk, space.Count{Used: blocks - 1})
		}
	}
}

// P7.1: by turns, neither disk's answers hang on the other's.
func TestAllocByTurns(t *testing.T) {
	s := made(t, 4, 6)
	allocs(t, s, 0, 1)
	allocs(t, s, 1, 1, 2)
	allocs(t, s, 0, 2)
	allocs(t, s, 1, 3)
	allocs(t, s, 0, 3, 0)
	allocs(t, s, 1, 4, 5, 0)
}

// P7.1: the least that is free, wherever it is.
func TestAllocLeast(t *testing.T) {
	const blocks = 40
	for free := 1; free < blocks; free++ {
		for other := free; other < blocks; other++ {
			s := made(t, blocks, blocks)
			for addr := 1; addr < blocks; addr++ {
				if addr != free && addr != other {
					is(t, "Mark", s.Mark(1, uint16(addr)), api.OK)
				}
			}
			want := []uint16{uint16(free), uint16(other), 0}
			if other == free {
				want = []uint16{uint16(free), 0}
			}
			allocs(t, s, 1, want...)
			allocs(t, s, 0, 1)
		}
	}
}

// P7.1: what is marked is used: it is told no more, and marked no more.
func TestMark(t *testing.T) {
	s := made(t, 6, 6)
	is(t, "Mark", s.Mark(0, 1), api.OK)
	is(t, "Mark", s.Mark(0, 4), api.OK)
	counts(t, s, 0, space.Count{Free: 3, Used: 2})
	counts(t, s, 1, space.Count{Free: 5})
	is(t, "Mark of a marked one", s.Mark(0, 4), api.ErrForm)
	is(t, "the other disk's", s.Mark(1, 4), api.OK)
	allocs(t, s, 0, 2, 3, 5, 0)
	is(t, "Mark of one that Alloc told", s.Mark(0, 2), api.ErrForm)
	is(t, "Hold", s.Hold(0, 4), api.OK)
	is(t, "Mark of a held one", s.Mark(0, 4), api.ErrForm)
	counts(t, s, 0, space.Count{Used: 4, Held: 1})
}

// P7.2: what is given back is free, whoever let it be used; only what is used is given back.
func TestGive(t *testing.T) {
	s := made(t, 6, 6)
	is(t, "Give of a free one", s.Give(0, 1), api.ErrForm)
	allocs(t, s, 0, 1, 2, 3)
	is(t, "Mark", s.Mark(0, 5), api.OK)
	is(t, "Give", s.Give(0, 2), api.OK)
	is(t, "Give of a marked one", s.Give(0, 5), api.OK)
	counts(t, s, 0, space.Count{Free: 3, Used: 2})
	is(t, "Give of what was given", s.Give(0, 2), api.ErrForm)
	is(t, "Give on the other disk", s.Give(1, 1), api.ErrForm)
	is(t, "Hold", s.Hold(0, 3), api.OK)
	is(t, "Give of a held one", s.Give(0, 3), api.ErrForm)
	counts(t, s, 0, space.Count{Free: 3, Used: 1, Held: 1})
	allocs(t, s, 0, 2, 4, 5, 0)
	is(t, "Give", s.Give(0, 4), api.OK)
	is(t, "Mark", s.Mark(0, 4), api.OK)
}

// P7.2: what is held is told no more, and is not given, marked or held anew; only what is used is held.
func TestHold(t *testing.T) {
	s := made(t, 5, 5)
	is(t, "Hold of a free one", s.Hold(1, 1), api.ErrForm)
	allocs(t, s, 1, 1, 2)
	is(t, "Hold", s.Hold(1, 1), api.OK)
	counts(t, s, 1, space.Count{Free: 2, Used: 1, Held: 1})
	counts(t, s, 0, space.Count{Free: 4})
	is(t, "Hold of a held one", s.Hold(1, 1), api.ErrForm)
	is(t, "Give of a held one", s.Give(1, 1), api.ErrForm)
	is(t, "Mark of a held one", s.Mark(1, 1), api.ErrForm)
	is(t, "Hold on the other disk", s.Hold(0, 1), api.ErrForm)
	allocs(t, s, 1, 3, 4, 0)
	counts(t, s, 1, space.Count{Used: 3, Held: 1})
}

// spread is a space of which each disk has addresses of all sorts: 1 and 2 free, 3 and 4 used, 5 and 6 held; the odd ones sick.
func spread(t *testing.T) *space.Space {
	t.Helper()
	s := made(t, 7, 7)
	for disk := range 2 {
		for addr := uint16(1); addr < 7; addr++ {
			if addr > 2 {
				is(t, "Mark", s.Mark(disk, addr), api.OK)
			}
			if addr > 4 {
				is(t, "Hold", s.Hold(disk, addr), api.OK)
			}
			if addr%2 == 1 {
				is(t, "Sick", s.Sick(disk, addr), api.OK)
			}
		}
		counts(t, s, disk, space.Count{Free: 2, Used: 2, Held: 2, Sick: 3})
	}
	return s
}

// P7.2: all that are held, of both disks, are free, and none else.
func TestRelease(t *testing.T) {
	s := spread(t)
	s.Release()
	for disk := range 2 {
		counts(t, s, disk, space.Count{Free: 4, Used: 2, Sick: 3})
		allocs(t, s, disk, 2, 6, 0)
		is(t, "what was used", s.Mark(disk, 4), api.ErrForm)
		is(t, "what was held, and is sick", s.Mark(disk, 5), api.OK)
	}
	before := [2]space.Count{s.Count(0), s.Count(1)}
	s.Release()
	s.Back()
	if after := [2]space.Count{s.Count(0), s.Count(1)}; after != before {
		t.Errorf("none held: %+v, want %+v", after, before)
	}
}

// P7.2: all that are held, of both disks, are used, and none else.
func TestBack(t *testing.T) {
	s := spread(t)
	s.Back()
	for disk := range 2 {
		counts(t, s, disk, space.Count{Free: 2, Used: 4, Sick: 3})
		allocs(t, s, disk, 2, 0)
		is(t, "what was held", s.Give(disk, 6), api.OK)
		is(t, "what was held, and is sick", s.Give(disk, 5), api.OK)
		allocs(t, s, disk, 6, 0)
	}
	s.Release()
	counts(t, s, 0, space.Count{Free: 2, Used: 4, Sick: 3})
}

// P7.2: the end of the greatest disk is held, released, and taken back as all else.
func TestGreatest(t *testing.T) {
	const last = api.MaxBlocks - 1
	s := made(t, api.MaxBlocks, api.MaxBlocks)
	for disk := range 2 {
		is(t, "Mark", s.Mark(disk, last), api.OK)
		is(t, "Hold", s.Hold(disk, last), api.OK)
	}
	s.Back()
	is(t, "Hold", s.Hold(1, last), api.OK)
	s.Release()
	counts(t, s, 0, space.Count{Free: last - 1, Used: 1})
	counts(t, s, 1, space.Count{Free: last})
	is(t, "Sick", s.Sick(1, last), api.OK)
	if !s.Is(1, last) || s.Is(0, last) || s.Is(1, last-1) {
		t.Error("which is sick")
	}
}

// P7.3: a sick address is told by no Alloc, but is all else that another one is, and sick for good.
func TestSick(t *testing.T) {
	s := made(t, 5, 5)
	sick := func(what string, want space.Count) {
		t.Helper()
		want.Sick = 1
		if !s.Is(0, 2) || s.Is(0, 1) || s.Is(0, 3) || s.Is(1, 2) {
			t.Errorf("%s: which is sick", what)
		}
		counts(t, s, 0, want)
		counts(t, s, 1, space.Count{Free: 4})
	}
	if s.Is(0, 2) {
		t.Error("sick at first")
	}
	is(t, "Sick", s.Sick(0, 2), api.OK)
	sick("a free one", space.Count{Free: 4})
	is(t, "Sick of a sick one", s.Sick(0, 2), api.OK)
	sick("twice", space.Count{Free: 4})
	allocs(t, s, 0, 1, 3, 4, 0)
	sick("none told", space.Count{Free: 1, Used: 3})
	is(t, "Give of a sick one that is free", s.Give(0, 2), api.ErrForm)
	is(t, "Hold of a sick one that is free", s.Hold(0, 2), api.ErrForm)
	is(t, "Mark of a sick one", s.Mark(0, 2), api.OK)
	is(t, "Mark of a sick one that is used", s.Mark(0, 2), api.ErrForm)
	sick("marked", space.Count{Used: 4})
	is(t, "Hold of a sick one", s.Hold(0, 2), api.OK)
	sick("held", space.Count{Used: 3, Held: 1})
	s.Back()
	sick("back", space.Count{Used: 4})
	is(t, "Give of a sick one", s.Give(0, 2), api.OK)
	sick("given", space.Count{Free: 1, Used: 3})
	allocs(t, s, 0, 0)
	is(t, "Mark", s.Mark(0, 2), api.OK)
	is(t, "Hold", s.Hold(0, 2), api.OK)
	s.Release()
	sick("released", space.Count{Free: 1, Used: 3})
	allocs(t, s, 0, 0)
}

// P7.3: one that is sick when it is used, or held, stays what it is, and is told no more when it is free.
func TestSickLater(t *testing.T) {
	s := made(t, 4, 4)
	allocs(t, s, 1, 1, 2)
	is(t, "Hold", s.Hold(1, 2), api.OK)
	is(t, "Sick of a used one", s.Sick(1, 1), api.OK)
	is(t, "Sick of a held one", s.Sick(1, 2), api.OK)
	counts(t, s, 1, space.Count{Free: 1, Used: 1, Held: 1, Sick: 2})
	is(t, "Give", s.Give(1, 1), api.OK)
	s.Release()
	counts(t, s, 1, space.Count{Free: 3, Sick: 2})
	allocs(t, s, 1, 3, 0)
}

// acting are the calls that answer an error of an address.
func acting(s *space.Space) map[string]func(disk int, addr uint16) api.Errno {
	return map[string]func(disk int, addr uint16) api.Errno{"Mark": s.Mark, "Give": s.Give, "Hold": s.Hold, "Sick": s.Sick}
}

// P7.1 to P7.3, R4: a disk or an address that there is not is ErrArg, ahead of ErrForm, and changes nothing.
func TestNoAddress(t *testing.T) {
	const a, b = 4, 6
	s := made(t, a, b)
	for what, call := range acting(s) {
		for _, disk := range []int{math.MinInt, -2, -1, 2, 3, 1 << 32, math.MaxInt} {
			for _, addr := range []uint16{0, 1, 3, 5, math.MaxUint16} {
				is(t, what, call(disk, addr), api.ErrArg)
			}
		}
		for disk, blocks := range []uint16{a, b} {
			for _, addr := range []uint16{0, blocks, blocks + 1, api.MaxBlocks, math.MaxUint16} {
				is(t, what, call(disk, addr), api.ErrArg)
			}
		}
	}
	counts(t, s, 0, space.Count{Free: a - 1})
	counts(t, s, 1, space.Count{Free: b - 1})
}

// P7.1, P7.3: what asks of no such disk or address is told nothing.
func TestAskedOfNone(t *testing.T) {
	s := spread(t)
	for _, disk := range []int{math.MinInt, -1, 2, math.MaxInt} {
		allocs(t, s, disk, 0)
		counts(t, s, disk, space.Count{})
		if s.Is(disk, 1) {
			t.Errorf("sick on disk %d", disk)
		}
	}
	for _, addr := range []uint16{0, 7, 8, math.MaxUint16} {
		if s.Is(0, addr) || s.Is(1, addr) {
			t.Errorf("%d is sick", addr)
		}
	}
	for disk := range 2 {
		counts(t, s, disk, space.Count{Free: 2, Used: 2, Held: 2, Sick: 3})
	}
}

// R1: on no space each call is ErrNil, ahead of ErrArg, or nothing.
func TestNil(t *testing.T) {
	var s *space.Space
	for what, call := range acting(s) {
		for _, disk := range []int{-1, 0, 1, 2} {
			for _, addr := range []uint16{0, 1, math.MaxUint16} {
				is(t, what, call(disk, addr), api.ErrNil)
			}
		}
	}
	s.Release()
	s.Back()
	for disk := range 2 {
		allocs(t, s, disk, 0)
		counts(t, s, disk, space.Count{})
		if s.Is(disk, 1) {
			t.Error("sick")
		}
	}
}

// P7.1: disks of one block have no address at all.
func TestNoAddresses(t *testing.T) {
	s := made(t, 1, 1)
	for disk := range 2 {
		allocs(t, s, disk, 0)
		counts(t, s, disk, space.Count{})
		for what, call := range acting(s) {
			is(t, what, call(disk, 0), api.ErrArg)
			is(t, what, call(disk, 1), api.ErrArg)
		}
	}
	s.Release()
	s.Back()
}

// R2: what is done to one space is nothing to another.
func TestApart(t *testing.T) {
	s, other := spread(t), made(t, 7, 7)
	counts(t, other, 0, space.Count{Free: 6})
	allocs(t, other, 0, 1, 2, 3)
	is(t, "Hold", other.Hold(0, 3), api.OK)
	other.Release()
	counts(t, s, 0, space.Count{Free: 2, Used: 2, Held: 2, Sick: 3})
	if other.Is(0, 1) || !s.Is(0, 1) {
		t.Error("which is sick")
	}
}
