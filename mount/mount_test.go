package mount_test

import (
	"bytes"
	"math"
	"slices"
	"testing"

	"kintsugi/anchor"
	"kintsugi/api"
	"kintsugi/charge"
	"kintsugi/commit"
	"kintsugi/disk"
	"kintsugi/inode"
	"kintsugi/mirror"
	"kintsugi/mount"
	"kintsugi/ptr"
	"kintsugi/space"
	"kintsugi/table"
	"kintsugi/tree"
)

// refuses says where a mount is not nothing, and this error.
func (x *rig) refuses(t *testing.T, what string, want api.Errno) {
	t.Helper()
	if m, e := mount.Mount(x.a, x.b, x.c); m != nil || e != want {
		t.Errorf("%s: Mount %v, %v, want %v", what, m, e, want)
	}
}

// formats says where a format does not answer this, with a cell that tells of nothing behind an error.
func (x *rig) formats(t *testing.T, what string, want api.Errno) {
	t.Helper()
	if e := mount.Format(x.a, x.b, x.c); e != want {
		t.Errorf("%s: Format %v, want %v", what, e, want)
	}
	if want != api.OK && x.c.Load() != (anchor.Anchor{}) {
		t.Errorf("%s: the cell tells %v", what, x.c.Load())
	}
}

// busy are acts by which there is something of all kinds: orphans, trees without leaves, holes.
func busy() []act {
	return []act{
		inodes(1, dir(3)), leaves(1, 0, some(10)),
		inodes(2, file(1)), leaves(2, 0, some(20)), leaves(2, 9, some(29)), leaves(2, 63, some(63)),
		inodes(3, file(0)), leaves(3, 7, some(37)),
		inodes(6, link(1)), leaves(6, 0, some(60)),
		inodes(7, dir(0)), leaves(7, 0, some(70)), leaves(7, 1, some(71)),
		inodes(31, file(2)), inodes(100, link(0)),
		inodes(255, file(0)), leaves(255, 62, some(255)),
	}
}

// The chapter's examples.
func TestExamples(t *testing.T) {
	x := newRig(t, 512, 512)
	x.refuses(t, "new disks", api.ErrForm)
	x.formats(t, "new disks", api.OK)
	x.mount(t)
	if x.m.St.Gen != 1 || counts(x.m) != [2]space.Count{{Free: 503, Used: 8}, {Free: 503, Used: 8}} {
		t.Errorf("%v, %v", x.m.St, counts(x.m))
	}
	if x.m.Tally != (charge.Tally{Objects: 1}) || len(x.m.Orphans) != 0 {
		t.Errorf("%v, %v", x.m.Tally, x.m.Orphans)
	}
	if e := mount.Format(x.a, x.b, x.c); e != api.ErrArg {
		t.Errorf("anew: %v", e)
	}
	x.stands(t, x.m.St, empty())
}

// P18.1: what both disks and the cell hold: four blocks in all copies, flushed, and the anchor; nothing else.
func TestFormat(t *testing.T) {
	for _, n := range [][2]int{{512, 512}, {512, 513}, {4096, 512}, {1000, 4096}} {
		x := formatted(t, n[0], n[1])
		if x.a.Cached() != 0 || x.b.Cached() != 0 {
			t.Errorf("%v: %d, %d writes are not flushed", n, x.a.Cached(), x.b.Cached())
		}
		h := x.hang()
		want := [4]uint16{7, 8, 7, 8}
		if a := x.c.Load(); a.Gen != 1 || a.At != want || len(h.stems) != 4 || len(h.lost)+len(h.leaves) != 0 {
			t.Errorf("%v: %v, %v", n, a, h)
		}
		for i, p := range h.stems {
			first := []uint16{7, 5, 3, 1}[i]
			if p.Birth != 1 || p.At != [4]uint16{first, first + 1, first, first + 1} {
				t.Errorf("%v: %v", n, p)
			}
			for place := range p.At {
				if !x.good(p, place) {
					t.Errorf("%v: the copy %d of %v is bad", n, place, p)
				}
			}
		}
		for i := range 2 {
			for addr := range n[i] {
				b, ok := x.on(i).Look(uint16(addr))
				if written := !bytes.Equal(b, make([]byte, api.Block)); !ok || written != (addr >= 1 && addr <= 8) {
					t.Errorf("%v: disk %d, address %d: %v, %v", n, i, addr, written, ok)
				}
			}
		}
		x.tells(t, empty())
		x.stands(t, x.m.St, empty())
	}
}

// P18.1, P18.2, R1, R4, R5: the errors, in their order; nothing is done.
func TestErrors(t *testing.T) {
	x := newRig(t, 512, 512)
	small, _ := disk.New(511, x.p)
	least, _ := disk.New(1, x.p)
	full, _ := anchor.New(x.p)
	full.Store(anchor.Anchor{Gen: 1})
	wild, _ := anchor.New(x.p)
	wild.Store(anchor.Anchor{Gen: math.MaxUint64, At: [4]uint16{1, 2, 3, 4}})
	x.p.Fuse(0)
	for i, row := range []struct {
		a, b          *disk.Disk
		c             *anchor.Cell
		format, mount api.Errno
	}{
		{nil, nil, nil, api.ErrNil, api.ErrNil},
		{nil, x.b, x.c, api.ErrNil, api.ErrNil},
		{x.a, nil, x.c, api.ErrNil, api.ErrNil},
		{x.a, x.b, nil, api.ErrNil, api.ErrNil},
		{small, x.b, nil, api.ErrNil, api.ErrNil},
		{nil, small, full, api.ErrNil, api.ErrNil},
		{least, nil, wild, api.ErrNil, api.ErrNil},
		{small, x.b, x.c, api.ErrArg, api.ErrForm},
		{x.a, small, x.c, api.ErrArg, api.ErrForm},
		{least, least, x.c, api.ErrArg, api.ErrForm},
		{x.a, x.b, full, api.ErrArg, api.EIO},
		{x.a, x.b, wild, api.ErrArg, api.EIO},
		{small, least, wild, api.ErrArg, api.EIO},
		{&disk.Disk{}, x.b, x.c, api.ErrArg, api.ErrForm},
		{&disk.Disk{}, x.b, wild, api.ErrArg, api.EIO},
		{x.a, &disk.Disk{}, wild, api.ErrArg, api.EIO},
		{x.a, small, &anchor.Cell{}, api.ErrArg, api.ErrForm},
	} {
		if e := mount.Format(row.a, row.b, row.c); e != row.format {
			t.Errorf("%d: Format %v, want %v", i, e, row.format)
		}
		if m, e := mount.Mount(row.a, row.b, row.c); m != nil || e != row.mount {
			t.Errorf("%d: Mount %v, %v, want %v", i, m, e, row.mount)
		}
	}
	if !x.p.Is() {
		t.Error("a step was made")
	}
	if x.c.Bytes() != [64]byte{} || full.Load() != (anchor.Anchor{Gen: 1}) {
		t.Errorf("%v, %v", x.c.Load(), full.Load())
	}
}

// P18.1: what committing answers, at each of its steps, without power, and of dead disks; then it is formatted as if nothing had been.
func TestFormatFails(t *testing.T) {
	// 16 copies, two flushes, and the store.
	for n, want := range append(slices.Repeat([]api.Errno{api.EIO}, 17), api.ErrDead, api.ErrDead, api.OK) {
		x := newRig(t, 512, 600)
		x.p.Fuse(n)
		x.formats(t, "a fuse", want)
		if want != api.OK {
			x.refuses(t, "a fuse", api.ErrForm)
			x.formats(t, "without power", api.EIO)
			x.refuses(t, "without power", api.ErrForm)
			x.crash(draws(uint32(n)))
			x.formats(t, "then", api.OK)
		}
		x.tells(t, empty())
		x.mount(t)
		x.stands(t, x.m.St, empty())
	}
	x := newRig(t, 512, 600)
	x.b.Die()
	x.formats(t, "a dead disk", api.OK)
	x.mount(t)
	x.stands(t, x.m.St, empty())
	x.a.Die()
	x.refuses(t, "dead disks", api.EIO)
	x = newRig(t, 512, 600)
	x.a.Die()
	x.b.Die()
	x.formats(t, "dead disks", api.EIO)
	x.refuses(t, "dead disks", api.ErrForm)
	x = newRig(t, 512, 600)
	own := disk.On()
	x.c, _ = anchor.New(own)
	own.Fuse(0)
	x.formats(t, "a cell without power", api.ErrDead)
	x.p.Fuse(0)
	x.formats(t, "all without power", api.EIO)
	own.Back()
	x.formats(t, "disks without power", api.EIO)
}

// P18.1: whatever was on the disks, and whatever happens to one write of each.
func TestFormatOver(t *testing.T) {
	x := newRig(t, 512, 512)
	for addr := range uint16(512) {
		x.a.Rot(addr, some(int(addr)))
		x.b.Bad(addr)
	}
	x.formats(t, "disks of noise", api.OK)
	x.mount(t)
	x.stands(t, x.m.St, empty())
	for i, harm := range []func(d *disk.Disk){
		func(d *disk.Disk) { d.Lose() },
		func(d *disk.Disk) { d.Astray(8) },
		func(d *disk.Disk) { d.Astray(511) },
		func(d *disk.Disk) { d.Astray(512) },
		func(d *disk.Disk) { d.Stick(3); d.Bad(4) },
	} {
		x := newRig(t, 512, 512)
		harm(x.a)
		harm(x.b)
		x.formats(t, "hurt disks", api.OK)
		x.tells(t, empty())
		x.mount(t)
		x.stands(t, x.m.St, empty())
		if t.Failed() {
			t.Fatal(i)
		}
	}
}

// P18.2, P18.3: states of all kinds: the state, the addresses, the tally, the orphans; and that nothing is written, found, or sick.
func TestMount(t *testing.T) {
	all := []act{inodes(9, file(1))}
	for off := range uint32(api.Leaves) {
		all = append(all, leaves(9, off, some(int(off))))
	}
	var many []act
	for num := uint16(1); num <= api.MaxObject; num++ {
		many = append(many, inodes(num, file(num%3)))
	}
	for i, acts := range [][]act{
		{},
		busy(),
		all,
		many,
		{inodes(2, file(0))},
		{inodes(2, file(1)), leaves(2, 0, some(1))},
		{inodes(2, dir(2)), leaves(2, 0, some(1))},
		{inodes(2, link(1)), leaves(2, 0, some(1))},
		{inodes(255, link(0)), leaves(255, 63, some(1))},
		{inodes(1, dir(0))},
		{inodes(1, inode.Inode{})},
		{inodes(1, inode.Inode{}), inodes(128, dir(math.MaxUint16)), leaves(128, 32, some(1))},
	} {
		x := filled(t, acts...)
		w := empty().with(acts...)
		x.p.Fuse(0)
		x.tells(t, w)
		x.stands(t, x.m.St, w)
		if !x.p.Is() || x.a.Cached() != 0 || x.b.Cached() != 0 {
			t.Error("something was written")
		}
		for disk, n := range counts(x.m) {
			if n.Sick != 0 || x.m.M.Count(disk) != (mirror.Count{}) || x.m.M.Health(disk) != mirror.Good {
				t.Errorf("disk %d: %v, %v", disk, n, x.m.M.Count(disk))
			}
		}
		if len(x.m.M.Moves()) != 0 {
			t.Error(x.m.M.Moves())
		}
		if t.Failed() {
			t.Fatal(i)
		}
	}
}

// P18.2: what a state is told to be, in numbers.
func TestTold(t *testing.T) {
	x := filled(t, busy()...)
	x.mount(t)
	if x.m.St.Gen != 2 || x.m.Tally != (charge.Tally{Files: 5, Metas: 4, Objects: 8}) {
		t.Errorf("%v, %v", x.m.St, x.m.Tally)
	}
	if !slices.Equal(x.m.Orphans, []uint16{3, 7, 100, 255}) {
		t.Errorf("%v", x.m.Orphans)
	}
	// Files' leaves once, all else twice: other leaves, roots, and nodes of level 1; then five table blocks, three nodes of level 1 above them, the table's root, the top.
	if want := 5 + 2*4 + 2*6 + 2*8 + 2*5 + 2*3 + 2 + 2; counts(x.m)[0].Used != want || counts(x.m)[1].Used != want {
		t.Errorf("%v, want %d", counts(x.m), want)
	}
}

// P18.2: leaves of objects are not read: all of them may be lost. Of stems as many copies are read as it takes, and those ahead are mended.
func TestReads(t *testing.T) {
	x := filled(t, busy()...)
	w, h := empty().with(busy()...), x.hang()
	for _, p := range h.leaves {
		x.rot(p, 0, 1, 2, 3)
	}
	x.p.Fuse(0)
	x.stands(t, x.m.St, w)
	if n := x.m.M.Count(0); n != (mirror.Count{}) || !x.p.Is() {
		t.Errorf("leaves: %v", n)
	}
	x = filled(t, busy()...)
	for _, p := range h.stems {
		x.rot(p, 1, 2, 3)
	}
	x.p.Fuse(0)
	x.stands(t, x.m.St, w)
	if n := x.m.M.Count(0); n != (mirror.Count{}) || !x.p.Is() {
		t.Errorf("copies behind the first: %v", n)
	}
	for i := range 4 {
		x = filled(t, busy()...)
		for _, p := range h.stems {
			for j := range i {
				x.rot(p, j)
			}
		}
		x.stands(t, x.m.St, w)
		for disk := range 2 {
			if n := max(0, min(2, i-2*disk)) * len(h.stems); x.m.M.Count(disk) != (mirror.Count{Found: n, Mended: n}) {
				t.Errorf("%d copies: %v, want %d", i, x.m.M.Count(disk), n)
			}
		}
		for _, p := range h.stems {
			for place := range 4 {
				if !x.good(p, place) {
					t.Errorf("%d copies: %d of %v is bad", i, place, p)
				}
			}
		}
		x.tells(t, w)
	}
}

// P18.2: the order of reading, as it is to be seen by what is mended ahead of the power's end: the top, the table's nodes, its leaves, then each object's tree, by numbers.
func TestOrder(t *testing.T) {
	h := filled(t, busy()...).hang()
	for n := range len(h.stems) + 1 {
		x := filled(t, busy()...)
		for _, p := range h.stems {
			x.rot(p, 0)
		}
		x.p.Fuse(n)
		m, e := mount.Mount(x.a, x.b, x.c)
		// What the last one's mending came to is not read any more.
		if whole := n >= len(h.stems)-1; whole != (e == api.OK) || whole != (m != nil) || !whole && e != api.EIO {
			t.Errorf("fuse %d: %v, %v", n, m, e)
		}
		for i, p := range h.stems {
			if x.good(p, 0) != (i < n) {
				t.Errorf("fuse %d: the stem %d: %v", n, i, p)
			}
		}
	}
}

// P18.2: a lost stem is EIO, whichever it is, and ends the walk: nothing behind it is mended.
func TestLost(t *testing.T) {
	h := filled(t, busy()...).hang()
	for i, lost := range h.stems {
		x := filled(t, busy()...)
		for _, p := range h.stems {
			x.rot(p, 0, 2)
		}
		x.rot(lost, 0, 1, 2, 3)
		x.refuses(t, "a lost stem", api.EIO)
		for j, p := range h.stems {
			if x.good(p, 0) != (j < i) || x.good(p, 2) {
				t.Errorf("the stem %d is lost: the stem %d: %v", i, j, p)
			}
		}
		x.refuses(t, "a lost stem, again", api.EIO)
	}
}

// P18.2: the space and the mirror are one another's, and of these disks: what is mended in vain is sick, and among the moves.
func TestSick(t *testing.T) {
	x := filled(t, busy()...)
	w, h := empty().with(busy()...), x.hang()
	for _, p := range h.stems {
		x.b.Stick(p.At[3])
		x.a.Stick(p.At[0])
	}
	x.stands(t, x.m.St, w)
	if n := counts(x.m); n[0].Sick != len(h.stems) || n[1].Sick != 0 {
		t.Errorf("%v", n)
	}
	for _, p := range h.stems {
		if !x.m.S.Is(0, p.At[0]) || x.m.S.Is(0, p.At[1]) {
			t.Errorf("%v: %v, %v", p, x.m.S.Is(0, p.At[0]), x.m.S.Is(0, p.At[1]))
		}
	}
	if !slices.Equal(x.m.M.Moves(), h.stems) {
		t.Errorf("%v, want %v", x.m.M.Moves(), h.stems)
	}
	if x.m.M.Check(h.stems[2]) != api.OK || !x.m.S.Is(1, h.stems[2].At[3]) || x.m.M.Health(1) != mirror.Hurt {
		t.Errorf("the mirror is over another space, or other disks")
	}
}

// P18.3: on what was mounted it goes on: what is committed next uses no address of what is there.
func TestGoesOn(t *testing.T) {
	x := filled(t, busy()...)
	w := empty().with(busy()...)
	for i := range 5 {
		x.mount(t)
		acts := []act{inodes(uint16(20+i), file(1)), leaves(uint16(20+i), 5, some(i)), leaves(2, 9, some(i))}
		x.commit(t, acts...)
		w = w.with(acts...)
		x.tells(t, w)
		x.stands(t, x.m.St, w)
	}
	if x.m.St.Gen != 7 {
		t.Errorf("%v", x.m.St)
	}
}

// P18.3: commit upon commit, each one is mounted as it was.
func TestScripts(t *testing.T) {
	for seed := range uint32(30) {
		draw := draws(seed)
		x, w := formatted(t, 700+draw(900), 800), empty()
		for range 8 {
			acts := drawnActs(draw, 1+draw(25))
			x.commit(t, acts...)
			w = w.with(acts...)
			st, was := x.m.St, counts(x.m)
			x.tells(t, w)
			x.stands(t, st, w)
			if counts(x.m) != was {
				t.Errorf("%v, want %v", counts(x.m), was)
			}
		}
		if t.Failed() {
			t.Fatalf("seed %d", seed)
		}
	}
}

// harm lets something happen to a disk, mostly to addresses that are used; whether a mount may go wrong by it that is right ahead of it.
func harm(d *disk.Disk, draw func(n int) int) bool {
	addr := uint16(1 + draw(60))
	switch draw(8) {
	case 0:
		d.Rot(addr, some(draw(1<<20)))
	case 1:
		d.Bad(addr)
	case 2:
		d.Stick(addr)
	case 3: // another block's bytes, which are good ones elsewhere
		if b, ok := d.Look(uint16(1 + draw(60))); ok {
			d.Rot(addr, b)
		}
	case 4:
		d.Rot(addr, make([]byte, api.Block))
	case 5:
		d.Lose()
		return true
	case 6:
		d.Astray(addr)
		return true
	case 7:
		if draw(10) == 0 {
			d.Die()
		}
	}
	return false
}

// P18.3: whatever happens to one of both disks, the mount is the same.
func TestOneDisk(t *testing.T) {
	for seed := range uint32(60) {
		draw := draws(seed)
		acts := drawnActs(draw, 40)
		x, w := filled(t, acts...), empty().with(acts...)
		st, d := x.m.St, x.on(int(seed%2))
		for range 5 {
			for range draw(60) {
				harm(d, draw)
			}
			x.stands(t, st, w)
			x.tells(t, w)
		}
		if t.Failed() {
			t.Fatalf("seed %d", seed)
		}
	}
	for i := range 2 {
		for what, all := range []func(d *disk.Disk, addr uint16){
			func(d *disk.Disk, addr uint16) { d.Rot(addr, some(int(addr))) },
			func(d *disk.Disk, addr uint16) { d.Bad(addr) },
			func(d *disk.Disk, addr uint16) { d.Stick(addr) },
			func(d *disk.Disk, _ uint16) { d.Die() },
		} {
			x := filled(t, busy()...)
			for addr := range uint16(x.on(i).Blocks()) {
				all(x.on(i), addr)
			}
			x.stands(t, x.m.St, empty().with(busy()...))
			if t.Failed() {
				t.Fatal(i, what)
			}
		}
	}
}

// P18.3: whatever happens to both disks, it is the same state, or EIO: EIO just where a stem is lost, but by what happens to mending writes.
func TestBothDisks(t *testing.T) {
	told := map[api.Errno]int{}
	for seed := range uint32(200) {
		draw := draws(seed)
		acts := drawnActs(draw, 40)
		x, w := filled(t, acts...), empty().with(acts...)
		st := x.m.St
		armed := false
		for range draw(120) {
			armed = harm(x.on(draw(2)), draw) || armed
		}
		lost := len(x.hang().lost) > 0
		m, e := mount.Mount(x.a, x.b, x.c)
		told[e]++
		switch {
		case e == api.OK && !lost:
			if m.St != st || m.Tally != w.tally() || !slices.Equal(m.Orphans, w.orphans()) {
				t.Errorf("seed %d: %v", seed, m)
			}
			x.m = m
			h := x.hang()
			uses(t, x, append(h.stems, h.leaves...))
		case e != api.EIO || m != nil || !lost && !armed:
			t.Errorf("seed %d: %v, %v, lost: %v", seed, m, e, lost)
		}
	}
	if told[api.OK] < 30 || told[api.EIO] < 30 {
		t.Errorf("few of one: %v", told)
	}
}

// P18.3: wherever the power ends in a commit, and then in a mount that mends, and whatever becomes of what was not flushed: a mount tells the state ahead of the commit, or the new one.
func TestPower(t *testing.T) {
	for seed := range uint32(8) {
		draw := draws(500 + seed)
		first, second := drawnActs(draw, 20), drawnActs(draw, 8)
		for n, ends := 0, false; !ends && !t.Failed(); n++ {
			x := filled(t, first...)
			x.p.Fuse(n)
			w := empty().with(first...)
			if ends = x.try(t, second...) == api.OK; ends {
				w = w.with(second...)
			}
			st := x.m.St
			x.crash(draw)
			for range draw(30) {
				x.on(n%2).Rot(uint16(1+draw(50)), some(draw(1<<20)))
			}
			x.p.Fuse(draw(12))
			if m, e := mount.Mount(x.a, x.b, x.c); e != api.OK && (e != api.EIO || m != nil || x.p.Is()) {
				t.Errorf("%v, %v", m, e)
			}
			x.crash(draw)
			x.tells(t, w)
			x.stands(t, st, w)
			if t.Failed() {
				t.Fatalf("seed %d, fuse %d", seed, n)
			}
		}
	}
}

// P18.2: without power there is nothing to be read.
func TestWithoutPower(t *testing.T) {
	x := filled(t, busy()...)
	x.p.Fuse(0)
	x.p.Step()
	x.refuses(t, "without power", api.EIO)
	x.p.Back()
	x.stands(t, x.m.St, empty().with(busy()...))
}

// P18.2: disks of less than MinBlocks blocks are not formatted, but where they hold a state it is mounted, with the copies that there is room for.
func TestSmall(t *testing.T) {
	acts := []act{inodes(1, dir(2))}
	for _, n := range [][2]int{{9, 9}, {511, 9}, {9, 4096}, {1, 30}, {30, 6}, {7, 8}} {
		x := newRig(t, n[0], n[1])
		s, _ := space.New(n[0], n[1])
		m, _ := mirror.New(x.a, x.b, s)
		x.m = &mount.Mounted{S: s, M: m}
		x.commit(t, acts...)
		x.stands(t, x.m.St, plain{}.with(acts...))
		if t.Failed() {
			t.Fatal(n)
		}
	}
}

// R2, R3: each mount is one of its own; whatever is done to one's lists, and to its space, the next one is as it was.
func TestAlone(t *testing.T) {
	x := filled(t, busy()...)
	x.mount(t)
	one := x.m
	x.mount(t)
	two := x.m
	if one == two || one.S == two.S || one.M == two.M || one.St != two.St || one.Tally != two.Tally || !slices.Equal(one.Orphans, two.Orphans) {
		t.Fatalf("%v, %v", one, two)
	}
	for i := range one.Orphans {
		one.Orphans[i] = 999
	}
	for range 100 {
		one.S.Alloc(0)
	}
	if !slices.Equal(two.Orphans, []uint16{3, 7, 100, 255}) || counts(two)[0].Used != counts(two)[1].Used {
		t.Errorf("%v, %v", two.Orphans, counts(two))
	}
	x.stands(t, x.m.St, empty().with(busy()...))
}

// forger makes states that no commit makes: each block, by its place among all, is as twist lets it be.
type forger struct {
	*rig
	next  uint16
	made  []api.Ptr
	twist func(i int, p *api.Ptr, block []byte)
}

// forges is one over new disks.
func forges(t *testing.T, twist func(i int, p *api.Ptr, block []byte)) *forger {
	t.Helper()
	return &forger{rig: newRig(t, 600, 700), next: 1, twist: twist}
}

// Read is never asked: a tree that is made of holes has nothing to be read.
func (f *forger) Read(api.Ptr) ([]byte, api.Errno) { return nil, api.ErrBad }

// Old is never told anything.
func (f *forger) Old(api.Ptr) {}

// New makes a block, wherever its copies come to be.
func (f *forger) New(p api.Ptr, block []byte) (api.Ptr, api.Errno) {
	wide := uint16(ptr.Wide(p.Kind))
	p.Birth = 1
	for i := range wide {
		p.At[i], p.At[2+i] = f.next+i, f.next+i
	}
	f.next += wide
	block = slices.Clone(block)
	f.twist(len(f.made), &p, block)
	p = ptr.Seal(p, block)
	for disk, addr := range ptr.Copies(p) {
		f.on(disk).Write(addr, block)
	}
	f.made = append(f.made, p)
	return p, api.OK
}

// leaf makes a leaf of an object, tree a tree of leaves.
func (f *forger) leaf(kind uint8, obj uint16, off uint32) tree.Leaf {
	p, _ := f.New(api.Ptr{Kind: kind, Obj: obj, Off: off}, some(int(obj)*64+int(off)))
	return tree.Leaf{Off: off, P: p}
}
func (f *forger) tree(t *testing.T, obj uint16, l ...tree.Leaf) api.Ptr {
	t.Helper()
	root, e := tree.Set(f, api.Ptr{}, obj, l)
	if e != api.OK {
		t.Fatal(e)
	}
	return root
}

// store makes the table and the top, and lets the cell tell of it.
func (f *forger) store(t *testing.T, items ...table.Item) {
	t.Helper()
	root, e := table.Set(f, api.Ptr{}, items)
	if e != api.OK {
		t.Fatal(e)
	}
	f.top(t, table.Top{Gen: 1, Table: root})
}
func (f *forger) top(t *testing.T, top table.Top) {
	t.Helper()
	p, _ := f.New(api.Ptr{Kind: api.Root}, table.PutTop(top))
	f.a.Flush()
	f.b.Flush()
	if e := f.c.Store(anchor.Anchor{Gen: 1, Hash: p.Hash, At: p.At}); e != api.OK {
		t.Fatal(e)
	}
}

// state makes one of two objects, so that its blocks are, in this order: two leaves, two nodes, a root; a leaf, a node, a root; two table blocks, a node, a root; the top.
func (f *forger) state(t *testing.T) {
	t.Helper()
	in := inode.Inode{Kind: inode.File, Links: 1, Size: 900, Root: f.tree(t, 2, f.leaf(api.Data, 2, 0), f.leaf(api.Data, 2, 9))}
	other := inode.Inode{Kind: inode.Dir, Links: 0, Size: 9, Root: f.tree(t, 5, f.leaf(api.Meta, 5, 63))}
	f.store(t, table.Item{Num: 2, In: in}, table.Item{Num: 5, In: other})
}

// straight twists nothing.
func straight(int, *api.Ptr, []byte) {}

// P18.2, R1: EIO: an address that there is not, or that is marked twice, in whichever block's pointer it stands; the same one on both disks is none.
func TestAddresses(t *testing.T) {
	right := forges(t, straight)
	right.state(t)
	right.mount(t)
	if right.m.Tally != (charge.Tally{Files: 2, Metas: 1, Objects: 2}) || !slices.Equal(right.m.Orphans, []uint16{5}) || len(right.made) != 13 {
		t.Fatalf("%v, %v, %d", right.m.Tally, right.m.Orphans, len(right.made))
	}
	for i, p := range right.made {
		for place, was := range p.At {
			if was == 0 {
				continue
			}
			last := uint16(right.on(place/2).Blocks() - 1)
			rows := map[uint16]api.Errno{last: api.OK, 500: api.OK, 0: api.OK, last + 1: api.EIO, 4095: api.EIO, math.MaxUint16: api.EIO}
			for j, q := range right.made {
				if other := q.At[place/2*2]; j != i {
					rows[other] = api.EIO
				}
			}
			for addr, want := range rows {
				f := forges(t, func(j int, p *api.Ptr, _ []byte) {
					if j == i {
						p.At[place] = addr
					}
				})
				f.state(t)
				if m, e := mount.Mount(f.a, f.b, f.c); e != want || (m == nil) != (want != api.OK) {
					t.Errorf("block %d, place %d at %d: %v, %v, want %v", i, place, addr, m, e, want)
				}
			}
		}
	}
}

// P18.2: EIO, where one leaf, or one tree, stands at two places.
func TestTwice(t *testing.T) {
	in := inode.Inode{Kind: inode.File, Links: 1, Size: 900}
	f := forges(t, straight)
	leaf := f.leaf(api.Data, 2, 0)
	in.Root = f.tree(t, 2, leaf, tree.Leaf{Off: 1, P: leaf.P})
	f.store(t, table.Item{Num: 2, In: in})
	f.refuses(t, "a leaf at two offsets", api.EIO)
	f = forges(t, straight)
	leaf = f.leaf(api.Data, 2, 0)
	one, two := in, in
	one.Root = f.tree(t, 2, leaf)
	two.Root = f.tree(t, 3, leaf)
	f.store(t, table.Item{Num: 2, In: one}, table.Item{Num: 3, In: two})
	f.refuses(t, "a leaf of two objects", api.EIO)
	f = forges(t, straight)
	one.Root = f.tree(t, 2, f.leaf(api.Data, 2, 0))
	f.store(t, table.Item{Num: 2, In: one}, table.Item{Num: 200, In: one})
	f.refuses(t, "a tree of two objects", api.EIO)
	f = forges(t, straight)
	root, _ := table.Set(f, api.Ptr{}, []table.Item{{Num: 2, In: inode.Inode{Kind: inode.Dir, Links: 2}}})
	one.Root = root
	f.store(t, table.Item{Num: 2, In: one})
	f.mount(t)
	x := filled(t, busy()...)
	x.m.S.Give(0, x.hang().leaves[0].At[0])
	x.commit(t, inodes(90, file(1)), leaves(90, 0, some(90)))
	x.refuses(t, "an address that was given out twice", api.EIO)
}

// P18.2: EIO, where a stem is not what it must be, though it fits its pointer; of a leaf nothing is asked.
func TestWrong(t *testing.T) {
	right := forges(t, straight)
	right.state(t)
	for i, p := range right.made {
		for seed, noise := range [][]byte{some(1), bytes.Repeat([]byte{255}, api.Block)} {
			f := forges(t, func(j int, _ *api.Ptr, block []byte) {
				if j == i {
					copy(block, noise)
				}
			})
			f.state(t)
			want := api.EIO
			if p.Kind == api.Data || p.Kind == api.Meta {
				want = api.OK
			}
			if m, e := mount.Mount(f.a, f.b, f.c); e != want || (m == nil) != (want != api.OK) {
				t.Errorf("block %d, %v, noise %d: %v, %v, want %v", i, p, seed, m, e, want)
			}
		}
	}
	low := right.made
	for i, row := range []struct {
		top  table.Top
		want api.Errno
	}{
		{table.Top{Gen: 1}, api.OK},
		{table.Top{Gen: 1, Table: low[11]}, api.OK},
		{table.Top{Gen: 0, Table: low[11]}, api.EIO},
		{table.Top{Gen: 2, Table: low[11]}, api.EIO},
		{table.Top{Gen: 1, Table: low[0]}, api.EIO},
		{table.Top{Gen: 1, Table: low[8]}, api.EIO},
		{table.Top{Gen: 1, Table: low[10]}, api.EIO},
		{table.Top{Gen: 1, Table: low[12]}, api.EIO},
		{table.Top{Gen: 1, Table: low[4]}, api.EIO},
	} {
		f := &forger{rig: right.rig, next: 400 + uint16(2*i), twist: straight}
		f.c, _ = anchor.New(f.p)
		f.top(t, row.top)
		if m, e := mount.Mount(f.a, f.b, f.c); e != row.want || (m == nil) != (row.want != api.OK) {
			t.Errorf("top %d: %v, %v, want %v", i, m, e, row.want)
		} else if e == api.OK && (m.St.Table != row.top.Table || m.St.Gen != 1) {
			t.Errorf("top %d: %v", i, m.St)
		}
	}
}

// P18.2: EIO of an anchor whose pointer may not be, or that tells of what is not there.
func TestAnchors(t *testing.T) {
	x := filled(t, busy()...)
	good := x.c.Load()
	for i, twist := range []func(a *anchor.Anchor){
		func(a *anchor.Anchor) { a.At = [4]uint16{} },
		func(a *anchor.Anchor) { a.At = [4]uint16{a.At[0], a.At[0], 0, 0} },
		func(a *anchor.Anchor) { a.At = [4]uint16{a.At[2], a.At[3], a.At[3], a.At[3]} },
		func(a *anchor.Anchor) { a.Hash[31]++ },
		func(a *anchor.Anchor) { a.Gen++ },
		func(a *anchor.Anchor) { a.At = [4]uint16{500, 501, 500, 501} },
		func(a *anchor.Anchor) { a.At = [4]uint16{600, 0, 700, 0} },
		func(a *anchor.Anchor) { a.At[3] = 700 },
		func(a *anchor.Anchor) { a.Hash, a.At = [32]byte{}, [4]uint16{} },
	} {
		a := good
		twist(&a)
		y := *x
		y.c, _ = anchor.New(x.p)
		y.c.Store(a)
		y.refuses(t, "an anchor", api.EIO)
		if t.Failed() {
			t.Fatal(i)
		}
	}
	y := *x
	y.c, _ = anchor.New(x.p)
	good.At[0], good.At[1] = 0, 0
	y.c.Store(good)
	y.mount(t)
	if n := counts(y.m); n[1].Used != n[0].Used+2 || y.m.St.Top.At != good.At {
		t.Errorf("%v, %v", n, y.m.St)
	}
}

// P18.2: a mount reads by the mirror alone: a view over it tells what the state tells.
func TestViews(t *testing.T) {
	x := filled(t, busy()...)
	x.b.Die()
	x.mount(t)
	v := commit.Look(x.m.M, x.m.St)
	for num, o := range empty().with(busy()...) {
		n, e := v.Inode(num)
		n.Root = api.Ptr{}
		if n != o.in || e != api.OK {
			t.Errorf("Inode(%d): %v, %v", num, n, e)
		}
		for off := range uint32(api.Leaves) {
			if b, e := v.Leaf(num, off); string(b) != o.leaves[off] || e != api.OK {
				t.Errorf("Leaf(%d, %d): %d bytes, %v", num, off, len(b), e)
			}
		}
	}
	if x.m.M.Health(0) != mirror.Good || x.m.M.Health(1) != mirror.Dead {
		t.Errorf("%d, %d", x.m.M.Health(0), x.m.M.Health(1))
	}
}
