package mirror_test

import (
	"bytes"
	"fmt"
	"slices"
	"strings"
	"testing"

	"kintsugi/api"
	"kintsugi/disk"
	"kintsugi/mirror"
	"kintsugi/ptr"
	"kintsugi/space"
)

// place is where a copy is.
type place struct {
	disk int
	addr uint16
}

// placesOf are a pointer's copies, in order, as the chapters' words tell them.
func placesOf(p api.Ptr) []place {
	var all []place
	for i, addr := range p.At {
		if addr != 0 {
			all = append(all, place{i / 2, addr})
		}
	}
	return all
}

// ats are addresses at each choice of places.
func ats() [][4]uint16 {
	var all [][4]uint16
	for i := 1; i < 16; i++ {
		var at [4]uint16
		for j, addr := range []uint16{6, 2, 1, 5} {
			if i>>j&1 != 0 {
				at[j] = addr
			}
		}
		all = append(all, at)
	}
	return all
}

// ills are what may become of a copy, besides that it stays good.
var ills = []func(d *disk.Disk, addr uint16){
	func(d *disk.Disk, addr uint16) {},
	func(d *disk.Disk, addr uint16) { d.Rot(addr, some(99)) },
	func(d *disk.Disk, addr uint16) { d.Bad(addr) },
	func(d *disk.Disk, addr uint16) { d.Stick(addr) },
}

// The ills' places in that list.
const (
	well = iota
	rotten
	bad
	stuck
)

// fate is what became of each copy of a block, and of each disk.
type fate struct {
	at   [4]uint16
	ill  [4]int
	dead [2]bool
}

// fates are all that there are.
func fates() []fate {
	var all []fate
	for _, at := range ats() {
		for n := range 256 {
			ill := [4]int{n & 3, n >> 2 & 3, n >> 4 & 3, n >> 6}
			for i, addr := range at {
				if addr == 0 && ill[i] != well {
					ill = [4]int{-1}
				}
			}
			for dead := 0; dead < 4 && ill[0] >= 0; dead++ {
				all = append(all, fate{at, ill, [2]bool{dead&1 != 0, dead&2 != 0}})
			}
		}
	}
	return all
}

// wanted is what a look at a block's copies should lead to.
type wanted struct {
	good  bool
	count [2]mirror.Count
	fits  [4]bool // which copies are good behind it
	sick  []place
}

// foretold is what a fate leads to; all: every copy is looked at.
func (f fate) foretold(all bool) wanted {
	var w wanted
	var found []int
	for i, addr := range f.at {
		if addr == 0 || f.dead[i/2] {
			continue
		}
		w.fits[i] = f.ill[i] == well
		if w.good && !all {
			continue
		}
		if f.ill[i] == well {
			w.good = true
		} else {
			found = append(found, i)
			w.count[i/2].Found++
		}
	}
	for _, i := range found {
		switch {
		case !w.good:
		case f.ill[i] == stuck:
			w.sick = append(w.sick, place{i / 2, f.at[i]})
		default:
			w.fits[i] = true
			w.count[i/2].Mended++
		}
	}
	slices.SortFunc(w.sick, func(a, b place) int { return 100*(a.disk-b.disk) + int(a.addr) - int(b.addr) })
	return w
}

// P8.1, P8.2, P8.5: whatever became of the copies and of the disks: what is looked at, found, mended, sick, moved, and told; behind Check all copies are good that may be.
func TestFates(t *testing.T) {
	for _, f := range fates() {
		for _, all := range []bool{false, true} {
			r, p := stored(t, some(1), f.at[:]...)
			for i, addr := range f.at {
				ills[f.ill[i]](r.d[i/2], addr)
			}
			for on, dead := range f.dead {
				if dead {
					r.d[on].Die()
				}
			}
			w := f.foretold(all)
			switch {
			case all && w.good:
				is(t, "Check", r.m.Check(p), api.OK)
			case all:
				is(t, "Check", r.m.Check(p), api.EIO)
			case w.good:
				reads(t, r, p, some(1))
			default:
				fails(t, r, p, api.EIO)
			}
			for on, c := range w.count {
				counts(t, r, on, c.Found, c.Mended)
				tried := 0
				if w.good {
					tried = c.Found
				}
				cached(t, r, on, tried)
			}
			for i, fits := range w.fits {
				b, ok := r.d[i/2].Look(f.at[i])
				if f.at[i] != 0 && fits != (ok && bytes.Equal(b, some(1))) {
					t.Errorf("copy %d: good %v", i, !fits)
				}
			}
			sick(t, r, w.sick...)
			if len(w.sick) > 0 {
				moves(t, r, p)
			} else {
				moves(t, r)
			}
			if t.Failed() {
				t.Fatalf("of %+v, all %v", f, all)
			}
		}
	}
}

// plain is a mirror, as the chapter's words tell it, over disks of its own.
type plain struct {
	d             [2]*disk.Disk
	p             *disk.Power
	sick          map[place]bool
	found, mended map[int]int
	moves         []api.Ptr
}

// newPlain is one of disks of noughts.
func newPlain() *plain {
	m := &plain{p: disk.On(), sick: map[place]bool{}, found: map[int]int{}, mended: map[int]int{}}
	for i := range m.d {
		m.d[i], _ = disk.New(blocks, m.p)
	}
	return m
}

// look is a copy's block, if it is good.
func (m *plain) look(p api.Ptr, c place) (string, bool) {
	b, e := m.d[c.disk].Read(c.addr)
	return string(b), e == api.OK && ptr.Fits(p, b)
}

// mend is what mending a copy does.
func (m *plain) mend(p api.Ptr, c place, text string) {
	m.d[c.disk].Write(c.addr, []byte(text))
	if _, good := m.look(p, c); good {
		m.mended[c.disk]++
		return
	}
	if c.addr < blocks {
		m.sick[c] = true
	}
	for _, q := range m.moves {
		if q == p {
			return
		}
	}
	m.moves = append(m.moves, p)
}

// read is what Read answers, or, of all copies, Check.
func (m *plain) read(p api.Ptr, all bool) (string, api.Errno) {
	if !ptr.May(p) {
		return "", api.ErrArg
	}
	var block string
	var ill []place
	for _, c := range placesOf(p) {
		if block != "" && !all {
			break
		}
		text, good := m.look(p, c)
		if good && block == "" {
			block = text
		}
		if !good && !m.d[c.disk].Dead() {
			m.found[c.disk]++
			ill = append(ill, c)
		}
	}
	if block == "" {
		return "", api.EIO
	}
	for _, c := range ill {
		m.mend(p, c, block)
	}
	return block, api.OK
}

// write is what Write answers.
func (m *plain) write(p api.Ptr, b []byte) api.Errno {
	if !ptr.May(p) || !ptr.Fits(p, b) {
		return api.ErrArg
	}
	written := 0
	for _, c := range placesOf(p) {
		if m.d[c.disk].Write(c.addr, b) == api.OK {
			written++
		}
	}
	if written == 0 {
		return api.EIO
	}
	return api.OK
}

// flush is what Flush answers.
func (m *plain) flush() api.Errno {
	first, second := m.d[0].Flush(), m.d[1].Flush()
	if first != api.OK && second != api.OK {
		return api.EIO
	}
	return api.OK
}

// health is what Health answers.
func (m *plain) health(on int) uint8 {
	switch {
	case m.d[on].Dead():
		return 2
	case m.found[on] > 0:
		return 1
	}
	return 0
}

// both is a mirror, and what it should be.
type both struct {
	r rig
	m *plain
}

// tellsSame is whether all that may be asked is the same, of the disks and the space, too.
func (x both) tellsSame() bool {
	if x.r.p.Is() != x.m.p.Is() || !slices.Equal(x.r.m.Moves(), x.m.moves) {
		return false
	}
	for on := range 2 {
		d, n := x.r.d[on], 0
		if x.r.m.Count(on) != (mirror.Count{Found: x.m.found[on], Mended: x.m.mended[on]}) || x.r.m.Health(on) != x.m.health(on) || d.Cached() != x.m.d[on].Cached() {
			return false
		}
		for addr := range uint16(blocks) {
			a, aok := d.Look(addr)
			b, bok := x.m.d[on].Look(addr)
			if !bytes.Equal(a, b) || aok != bok || x.r.s.Is(on, addr) != x.m.sick[place{on, addr}] {
				return false
			}
			if x.m.sick[place{on, addr}] {
				n++
			}
		}
		if x.r.s.Count(on) != (space.Count{Free: blocks - 1, Sick: n}) {
			return false
		}
	}
	return true
}

// act is something done to both; whether they answer the same.
type act struct {
	what string
	do   func(x both) bool
}

// leaf is a pointer, and its block.
type leaf struct {
	p api.Ptr
	b []byte
}

// leaves are of all sorts, some at the addresses of others, some where there are none, and one that may not be.
func leaves() []leaf {
	all := []leaf{
		{api.Ptr{Kind: api.Data, Obj: 1, At: [4]uint16{1, 0, 1, 0}}, some(1)},
		{api.Ptr{Kind: api.Data, Obj: 2, At: [4]uint16{0, 0, 2, 0}}, some(2)},
		{api.Ptr{Kind: api.Meta, Obj: 3, At: [4]uint16{3, 4, 3, 4}}, some(3)},
		{api.Ptr{Kind: api.Meta, Obj: 3, Birth: 1, At: [4]uint16{4, 3, 4, 5}}, some(3)},
		{api.Ptr{Kind: api.Node, Level: 1, At: [4]uint16{4, blocks, 2, 4}}, some(4)},
		{api.Ptr{Kind: api.Root, Birth: 2, At: [4]uint16{blocks, 0, 2, 0}}, some(5)},
		{api.Ptr{Kind: api.Table, At: [4]uint16{5, 5, 1, 0}}, some(6)},
	}
	for i := range all {
		all[i].p = ptr.Seal(all[i].p, all[i].b)
	}
	return all
}

// acts are all that may be done to a mirror, its disks, and their power.
func acts() []act {
	var all []act
	add := func(what string, do func(x both) bool) { all = append(all, act{what, do}) }
	for i, l := range leaves() {
		for range 3 { // more often than a fault
			add(fmt.Sprint("write ", i), func(x both) bool { return x.r.m.Write(l.p, l.b) == x.m.write(l.p, l.b) })
			add(fmt.Sprint("read ", i), func(x both) bool {
				b, e := x.r.m.Read(l.p)
				want, wantErr := x.m.read(l.p, false)
				return string(b) == want && e == wantErr && (e != api.OK || ptr.Fits(l.p, b))
			})
			add(fmt.Sprint("check ", i), func(x both) bool {
				_, e := x.m.read(l.p, true)
				return x.r.m.Check(l.p) == e
			})
		}
		add(fmt.Sprint("write another ", i), func(x both) bool { return x.r.m.Write(l.p, some(9)) == x.m.write(l.p, some(9)) })
	}
	add("flush", func(x both) bool { return x.r.m.Flush() == x.m.flush() })
	add("clear", func(x both) bool { x.r.m.Clear(); x.m.moves = nil; return true })
	for _, n := range []int{0, 1, 2, 5} {
		add(fmt.Sprint("fuse ", n), func(x both) bool { x.r.p.Fuse(n); x.m.p.Fuse(n); return true })
	}
	add("back", func(x both) bool { x.r.p.Back(); x.m.p.Back(); return true })
	for on := range 2 {
		fault := func(what string, do func(d *disk.Disk)) {
			add(fmt.Sprint(what, " ", on), func(x both) bool { do(x.r.d[on]); do(x.m.d[on]); return true })
		}
		for addr := range uint16(6) {
			fault(fmt.Sprint("rot ", addr), func(d *disk.Disk) { d.Rot(addr, some(77)) })
			fault(fmt.Sprint("bad ", addr), func(d *disk.Disk) { d.Bad(addr) })
			fault(fmt.Sprint("stick ", addr), func(d *disk.Disk) { d.Stick(addr) })
			fault(fmt.Sprint("astray ", addr), func(d *disk.Disk) { d.Astray(addr) })
		}
		fault("lose", func(d *disk.Disk) { d.Lose() })
		fault("crash", func(d *disk.Disk) { d.Crash([]int{1, 0, 200, 1, 0, 300}) })
		fault("die", func(d *disk.Disk) { d.Die() })
	}
	return all
}

// draws hands out numbers below n, the same ones for the same seed.
func draws(seed uint32) func(n int) int {
	return func(n int) int {
		seed = seed*1664525 + 1013904223
		return int(seed>>8) % n
	}
}

// P8.1 to P8.5: long scripts held against a plain mirror; what is read fits its pointer; what is for good is rare in them.
func TestScripts(t *testing.T) {
	draw := draws(1)
	all := acts()
	for range 400 {
		x := both{made(t), newPlain()}
		var what []string
		for len(what) < 150 {
			a := all[draw(len(all))]
			if rare := strings.HasPrefix(a.what, "die") || strings.HasPrefix(a.what, "stick"); rare && draw(12) != 0 {
				continue
			}
			what = append(what, a.what)
			if !a.do(x) || !x.tellsSame() {
				t.Fatalf("not as it should be behind: %s", strings.Join(what, "; "))
			}
			if !x.r.p.Is() && draw(3) == 0 {
				x.r.p.Back()
				x.m.p.Back()
			}
		}
	}
}
