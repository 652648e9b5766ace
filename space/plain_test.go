package space_test

import (
	"fmt"
	"maps"
	"slices"
	"strings"
	"testing"

	"kintsugi/api"
	"kintsugi/space"
)

// place is an address of a disk.
type place struct {
	disk int
	addr uint16
}

// plain is a space, as the chapter's words tell it.
type plain struct {
	word map[place]string // "free", "used", "held", of each address that there is
	sick map[place]bool
}

// newPlain is one of disks of so many blocks.
func newPlain(a, b int) *plain {
	m := &plain{map[place]string{}, map[place]bool{}}
	for disk, blocks := range []int{a, b} {
		for addr := 1; addr < blocks; addr++ {
			m.word[place{disk, uint16(addr)}] = "free"
		}
	}
	return m
}

// of are a disk's addresses, rising.
func (m *plain) of(disk int) []uint16 {
	var all []uint16
	for p := range m.word {
		if p.disk == disk {
			all = append(all, p.addr)
		}
	}
	slices.Sort(all)
	return all
}

// alloc is what Alloc answers.
func (m *plain) alloc(disk int) uint16 {
	for _, addr := range m.of(disk) {
		p := place{disk, addr}
		if m.word[p] == "free" && !m.sick[p] {
			m.word[p] = "used"
			return addr
		}
	}
	return 0
}

// change is what a call answers that lets an address be something else.
func (m *plain) change(p place, from, to string) api.Errno {
	switch m.word[p] {
	case "":
		return api.ErrArg
	case from:
		m.word[p] = to
		return api.OK
	}
	return api.ErrForm
}

// changeAll is what Release, Back do.
func (m *plain) changeAll(to string) {
	for p := range m.word {
		if m.word[p] == "held" {
			m.word[p] = to
		}
	}
}

// fall is what Sick answers.
func (m *plain) fall(p place) api.Errno {
	if m.word[p] == "" {
		return api.ErrArg
	}
	m.sick[p] = true
	return api.OK
}

// count is what Count answers.
func (m *plain) count(disk int) space.Count {
	n := map[string]int{}
	for p, word := range m.word {
		if p.disk == disk {
			n[word]++
			if m.sick[p] {
				n["sick"]++
			}
		}
	}
	return space.Count{Free: n["free"], Used: n["used"], Held: n["held"], Sick: n["sick"]}
}

// both is a space, and what it should be.
type both struct {
	s *space.Space
	m *plain
}

// tellsSame is whether all that may be asked is the same.
func (x both) tellsSame() bool {
	for disk := -1; disk <= 2; disk++ {
		if x.s.Count(disk) != x.m.count(disk) {
			return false
		}
		for addr := range uint16(8) {
			if x.s.Is(disk, addr) != x.m.sick[place{disk, addr}] {
				return false
			}
		}
	}
	return true
}

// act is something done to both; whether they answer the same.
type act struct {
	what string
	do   func(x both) bool
}

// acts are all that may be done to a space, at addresses below so many.
func acts(ends [2]int) []act {
	all := []act{
		{"release", func(x both) bool { x.s.Release(); x.m.changeAll("free"); return true }},
		{"back", func(x both) bool { x.s.Back(); x.m.changeAll("used"); return true }},
	}
	add := func(what string, p place, do func(x both) bool) {
		all = append(all, act{fmt.Sprint(what, " ", p.disk, " ", p.addr), do})
	}
	for disk, end := range ends {
		add("alloc", place{disk, 0}, func(x both) bool { return x.s.Alloc(disk) == x.m.alloc(disk) })
		for addr := range end {
			p := place{disk, uint16(addr)}
			add("mark", p, func(x both) bool { return x.s.Mark(p.disk, p.addr) == x.m.change(p, "free", "used") })
			add("give", p, func(x both) bool { return x.s.Give(p.disk, p.addr) == x.m.change(p, "used", "free") })
			add("hold", p, func(x both) bool { return x.s.Hold(p.disk, p.addr) == x.m.change(p, "used", "held") })
			add("sick", p, func(x both) bool { return x.s.Sick(p.disk, p.addr) == x.m.fall(p) })
		}
	}
	return all
}

// run does a script, act by act, and asks for all behind each of them.
func run(t *testing.T, blocks [2]int, script []act) {
	t.Helper()
	s, _ := space.New(blocks[0], blocks[1])
	x := both{s, newPlain(blocks[0], blocks[1])}
	for i, a := range script {
		if !a.do(x) || !x.tellsSame() {
			var what []string
			for _, a := range script[:i+1] {
				what = append(what, a.what)
			}
			t.Fatalf("of %v, not as it should be behind: %s", blocks, strings.Join(what, "; "))
		}
	}
}

// draws hands out numbers below n, the same ones for the same seed.
func draws(seed uint32) func(n int) int {
	return func(n int) int {
		seed = seed*1664525 + 1013904223
		return int(seed>>8) % n
	}
}

// P7.1 to P7.3: each script of three acts, with addresses at the edges of both disks and one past each of them.
func TestShortScripts(t *testing.T) {
	all := acts([2]int{4, 3})
	for _, a := range all {
		for _, b := range all {
			for _, c := range all {
				run(t, [2]int{3, 2}, []act{a, b, c})
			}
		}
	}
}

// P7.1 to P7.3: long scripts; what is for good is rare in them.
func TestLongScripts(t *testing.T) {
	draw := draws(1)
	for range 400 {
		blocks := [2]int{1 + draw(7), 1 + draw(7)}
		all := acts([2]int{blocks[0] + 1, blocks[1] + 1})
		var script []act
		for len(script) < 120 {
			a := all[draw(len(all))]
			if !strings.HasPrefix(a.what, "sick") || draw(15) == 0 {
				script = append(script, a)
			}
		}
		run(t, blocks, script)
	}
}

// out are the addresses that Alloc told and that may not be told anew, and of them those that are held.
type out struct {
	all, held map[place]bool
}

// alloc says where Alloc tells what is out, or what there is not.
func (o out) alloc(t *testing.T, s *space.Space, disk, blocks int) {
	t.Helper()
	addr := s.Alloc(disk)
	p := place{disk, addr}
	if addr != 0 && (o.all[p] || int(addr) >= blocks || s.Is(disk, addr)) {
		t.Fatalf("%v was told", p)
	}
	if addr != 0 {
		o.all[p] = true
	}
}

// P7.4: what Alloc told is told anew only when it was given back, or held and released; free, used and held ones are all that there are.
func TestToldAnew(t *testing.T) {
	draw := draws(3)
	for range 50 {
		blocks := [2]int{2 + draw(12), 2 + draw(12)}
		s := made(t, blocks[0], blocks[1])
		o := out{map[place]bool{}, map[place]bool{}}
		for range 500 {
			disk := draw(2)
			p := place{disk, uint16(1 + draw(blocks[disk]-1))}
			switch draw(12) {
			case 0:
				if s.Give(p.disk, p.addr) == api.OK {
					delete(o.all, p)
				}
			case 1:
				if s.Hold(p.disk, p.addr) == api.OK {
					o.held[p] = true
				}
			case 2:
				s.Release()
				maps.DeleteFunc(o.all, func(p place, _ bool) bool { return o.held[p] })
				clear(o.held)
			case 3:
				s.Back()
				clear(o.held)
			case 4:
				if draw(10) == 0 {
					s.Sick(p.disk, p.addr)
				}
			default:
				o.alloc(t, s, disk, blocks[disk])
			}
			for disk, n := range blocks {
				if c := s.Count(disk); c.Free+c.Used+c.Held != n-1 || c.Free < 0 || c.Used < 0 || c.Held < 0 || c.Sick < 0 || c.Sick > n-1 {
					t.Fatalf("of %d blocks: %+v", n, c)
				}
			}
		}
	}
}
