package disk_test

import (
	"fmt"
	"math"
	"slices"
	"strings"
	"testing"

	"kintsugi/api"
	"kintsugi/disk"
)

// plainWrite is a write that did not come to its block.
type plainWrite struct {
	at   int
	text string
}

// plain is a disk and its power, as the chapter's words tell them.
type plain struct {
	on, fused, dead bool
	fuse            int
	text            []string
	bad, stuck      []bool
	cache           []plainWrite
	armed           []string // "lose", "astray"
	to              int
}

// newPlain is one of noughts.
func newPlain(blocks int) *plain {
	m := &plain{on: true, bad: make([]bool, blocks), stuck: make([]bool, blocks)}
	for range blocks {
		m.text = append(m.text, strings.Repeat("\x00", api.Block))
	}
	return m
}

// step is a step under its power.
func (m *plain) step() bool {
	if !m.on || m.fused && m.fuse == 0 {
		m.on, m.fused = false, false
		return false
	}
	if m.fused {
		m.fuse--
	}
	return true
}

// tell is what an address tells.
func (m *plain) tell(at int) (string, bool) {
	if m.stuck[at] {
		return "", false
	}
	var last *plainWrite
	for i, w := range m.cache {
		if w.at == at {
			last = &m.cache[i]
		}
	}
	if last != nil {
		return last.text, true
	}
	if m.bad[at] {
		return "", false
	}
	return m.text[at], true
}

// come brings so many of a write's bytes to its block.
func (m *plain) come(w plainWrite, n int) {
	m.text[w.at] = w.text[:n] + m.text[w.at][n:]
	m.bad[w.at] = false
}

// arm is whether it is armed so, and it is no more.
func (m *plain) arm(how string) bool {
	i := slices.Index(m.armed, how)
	if i < 0 {
		return false
	}
	m.armed = slices.DeleteFunc(m.armed, func(s string) bool { return s == how })
	return true
}

// write is what Write answers.
func (m *plain) write(at int, text string) api.Errno {
	switch {
	case m.dead || !m.on:
		return api.ErrDead
	case at >= len(m.text) || len(text) != api.Block:
		return api.ErrArg
	case !m.step():
		return api.ErrDead
	case m.arm("lose"):
		return api.OK
	case m.arm("astray"):
		at = m.to
	}
	if at < len(m.text) {
		m.cache = append(m.cache, plainWrite{at, text})
	}
	return api.OK
}

// flush is what Flush answers.
func (m *plain) flush() api.Errno {
	if m.dead || !m.on || !m.step() {
		return api.ErrDead
	}
	for _, w := range m.cache {
		m.come(w, api.Block)
	}
	m.cache = nil
	return api.OK
}

// crash is what Crash does.
func (m *plain) crash(picks []int) {
	if m.dead {
		return
	}
	for i, w := range m.cache {
		switch {
		case i >= len(picks) || picks[i] < 1:
		case picks[i] == 1:
			m.come(w, api.Block)
		default:
			m.come(w, (picks[i]-2)%api.Block)
		}
	}
	m.cache, m.armed = nil, nil
}

// fault is what Rot, Bad and Stick answer.
func (m *plain) fault(at, length int, do func()) api.Errno {
	if at >= len(m.text) || length != api.Block {
		return api.ErrArg
	}
	do()
	m.cache = slices.DeleteFunc(m.cache, func(w plainWrite) bool { return w.at == at })
	return api.OK
}

// both is a disk, its power, and what they should be.
type both struct {
	d *disk.Disk
	p *disk.Power
	m *plain
}

// act is something done to both; whether they answer the same.
type act struct {
	what string
	do   func(x both) bool
}

// tellsSame is whether all that may be asked without a step is the same.
func tellsSame(x both) bool {
	if x.p.Is() != x.m.on || x.d.Dead() != x.m.dead || x.d.Cached() != len(x.m.cache) || x.d.Blocks() != len(x.m.text) {
		return false
	}
	for at := range len(x.m.text) + 1 {
		text, tells := "", false
		var readErr api.Errno = api.ErrArg
		if at < len(x.m.text) {
			text, tells = x.m.tell(at)
			readErr = api.ErrBad
			if tells {
				readErr = api.OK
			}
		}
		readText, lookText := text, text
		lookTells := tells && !x.m.dead
		if !lookTells {
			lookText = ""
		}
		if x.m.dead || !x.m.on {
			readText, readErr = "", api.ErrDead
		}
		b, e := x.d.Read(uint16(at))
		l, ok := x.d.Look(uint16(at))
		if string(b) != readText || e != readErr || string(l) != lookText || ok != lookTells {
			return false
		}
	}
	return true
}

// acts are all that may be done to a disk of few blocks.
func acts(blocks int) []act {
	var all []act
	add := func(what string, do func(x both) bool) { all = append(all, act{what, do}) }
	for at := range blocks + 1 {
		a := uint16(at)
		for c := range byte(2) {
			add(fmt.Sprintf("write %d %d", at, c), func(x both) bool {
				b := some(c + 3*byte(at))
				return x.d.Write(a, b) == x.m.write(at, string(b))
			})
		}
		add(fmt.Sprintf("rot %d", at), func(x both) bool {
			b := some(200)
			return x.d.Rot(a, b) == x.m.fault(at, len(b), func() { x.m.text[at] = string(b) })
		})
		add(fmt.Sprintf("bad %d", at), func(x both) bool {
			return x.d.Bad(a) == x.m.fault(at, api.Block, func() { x.m.bad[at] = true })
		})
		add(fmt.Sprintf("stick %d", at), func(x both) bool {
			return x.d.Stick(a) == x.m.fault(at, api.Block, func() { x.m.stuck[at] = true })
		})
		add(fmt.Sprintf("astray %d", at), func(x both) bool {
			x.d.Astray(a)
			x.m.armed = append(x.m.armed, "astray")
			x.m.to = at
			return true
		})
	}
	add("write too few", func(x both) bool { return x.d.Write(0, nil) == x.m.write(0, "") })
	add("flush", func(x both) bool { return x.d.Flush() == x.m.flush() })
	add("lose", func(x both) bool { x.d.Lose(); x.m.armed = append(x.m.armed, "lose"); return true })
	for _, picks := range [][]int{nil, {1}, {0, 1, 2, 300}, {2, 1, 700, 1, 40}, {math.MaxInt, -1, 514, 513, 1}} {
		add(fmt.Sprint("crash ", picks), func(x both) bool { x.d.Crash(picks); x.m.crash(picks); return true })
	}
	for _, n := range []int{-1, 0, 1, 3} {
		add(fmt.Sprint("fuse ", n), func(x both) bool {
			x.p.Fuse(n)
			if x.m.on {
				x.m.fused, x.m.fuse = n >= 0, n
			}
			return true
		})
	}
	add("step", func(x both) bool { return x.p.Step() == x.m.step() })
	add("back", func(x both) bool { x.p.Back(); x.m.on, x.m.fused = true, false; return true })
	add("die", func(x both) bool { x.d.Die(); x.m.dead = true; return true })
	return all
}

// run does a script, act by act, and asks for all behind each of them.
func run(t *testing.T, blocks int, script []act) {
	t.Helper()
	p := disk.On()
	d, _ := disk.New(blocks, p)
	x := both{d, p, newPlain(blocks)}
	for i, a := range script {
		if !a.do(x) || !tellsSame(x) {
			var what []string
			for _, a := range script[:i+1] {
				what = append(what, a.what)
			}
			t.Fatalf("not as it should be behind: %s", strings.Join(what, "; "))
		}
	}
}

// draws hands out numbers below n, the same ones for the same seed.
func draws(seed uint32) func(n int) int {
	return func(n int) int {
		seed = seed*1664525 + 1013904223
		return int(seed>>8) % n
	}
}

// P4.1 to P4.5: each script of three acts.
func TestShortScripts(t *testing.T) {
	all := acts(2)
	for _, a := range all {
		for _, b := range all {
			for _, c := range all {
				run(t, 2, []act{a, b, c})
			}
		}
	}
}

// P4.1 to P4.5: long scripts; what ends all is rare in them.
func TestLongScripts(t *testing.T) {
	draw := draws(1)
	for range 400 {
		blocks := 1 + draw(4)
		all := acts(blocks)
		var script []act
		for len(script) < 80 {
			a := all[draw(len(all))]
			if rare := a.what == "die" || strings.HasPrefix(a.what, "stick"); !rare || draw(20) == 0 {
				script = append(script, a)
			}
		}
		run(t, blocks, script)
	}
}

// wrote is a write, and where it went.
type wrote struct {
	at int
	b  []byte
}

// brought is whether a byte of an address is one that stood there, or that a write to it brought.
func brought(got byte, at, i int, stood [][]byte, since []wrote) bool {
	if got == stood[at][i] {
		return true
	}
	return slices.ContainsFunc(since, func(w wrote) bool { return w.at == at && w.b[i] == got })
}

// P4.6: behind a crash each byte is one that stood there, or that a write of the cache brought; without writes nothing is changed.
func TestCrashBringsNothingElse(t *testing.T) {
	draw := draws(2)
	const blocks = 3
	d, p := made(t, blocks)
	stood := slices.Repeat([][]byte{full(0)}, blocks)
	for round := range 2000 {
		for at := range stood {
			stood[at], _ = d.Look(uint16(at))
		}
		if draw(2) == 0 { // behind a crash the cache is empty, so a flush changes nothing of this
			flush(t, d)
		}
		var since []wrote
		for range draw(5) {
			w := wrote{draw(blocks), some(byte(draw(256)))}
			put(t, d, uint16(w.at), w.b)
			since = append(since, w)
		}
		if draw(2) == 0 {
			off(p)
		}
		var picks []int
		for range draw(6) {
			picks = append(picks, []int{-1, 0, 1, 2 + draw(3*api.Block)}[draw(4)])
		}
		d.Crash(picks)
		p.Back()
		for at := range stood {
			b, e := d.Read(uint16(at))
			is(t, "Read", e, api.OK)
			for i, got := range b {
				if !brought(got, at, i, stood, since) {
					t.Fatalf("round %d, %v: byte %d of %d is neither old nor new", round, picks, i, at)
				}
			}
		}
	}
}
