package dir_test

import (
	"bytes"
	"slices"
	"strings"
	"testing"

	"kintsugi/api"
	"kintsugi/dir"
	"kintsugi/inode"
)

// P14.1, P14.2: the chapter's examples, one behind the other.
func TestExamples(t *testing.T) {
	a, b := dir.Entry{Name: "a", Num: 3, Kind: inode.Dir}, dir.Entry{Name: "b", Num: 2, Kind: inode.File}
	l, e := dir.Add(nil, b)
	if e != api.OK || !slices.Equal(l, []dir.Entry{b}) {
		t.Fatal(l, e)
	}
	if l, e = dir.Add(l, a); e != api.OK || !slices.Equal(l, []dir.Entry{a, b}) {
		t.Fatal(l, e)
	}
	if x, e := dir.Put(l); e != api.OK || string(x) != "\x01\x61\x03\x00\x02\x01\x62\x02\x00\x01" {
		t.Errorf("Put: %x, %v", x, e)
	}
	if m, e := dir.Add(l, dir.Entry{Name: "a", Num: 4, Kind: inode.File}); len(m) != 0 || e != api.EEXIST {
		t.Errorf("Add of a: %v, %v", m, e)
	}
	if m, e := dir.Drop(l, "c"); len(m) != 0 || e != api.ENOENT {
		t.Errorf("Drop of c: %v, %v", m, e)
	}
}

// P14.1: no entries have no bytes, and no bytes are no entries'.
func TestNone(t *testing.T) {
	for _, l := range [][]dir.Entry{nil, {}} {
		if b, e := dir.Put(l); len(b) != 0 || e != api.OK {
			t.Errorf("Put: %x, %v", b, e)
		}
	}
	for _, b := range [][]byte{nil, {}} {
		if l, e := dir.Take(b); len(l) != 0 || e != api.OK {
			t.Errorf("Take: %v, %v", l, e)
		}
	}
}

// P14.1: one entry, of each name and each of what it may say beside; and all of these names in one list.
func TestBytes(t *testing.T) {
	var all []dir.Entry
	for _, name := range names() {
		for _, other := range others() {
			puts(t, []dir.Entry{named(name, other)})
		}
		all = append(all, file(name))
	}
	puts(t, all)
	for i := range all {
		for j := i; j <= len(all); j++ {
			puts(t, all[i:j])
		}
	}
}

// P14.1: each number of two bytes, and each kind of one: just those that may be are put, and taken.
func TestEachNumberAndKind(t *testing.T) {
	for num := range 1 << 16 {
		l := []dir.Entry{{Name: "n", Num: uint16(num), Kind: inode.File}}
		if num >= 1 && num <= api.MaxObject {
			puts(t, l)
		} else {
			noEntries(t, l)
		}
	}
	for kind := range 256 {
		l := []dir.Entry{{Name: "n", Num: 1, Kind: uint8(kind)}}
		if kind >= 1 && kind <= 3 {
			puts(t, l)
		} else {
			noEntries(t, l)
		}
	}
}

// P14.1: there are as many as MaxEntries, of the shortest and the longest names; one more are none.
func TestMost(t *testing.T) {
	for _, width := range []int{2, 3, 23, 24} {
		l := full(width)
		puts(t, l)
		noEntries(t, append(slices.Clone(l), file("z")))
		noEntries(t, append([]dir.Entry{file("A")}, l...))
		noEntries(t, append(append(slices.Clone(l), file("y")), file("z")))
	}
}

// P14.1: entries of which one may not be, first, in the middle, last, or alone, are none; their bytes neither.
func TestOneThatMayNotBe(t *testing.T) {
	var wrong []dir.Entry
	for _, other := range notOthers() {
		for _, name := range []string{"m", strings.Repeat("m", 24), "é"} {
			wrong = append(wrong, named(name, other))
		}
	}
	for _, list := range notNames() {
		for _, name := range list {
			wrong = append(wrong, named(name, dir.Entry{Num: 1, Kind: inode.File}), dir.Entry{Name: name})
		}
	}
	for _, w := range wrong {
		noEntries(t, []dir.Entry{w})
		for _, l := range [][]dir.Entry{
			{w, file("\U0010ffff")}, {file("\x01"), w}, {file("\x01"), w, file("\U0010ffff")},
		} {
			if b, e := dir.Put(l); e != api.ErrForm || len(b) != 0 {
				t.Errorf("Put of %v: %x, %v", l, b, e)
			}
			if len(w.Name) < 256 {
				noBytes(t, bytesOf(l...))
			}
		}
	}
}

// P14.1: entries rise by their names, byte by byte, a name ahead of those that it begins; what falls, or is there twice, are none.
func TestOrder(t *testing.T) {
	all := names()
	for i, a := range all {
		for j, b := range all {
			l := []dir.Entry{named(a, dir.Entry{Num: 9, Kind: 1}), named(b, dir.Entry{Num: 1, Kind: 3})}
			if (i < j) != (bytes.Compare([]byte(a), []byte(b)) < 0) {
				t.Fatalf("the test's names don't rise: %q, %q", a, b)
			}
			if i < j {
				puts(t, l)
			} else {
				noEntries(t, l)
			}
		}
	}
	noEntries(t, []dir.Entry{file("a"), file("c"), file("b")})
	noEntries(t, []dir.Entry{file("a"), file("b"), file("b")})
	noEntries(t, []dir.Entry{file("a"), file("b"), file("a")})
	noEntries(t, []dir.Entry{file("b"), file("a"), file("c")})
	puts(t, []dir.Entry{{Name: "a", Num: 5, Kind: 1}, {Name: "b", Num: 5, Kind: 1}})
}

// P14.1: bytes that end too soon, at each place but behind an entry, and bytes with some more behind them, are none's.
func TestCutBytes(t *testing.T) {
	l := []dir.Entry{file("a"), file("bc"), file("é"), file(strings.Repeat("ż", 12))}
	b := bytesOf(l...)
	ends := map[int]int{}
	for i := range len(l) + 1 {
		ends[len(bytesOf(l[:i]...))] = i
	}
	for n := range len(b) + 1 {
		if i, ok := ends[n]; ok {
			takes(t, b[:n], l[:i])
		} else {
			noBytes(t, b[:n])
		}
	}
	for _, more := range [][]byte{{0}, {0, 0, 0, 0}, {0, 1, 0, 1}, make([]byte, 100), {1}, {255}, {24, 'z'}, bytesOf(l[0]), b} {
		noBytes(t, slices.Concat(b, more))
	}
	noBytes(t, []byte{0})
	noBytes(t, []byte{0, 1, 0, 1})
	noBytes(t, make([]byte, 512))
	noBytes(t, bytes.Repeat([]byte{0xff}, 600))
	noBytes(t, make([]byte, api.MaxFile))
}

// P14.1: of an entry's name as many bytes are told as it has, so that a longer one's don't go round.
func TestLongNames(t *testing.T) {
	for n := range 600 {
		l := []dir.Entry{{Name: strings.Repeat("a", n), Num: 1, Kind: inode.File}}
		if n >= 1 && n <= api.MaxName {
			puts(t, l)
		} else if b, e := dir.Put(l); e != api.ErrForm || len(b) != 0 {
			t.Errorf("Put of a name of %d: %x, %v", n, b, e)
		} else if n < 256 {
			noBytes(t, bytesOf(l...))
		}
	}
}

// P14.3: whatever becomes of entries' bytes, either they are none's, or what they are is put to just them.
func TestBytesAreTheirOwn(t *testing.T) {
	l := []dir.Entry{{Name: "a", Num: 1, Kind: 1}, {Name: "ab", Num: 255, Kind: 2}, {Name: "b\u0101", Num: 3, Kind: 3}, {Name: "c", Num: 100, Kind: 1}}
	b := bytesOf(l...)
	taken := 0
	for i := range b {
		for x := range 256 {
			other := bytes.Clone(b)
			other[i] = byte(x)
			m, e := dir.Take(other)
			if e == api.OK {
				taken++
				puts(t, m)
				if again, e := dir.Put(m); e != api.OK || !bytes.Equal(again, other) {
					t.Errorf("Take of %x: %v, Put of them: %x, %v", other, m, again, e)
				}
				continue
			}
			noBytes(t, other)
		}
	}
	// All numbers, all kinds, and many names' bytes.
	if taken < 4*255+4*3 {
		t.Errorf("only %d taken", taken)
	}
}

// P14.3, R1: bytes at random, short ones, of which some are entries'.
func TestWildBytes(t *testing.T) {
	draw := draws(3)
	taken := 0
	for range 200000 {
		var b []byte
		for range draw(4) {
			b = append(b, byte(draw(3)))
			for range draw(3) {
				b = append(b, byte('a'+draw(4)))
			}
			b = append(b, byte(draw(5)), byte(draw(20)/19), byte(draw(5)))
		}
		l, e := dir.Take(b)
		if e != api.OK {
			noBytes(t, b)
			continue
		}
		if again, e := dir.Put(l); e != api.OK || !bytes.Equal(again, b) {
			t.Fatalf("Take of %x: %v, Put of them: %x, %v", b, l, again, e)
		}
		if len(l) > 0 {
			taken++
		}
	}
	if taken < 1000 {
		t.Errorf("only %d taken", taken)
	}
}

// P14.2: a name is found, put in, and taken out at each place, among each number of others.
func TestEachPlace(t *testing.T) {
	all := names()
	for i, name := range all {
		var others []dir.Entry
		for j, other := range all {
			if j != i {
				others = append(others, file(other))
			}
		}
		for from := range others {
			for _, to := range []int{from, from + 1, len(others)} {
				l := others[from:to]
				at := min(max(i-from, 0), len(l))
				with := slices.Concat(l[:at], []dir.Entry{file(name)}, l[at:])
				adds(t, l, file(name), with, api.OK)
				drops(t, with, name, l, api.OK)
				finds(t, with, name, file(name), true)
				finds(t, l, name, dir.Entry{}, false)
				drops(t, l, name, nil, api.ENOENT)
				adds(t, with, named(name, dir.Entry{Num: 1, Kind: 1}), nil, api.EEXIST)
			}
		}
	}
}

// P14.2: each of what an entry may say is added, and found as it is.
func TestAddOfEach(t *testing.T) {
	l := []dir.Entry{file("a"), file("n"), file("z")}
	for _, other := range others() {
		e := named("m", other)
		with := []dir.Entry{l[0], e, l[1], l[2]}
		adds(t, l, e, with, api.OK)
		finds(t, with, "m", e, true)
		adds(t, nil, e, []dir.Entry{e}, api.OK)
		drops(t, []dir.Entry{e}, "m", nil, api.OK)
	}
}

// P14.2: the place goes by the name alone, and more names may have one number.
func TestPlaceIsTheNames(t *testing.T) {
	l := []dir.Entry{{Name: "a", Num: 9, Kind: 3}, {Name: "c", Num: 1, Kind: 1}}
	e := dir.Entry{Name: "b", Num: 9, Kind: 3}
	adds(t, l, e, []dir.Entry{l[0], e, l[1]}, api.OK)
	e = dir.Entry{Name: "B", Num: 255, Kind: 2}
	adds(t, l, e, []dir.Entry{e, l[0], l[1]}, api.OK)
	e = dir.Entry{Name: "d", Num: 1, Kind: 1}
	adds(t, l, e, []dir.Entry{l[0], l[1], e}, api.OK)
}

// P14.2: a name is none of those that it begins, nor of those that begin it, nor one of other letters.
func TestFindIsExact(t *testing.T) {
	l := []dir.Entry{file("A"), file("ab"), file("abcd"), file("é")}
	for _, name := range []string{"", "a", "abc", "abcde", "AB", "e\u0301", "e", "\xc3", "é ", " é", "Ab", "ab\x00", ".", "..", "ab/", "/ab", "\xff", strings.Repeat("a", 300)} {
		finds(t, l, name, dir.Entry{}, false)
		drops(t, l, name, nil, api.ENOENT)
	}
	for i, name := range []string{"A", "ab", "abcd", "é"} {
		finds(t, l, name, l[i], true)
		drops(t, l, name, slices.Concat(l[:i], l[i+1:]), api.OK)
	}
	finds(t, nil, "a", dir.Entry{}, false)
	drops(t, nil, "a", nil, api.ENOENT)
	finds(t, nil, "", dir.Entry{}, false)
	drops(t, nil, "", nil, api.ENOENT)
}

// P14.2, R5: Add's errors, each by itself, and each two that can be there at once: the first one is told.
func TestAddErrors(t *testing.T) {
	some := []dir.Entry{file("a"), file("b")}
	most := full(2)
	good := dir.Entry{Num: 1, Kind: inode.File}
	for _, l := range [][]dir.Entry{nil, some, most} {
		for i, fault := range []api.Errno{api.EILSEQ, api.EINVAL, api.ENAMETOOLONG} {
			for _, name := range notNames()[i] {
				adds(t, l, named(name, good), nil, fault)
				for _, other := range notOthers() {
					adds(t, l, named(name, other), nil, fault)
				}
			}
		}
		for _, other := range notOthers() {
			adds(t, l, named("new", other), nil, api.EINVAL)
			for _, there := range l {
				adds(t, l, named(there.Name, other), nil, api.EINVAL)
			}
		}
		for _, there := range l {
			adds(t, l, there, nil, api.EEXIST)
			adds(t, l, named(there.Name, good), nil, api.EEXIST)
		}
	}
	for _, name := range names() {
		adds(t, most, named(name, good), nil, api.EMLINK)
	}
	adds(t, most[1:], named("\x01", good), append([]dir.Entry{named("\x01", good)}, most[1:]...), api.OK)
	adds(t, most[:63], named("z", good), append(slices.Clone(most[:63]), named("z", good)), api.OK)
}

// P14.2: behind a Drop, full entries have room for one again.
func TestRoomAgain(t *testing.T) {
	l := full(24)
	for i, there := range l {
		m, e := dir.Drop(l, there.Name)
		if e != api.OK || len(m) != 63 {
			t.Fatal(len(m), e)
		}
		adds(t, m, file("new"), append(slices.Clone(m), file("new")), api.OK)
		adds(t, m, there, l, api.OK)
		finds(t, m, there.Name, dir.Entry{}, false)
		finds(t, m, l[(i+1)%64].Name, l[(i+1)%64], true)
	}
}

// R1: what are no entries: nothing panics; a name that is there is found, and dropped, and is there to Add; nothing handed in is changed.
func TestWildLists(t *testing.T) {
	draw := draws(5)
	all := append(names(), "", ".", "a/", "\xff", strings.Repeat("x", 300))
	for range 3000 {
		var l []dir.Entry
		for range draw(90) {
			l = append(l, dir.Entry{Name: all[draw(len(all))], Num: uint16(draw(300)), Kind: uint8(draw(5))})
		}
		in := roomy(l)
		name := all[draw(len(all))]
		i := slices.IndexFunc(l, func(e dir.Entry) bool { return e.Name == name })
		if got, ok := dir.Find(in, name); ok != (i >= 0) || ok && got != l[i] || !ok && got != (dir.Entry{}) {
			t.Errorf("Find of %q in %v: %v, %v", name, l, got, ok)
		}
		if m, e := dir.Drop(in, name); (e == api.OK) != (i >= 0) || e == api.OK && len(m) != len(l)-1 || e != api.OK && len(m) != 0 {
			t.Errorf("Drop of %q from %v: %v, %v", name, l, m, e)
		}
		if m, e := dir.Add(in, file(name)); e == api.OK && (i >= 0 || len(l) >= 64 || len(m) != len(l)+1) || e != api.OK && len(m) != 0 {
			t.Errorf("Add of %q to %v: %v, %v", name, l, m, e)
		}
		if b, e := dir.Put(in); e == api.OK {
			takes(t, b, l)
		} else if e != api.ErrForm || len(b) != 0 {
			t.Errorf("Put of %v: %x, %v", l, b, e)
		}
		unhurt(t, in, l)
	}
}

// R3: what was handed out shares nothing with what was handed in, nor with a later answer.
func TestNothingIsShared(t *testing.T) {
	l := roomy([]dir.Entry{file("a"), file("c"), file("e")})
	was := slices.Clone(l)
	first, _ := dir.Add(l, file("f"))
	second, _ := dir.Add(l, file("g"))
	if first[3] != file("f") || second[3] != file("g") {
		t.Error("two lists share their last entry")
	}
	third, _ := dir.Add(first, file("h"))
	fourth, _ := dir.Add(first, file("i"))
	if third[4] != file("h") || fourth[4] != file("i") {
		t.Error("two lists share the room behind one")
	}
	fifth, _ := dir.Drop(first, "f")
	scribble(fifth)
	if first[0] != file("a") || first[3] != file("f") {
		t.Error("a list without an entry shares the others")
	}
	l[0] = file("zzz")
	if first[0] != file("a") || second[0] != file("a") {
		t.Error("what was handed in is kept")
	}
	l[0] = was[0]
	unhurt(t, l, was)
	b := bytesOf(was...)
	m, _ := dir.Take(b)
	clear(b)
	if !slices.Equal(m, was) {
		t.Errorf("the bytes were kept: %v", m)
	}
}

// P14.3: scripts of adds and drops, held against a map, with finds, bytes, and both calls' errors between; at times the entries are those of their bytes.
func TestScripts(t *testing.T) {
	met := map[api.Errno]int{}
	for seed := range uint32(60) {
		draw := draws(seed)
		pool := drawnNames(draw, 30+20*int(seed%5))
		var l []dir.Entry
		w := plain{}
		for step := range 400 {
			name := pool[draw(len(pool))]
			there, ok := w[name]
			finds(t, l, name, there, ok)
			var next plain
			var m []dir.Entry
			var want, got api.Errno
			// At first more are put in than taken out, so that there come to be as many as there may be.
			if draw(10) < 9-step/100 {
				e := dir.Entry{Name: name, Num: uint16(draw(258)), Kind: uint8(1 + draw(3) + draw(10)/9)}
				next, want = w.add(e)
				m, got = dir.Add(l, e)
			} else {
				next, want = w.drop(name)
				m, got = dir.Drop(l, name)
			}
			if got != want || !slices.Equal(m, next.entries()) {
				t.Fatalf("seed %d: %q: %v, %v, want %v, %v", seed, name, m, got, next.entries(), want)
			}
			met[got]++
			if got != api.OK {
				continue
			}
			l, w = m, next
			if draw(3) == 0 {
				puts(t, l)
				b, _ := dir.Put(l)
				l, _ = dir.Take(b)
			}
		}
		for _, name := range pool {
			finds(t, l, name, w[name], w[name] != dir.Entry{})
		}
	}
	for _, e := range []api.Errno{api.OK, api.EILSEQ, api.EINVAL, api.ENAMETOOLONG, api.EEXIST, api.EMLINK, api.ENOENT} {
		if met[e] < 50 {
			t.Errorf("error %d came %d times", e, met[e])
		}
	}
}

// drawnNames are some for a script: those of the edges, wrong ones too, and others.
func drawnNames(draw func(n int) int, n int) []string {
	all := names()
	for _, list := range notNames() {
		all = append(all, list[draw(len(list))])
	}
	for len(all) < n {
		all = append(all, strings.Repeat(string(rune('a'+draw(26))), 1+draw(3))+string(rune('a'+draw(26))))
	}
	return all
}
