package dir_test

import (
	"bytes"
	"maps"
	"math"
	"slices"
	"strings"
	"testing"

	"kintsugi/api"
	"kintsugi/dir"
)

// plain is a directory as the map of its names that the chapter says it is.
type plain map[string]dir.Entry

// entries are the map's, by rising names.
func (w plain) entries() []dir.Entry {
	var l []dir.Entry
	for _, name := range slices.Sorted(maps.Keys(w)) {
		l = append(l, w[name])
	}
	return l
}

// add is what Add answers, and the map behind it.
func (w plain) add(e dir.Entry) (plain, api.Errno) {
	_, there := w[e.Name]
	switch fault := nameFault(e.Name); {
	case fault != api.OK:
		return nil, fault
	case e.Num < 1 || e.Num > 255 || e.Kind < 1 || e.Kind > 3:
		return nil, api.EINVAL
	case there:
		return nil, api.EEXIST
	case len(w) == 64:
		return nil, api.EMLINK
	}
	next := maps.Clone(w)
	next[e.Name] = e
	return next, api.OK
}

// drop is what Drop answers, and the map behind it.
func (w plain) drop(name string) (plain, api.Errno) {
	if _, there := w[name]; !there {
		return nil, api.ENOENT
	}
	next := maps.Clone(w)
	delete(next, name)
	return next, api.OK
}

// nameFault is what chapter 3 says of a name; it is told of the names of these tests alone.
func nameFault(name string) api.Errno {
	for i, fault := range []api.Errno{api.EILSEQ, api.EINVAL, api.ENAMETOOLONG} {
		if slices.Contains(notNames()[i], name) {
			return fault
		}
	}
	return api.OK
}

// names are some that may be, by rising bytes: the least and the greatest, of one rune and of MaxName bytes, of runes of each width.
func names() []string {
	return []string{
		"\x01", " ", "-", "...", ".a", "A", "Z", "a", "a ", "aa", "ab", "abc", strings.Repeat("b", 23), strings.Repeat("b", 24),
		"bc", "\x7f", "\u0080", "é", "\u07ff", "\u0800", "€", strings.Repeat("€", 8), "\ud7ff", "\ue000", "\ufffd", "\uffff", "\U00010000", strings.Repeat("\U00010000", 6), "\U0010ffff",
	}
}

// notNames are some that may not be, by the three errors of chapter 3: EILSEQ, EINVAL, ENAMETOOLONG.
func notNames() [3][]string {
	long := strings.Repeat("a", 25)
	return [3][]string{
		{"\xff", "a\x80", "\xc3", "a\xe2\x82", "\xed\xa0\x80", "\xc0\x80", "\xf4\x90\x80\x80", "\xff/", long + "\xff"},
		{"", ".", "..", "/", "a/", "/a", "a/b", "\x00", "a\x00", "\x00\xff", "/\xff", long + "/"},
		{long, strings.Repeat("€", 8) + "a", strings.Repeat("é", 13), strings.Repeat("a", 255), strings.Repeat("a", 256), strings.Repeat("a", 257), strings.Repeat("a", 256+3), strings.Repeat("a", 5000)},
	}
}

// others are what entries may say beside a name: each kind, the least and the greatest number.
func others() []dir.Entry {
	var l []dir.Entry
	for _, num := range []uint16{1, 2, 127, 128, 254, 255} {
		for kind := range uint8(3) {
			l = append(l, dir.Entry{Num: num, Kind: kind + 1})
		}
	}
	return l
}

// notOthers are what none may say; each breaks one rule alone.
func notOthers() []dir.Entry {
	var l []dir.Entry
	for _, num := range []uint16{0, 256, 257, 511, 512, 0x0100, 0xff00, math.MaxInt16, 1 << 15, math.MaxUint16} {
		for kind := range uint8(3) {
			l = append(l, dir.Entry{Num: num, Kind: kind + 1})
		}
	}
	for _, kind := range []uint8{0, 4, 5, 127, 128, 254, 255} {
		l = append(l, dir.Entry{Num: 1, Kind: kind}, dir.Entry{Num: 255, Kind: kind})
	}
	return l
}

// named is an entry with a name, and what else another one says.
func named(name string, other dir.Entry) dir.Entry {
	other.Name = name
	return other
}

// file is an entry of a number drawn from its name.
func file(name string) dir.Entry {
	n := 7
	for _, x := range []byte(name) {
		n = n*31%255 + int(x)
	}
	return dir.Entry{Name: name, Num: uint16(n%255 + 1), Kind: uint8(n%3 + 1)}
}

// full are as many entries as there may be, with names of so many bytes.
func full(width int) []dir.Entry {
	var l []dir.Entry
	for i := range 64 {
		l = append(l, file(string(rune('A'+i/8))+string(rune('a'+i%8))+strings.Repeat("x", width-2)))
	}
	return l
}

// bytesOf are entries' bytes in the chapter's words, whatever the entries are.
func bytesOf(l ...dir.Entry) []byte {
	var b bytes.Buffer
	for _, e := range l {
		b.WriteByte(byte(len(e.Name)))
		b.WriteString(e.Name)
		b.Write([]byte{byte(e.Num), byte(e.Num >> 8), e.Kind})
	}
	return b.Bytes()
}

// draws hands out numbers below n, the same ones for the same seed.
func draws(seed uint32) func(n int) int {
	return func(n int) int {
		seed = seed*1664525 + 1013904223
		return int(seed>>8) % n
	}
}

// roomy is a list with entries in the room behind it, which no call may touch.
func roomy(l []dir.Entry) []dir.Entry {
	whole := append(slices.Clone(l), trap, trap, trap)
	return whole[:len(l)]
}

// trap is what stands in that room.
var trap = dir.Entry{Name: "trap", Num: 99, Kind: 2}

// unhurt says where a list of roomy's is no more what it was.
func unhurt(t *testing.T, l, was []dir.Entry) {
	t.Helper()
	if !slices.Equal(l, was) || !slices.Equal(l[len(l):len(l)+3], []dir.Entry{trap, trap, trap}) {
		t.Errorf("what was handed in is %v, was %v", l[:len(l)+3], was)
	}
}

// scribble writes all over a list that was handed out, and over its spare room.
func scribble(l []dir.Entry) {
	l = l[:cap(l)]
	for i := range l {
		l[i] = dir.Entry{Name: "scribble", Num: 1, Kind: 1}
	}
}

// adds says where Add doesn't answer what it should, or hurts what it was handed.
func adds(t *testing.T, l []dir.Entry, e dir.Entry, want []dir.Entry, errno api.Errno) {
	t.Helper()
	in := roomy(l)
	for range 2 {
		got, fault := dir.Add(in, e)
		if fault != errno || !slices.Equal(got, want) {
			t.Errorf("Add of %+v to %d: %v, %v, want %v, %v", e, len(l), got, fault, want, errno)
		}
		scribble(got)
		unhurt(t, in, l)
	}
}

// drops says where Drop doesn't.
func drops(t *testing.T, l []dir.Entry, name string, want []dir.Entry, errno api.Errno) {
	t.Helper()
	in := roomy(l)
	for range 2 {
		got, fault := dir.Drop(in, name)
		if fault != errno || !slices.Equal(got, want) {
			t.Errorf("Drop of %q from %d: %v, %v, want %v, %v", name, len(l), got, fault, want, errno)
		}
		scribble(got)
		unhurt(t, in, l)
	}
}

// finds says where Find doesn't.
func finds(t *testing.T, l []dir.Entry, name string, want dir.Entry, there bool) {
	t.Helper()
	in := roomy(l)
	if got, ok := dir.Find(in, name); ok != there || got != want {
		t.Errorf("Find of %q in %v: %+v, %v, want %+v, %v", name, l, got, ok, want, there)
	}
	unhurt(t, in, l)
}

// puts says where Put and Take of entries don't answer these bytes, and the entries again.
func puts(t *testing.T, l []dir.Entry) {
	t.Helper()
	in, want := roomy(l), bytesOf(l...)
	for range 2 {
		b, e := dir.Put(in)
		if e != api.OK || !bytes.Equal(b, want) {
			t.Errorf("Put of %v: %x, %v, want %x", l, b, e, want)
		}
		b = b[:cap(b)]
		for i := range b {
			b[i] = 0xee
		}
		unhurt(t, in, l)
	}
	takes(t, want, l)
}

// takes says where Take of bytes doesn't answer these entries.
func takes(t *testing.T, b []byte, want []dir.Entry) {
	t.Helper()
	in := append(bytes.Clone(b), 0xdd)
	for range 2 {
		l, e := dir.Take(in[:len(b)])
		if e != api.OK || !slices.Equal(l, want) {
			t.Errorf("Take of %x: %v, %v, want %v", b, l, e, want)
		}
		scribble(l)
		if !bytes.Equal(in[:len(b)], b) || in[len(b)] != 0xdd {
			t.Errorf("Take changed %x to %x", b, in)
		}
	}
}

// noEntries says where Put, or Take of their bytes, lets what are no entries be some.
func noEntries(t *testing.T, l []dir.Entry) {
	t.Helper()
	in := roomy(l)
	if b, e := dir.Put(in); e != api.ErrForm || len(b) != 0 {
		t.Errorf("Put of %v: %x, %v", l, b, e)
	}
	unhurt(t, in, l)
	noBytes(t, bytesOf(l...))
}

// noBytes says where Take lets bytes be some entries'.
func noBytes(t *testing.T, b []byte) {
	t.Helper()
	in := bytes.Clone(b)
	if l, e := dir.Take(in); e != api.ErrForm || len(l) != 0 {
		t.Errorf("Take of %x: %v, %v", b, l, e)
	}
	if !bytes.Equal(in, b) {
		t.Errorf("Take changed %x to %x", b, in)
	}
}
